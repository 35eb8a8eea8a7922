/- Texts one behind the other: WG WH XJ XK XL. -/
import Derived.Test.YtkekkbciiohbkaaGreatDoorZ35
import Derived.Test.YtkekkbciiohbkaaGreatDoorZ33
import Derived.Shelf.Strings.LastIndex
import Derived.Shelf.Strings.Search3
import Derived.Laws.StructEq
set_option maxRecDepth 100000
set_option maxHeartbeats 16000000
set_option linter.unusedVariables false
set_option linter.unnecessarySimpa false
namespace Go.Proofs.YtkekkbciiohbkaaGreatDoor.X
open Go.RowKit
open Go.Proofs.YtkekkbciiohbkaaGreatDoor.F (hx bw vl cJ bn aa aC av aq ar hid aj ab ah aR aK)
theorem Bts.form{e:TypeId}{w:World}{base:Nat}{v:Value}{l:List Int}(h:Bts e w base v l):∃ p n c,v=.slice p n c:=by
 rcases h with⟨rfl,rfl⟩ | ⟨g,cap,cur,fz,rfl,_⟩
 ·exact⟨_,_,_,rfl⟩
 ·exact⟨_,_,_,rfl⟩
theorem zM:(Tryz.prog.info? 5).map (fun i=>(i.zero,i.size,i.bytes))=some (some (.int .u8 0),1,1):=by kernel_rfl
theorem gR{w w1 w2:World}{row:Option Nat}(h:Below w.heap.size w w1)(g:w1.grownBy w2 row):w.grownBy w2 row :=
 ⟨g.os.trans h.os,g.tape.trans h.tape,g.output.trans h.output,Nat.le_trans h.size g.size,fun k hk hr=>(g.block k (Nat.lt_of_lt_of_le hk h.size) hr).trans (h.block k hk)⟩
theorem xe(base:Nat)(v:Value)(l:List Int)(u:Nat)(hu:u<65536)(w:World)(hT:Tab w)(hn:l.length≤10000000)(hrow:Bts 5 w base v l)(hb:base≤w.heap.size):
  Calls Tryz.prog 142 #[v,.int .u64 u,.int .i64 16,.bool false,.bool true] w fun e W'=>∃ v',e=.returned (.tuple #[v',.string ⟨#[]⟩])∧Bts 5 W' base v' (l++aS false false u)∧w.grownBy W' v.ownBlock:=by
 obtain⟨i0,hi0,hz0,hz1,hz2⟩:=info_parts zM;obtain⟨vp,vn,vc,hvv⟩:=hrow.form;subst hvv;have HHX:=hid (zO hu);have hlen4:=ft false false u;obtain⟨z,hzv,hzl⟩:∃ z:Array Value,(∀ w,(zeroValue 191).run Tryz.prog w=.ok (.agg z) w)∧z.toList=List.replicate 65 (.int .u8 0):=⟨(List.replicate 65 (.int .u8 0)).toArray,(zero_of_info (P:=Tryz.prog) (t:=191) (n:=65) (by kernel_rfl)).1,rfl⟩;go_enter Tryz.func142,Tryz.ntmps142
 go_wp2_with((refine aT rfl 191 rfl z hzv ?_))
 refine(vO _).mono ?_;rintro e w1 ⟨rfl,rfl⟩
 go_wp2_with fail;refine(vq _ (hT.below ((Below.refl _ w).alloc (Nat.le_refl _) _) (Nat.le_refl _))).mono ?_;rintro e w1 ⟨rfl,rfl⟩
 go_wp2_with fail;have hzs:z.size=65:=by rw[←Array.length_toList,hzl];simp
 have hz:(w.alloc (.cells z 191)).ownsRow w.heap.size 191 1 (.slice (some ⟨w.heap.size,0,none⟩) 65 65) 65 (List.replicate 65 (.int .u8 0)) :=
  ⟨by simp,.inr ⟨w.heap.size,65,z,rfl,Nat.le_refl _,heap_alloc_new w _,Nat.le_refl _,by decide,hzs,by rw[hzl];rfl⟩⟩
 go_loopw [1,13] (fun a i wr=>∃(k I m:Nat) (ds:List Int) (ys:List Value),a=.int .u64 (m:Int)∧i=.int .i64 (I:Int)∧I+k=65∧szU k m∧wr.ownsRow w.heap.size 191 1 (.slice (some ⟨w.heap.size,0,none⟩) 65 65) 65 ys∧Hid (ys.drop I=ds.map (Value.int .u8))∧Hid (hxf 8 u=hxf (8 - k) m++ds)∧Below w.heap.size w wr)
  (fun a _ _=>(intOf a).toNat)
 case atStart=>exact⟨0,65,u,[],List.replicate 65 (.int .u8 0),rfl,rfl,rfl,.inl ⟨rfl,by omega⟩,hz,by show _=_;rw[List.drop_eq_nil_of_le (by simp)];rfl,by show _=_;simp,(Below.refl _ w).alloc (Nat.le_refl _) _⟩
 case round =>
  obtain⟨k,I,m,ds,ys,rfl,rfl,hIk,hsz,hr,HD,HH,hB⟩:=hrel;have hm:=Fa hsz;have HI:=hid hIk;have hI1:60≤I:=by omega
  have hI2:I≤65:=by omega
  clear hIk hz;by_cases h16:16≤m
  ·have hand:bits BinOp.and IntKind.u64 (m:Int) 15=((m % 16:Nat):Int):=by
    have:=u64_and_nat m 15 (by omega) (by omega);rw[show m &&& 15=m % 16 from Nat.and_two_pow_sub_one_eq_mod m 4]at this;exact this
   obtain⟨I',rfl⟩:∃ I',I=I'+1:=⟨I - 1,by omega⟩;have h16':(16:Int)≤(m:Int):=by omega
   obtain⟨y,hy⟩:∃ y,wr.cell? ⟨w.heap.size,I',none⟩=some y:=⟨_,by rw[hr.cellAt I' (by omega),List.getElem?_eq_getElem (by rw[hr.1];omega)]⟩;have hfz:=hr.frozenAt I';have b1:((m % 16:Nat):Int)<36:=by omega
   have b2:(I':Int)<65:=by omega
   go_wp2_with fail
   go_roundw
   case rel =>
    have e:=oD (m % 16) (by omega);rw[e];have hst:=hr.stored I' (.int .u8 (iY (m % 16)));have hsz2:=yc hsz h16;refine⟨k+1,I',m / 16,iY (m % 16)::ds,ys.set I' (.int .u8 (iY (m % 16))),by rw[Int.natCast_ediv];rfl,rfl,by have:=HI.out;omega,hsz2.1,hst.1,?_,?_,hB.setCell (p:=⟨w.heap.size,I',none⟩) (Nat.le_refl _) _⟩
    ·show _=_
     exact drop_set ys I' _ ds (by rw[hr.1];omega) HD.out
    ·show _=_
     rw[HH.out,show 8 - k=(8 - (k+1))+1 by omega,hxf,if_neg (by omega),List.append_assoc];rfl
   case measure=>simp[intOf];omega
  ·obtain⟨I',rfl⟩:∃ I',I=I'+1:=⟨I - 1,by omega⟩
   have h16':¬ (16:Int)≤(m:Int):=by omega
   obtain⟨y,hy⟩:∃ y,wr.cell? ⟨w.heap.size,I',none⟩=some y:=⟨_,by rw[hr.cellAt I' (by omega),List.getElem?_eq_getElem (by rw[hr.1];omega)]⟩;have hfz:=hr.frozenAt I';have b1:(m:Int)<36:=by omega
   have b2:(I':Int)<65:=by omega
   have hst:=(hr.stored I' (.int .u8 (iY m))).1;have hb3:Below w.heap.size w (wr.setCell ⟨w.heap.size,I',none⟩ (.int .u8 (iY m))):=hB.setCell (p:=⟨w.heap.size,I',none⟩) (Nat.le_refl _) _;have hrow3:=hrow.below hb3
   have hdrop:(ys.set I' (.int .u8 (iY m))).drop I'=(hxf 8 u).map (Value.int .u8):=by
    rw[drop_set ys I' _ ds (by rw[hr.1];omega) HD.out,HH.out]
    have:hxf (8 - k) m=[iY m]:=by
     cases h:8 - k with
     | zero=>rfl
     | succ f=>rw[hxf,if_pos (by omega)]
    rw[this];rfl
   rw[HHX.out]at hdrop
   have hlen:(aS false false u).length=65 - I':=by
    have:=congrArg List.length hdrop;rw[List.length_drop,List.length_set,hr.1,List.length_map]at this;omega
   have hnews:∀(j:Nat) (x:Value),(bys (aS false false u))[j]? = some x→(wr.setCell ⟨w.heap.size,I',none⟩ (.int .u8 (iY m))).cell? ((⟨w.heap.size,I',none⟩:Addr).add j)=some x:=by
    intro j x hj
    have hj1:j<65 - I':=by rw[←hlen,←bK];exact(List.getElem?_eq_some_iff.1 hj).1
    rw[iC,hst.cellAt (I'+j) (by omega),←hj];unfold bys;rw[←hdrop,List.getElem?_drop]
   have hsb:base≤(wr.setCell ⟨w.heap.size,I',none⟩ (.int .u8 (iY m))).heap.size:=Nat.le_trans hb hb3.size;have hdg:=oD m (by omega);have HX:=hid hlen;clear hdrop hlen;have hsl:=BK w.heap.size I' (by omega);obtain⟨L,hL⟩:∃ L,L=65 - I':=⟨_,rfl⟩;rw[←hL]at hsl HX;have hL9:L≤65:=by omega
   have HN:=hid hnews;have HB3:=hid hb3;clear hL hnews hst hb3
   go_wp2_with((at_builtin;refine eG _ rfl _ _ 36 rfl base 5 i0 Tryz.underlying36 hi0 hz0 hz1 hz2 _ l rfl hrow3 ⟨w.heap.size,I',none⟩ L L (aS false false u) rfl HX.out HN.out (by omega) hsb ?_;intro v' w4 hown4 hgrow4))
   have hb4:=gR HB3.out hgrow4
   go_ret2;exact⟨v',rfl,hown4,hb4⟩
theorem sl(base:Nat)(v:Value)(l:List Int)(u:Nat)(hu:u<65536)(w:World)(hT:Tab w)(hn:l.length≤10000000)(hrow:Bts 5 w base v l)(hb:base≤w.heap.size):
  Calls Tryz.prog 93 #[v,.int .u64 u,.int .i64 16] w fun e W'=>∃ v',e=.returned v'∧Bts 5 W' base v' (l++aS false false u)∧w.grownBy W' v.ownBlock:=by
 obtain⟨vp,vn,vc,hvv⟩:=hrow.form;subst hvv;go_enter Tryz.func93,Tryz.ntmps93
 go_wp2_with fail;refine(xe base _ l u hu w hT hn hrow hb).mono ?_;rintro e w1 ⟨v',rfl,h1,h2⟩
 go_wp2;go_ret;exact⟨v',rfl,h1,h2⟩
theorem kG(base:Nat)(v:Value)(l:List Int)(u:Nat)(hu:u<65536)(w:World)(hT:Tab w)(hn:l.length≤10000000)(hrow:Bts 5 w base v l)(hb:base≤w.heap.size):
  Calls Tryz.prog 53 #[v,.int .u64 u,.int .i64 16] w fun e W'=>∃ v',e=.returned v'∧Bts 5 W' base v' (l++aS false false u)∧w.grownBy W' v.ownBlock:=by
 obtain⟨vp,vn,vc,hvv⟩:=hrow.form;subst hvv;go_enter Tryz.func53,Tryz.ntmps53
 go_wp2_with fail;refine(sl base _ l u hu w hT hn hrow hb).mono ?_;rintro e w1 ⟨v',rfl,h1,h2⟩
 go_wp2;go_ret;exact⟨v',rfl,h1,h2⟩
def tl(a:List Nat)(f i:Nat):List Int:=aD 58 (((a.take i).drop f).map (aS false false))
theorem E8(a:List Nat)(f:Nat):tl a f f=[]:=by
 unfold tl;rw[List.drop_eq_nil_of_le (by rw[List.length_take];omega)];rfl
theorem tP{a:List Nat}{f i:Nat}(h8:a.length=8)(hf:f≤i)(hi:i<8):(((a.take (i+1)).drop f).map (aS false false))=(((a.take i).drop f).map (aS false false))++[aS false false (a[i]?.getD 0)]:=by
 rw[List.take_add_one,List.getElem?_eq_getElem (by omega)];rw[List.drop_append_of_le_length (by rw[List.length_take];omega),List.map_append];rfl
theorem xU{a:List Nat}{f:Nat}(h8:a.length=8)(hi:f<8):tl a f (f+1)=aS false false (a[f]?.getD 0):=by
 have h:=tP h8 (Nat.le_refl f) hi;unfold tl;rw[h,List.drop_eq_nil_of_le (by rw[List.length_take];omega)];rfl
theorem BD{a:List Nat}{f i:Nat}(h8:a.length=8)(hf:f<i)(hi:i<8):tl a f (i+1)=tl a f i++[58]++aS false false (a[i]?.getD 0):=by
 have h:=tP h8 (Nat.le_of_lt hf) hi;unfold tl;rw[h,ot,if_neg];intro e
 have:=congrArg List.length e;simp at this
 omega
theorem xT{a:List Nat}(h8:a.length=8)(f i:Nat):(tl a f i).length≤40:=by
 unfold tl;have h:=(cH ((a.take i).drop f)).1;rw[List.length_drop,List.length_take]at h;omega
theorem Tab.at{w w':World}{base:Nat}(h:Tab w)(hb:Below base w w')(hg:3<base):Tab w':=by
 unfold Tab at *
 exact(hb.cell (p:=⟨3,15,none⟩) hg).trans h
theorem bY(w:World)(cs:Array Value)(t:TypeId):(w.alloc (.cells cs t)).heap[w.heap.size]? = some (.cells cs t (0,0)):=heap_alloc_new _ _
theorem qt(a0 a1 a2 a3 a4 a5 a6 a7:Nat)(hs:Small [a0,a1,a2,a3,a4,a5,a6,a7])(base:Nat)(v:Value)(l:List Int)(f n:Nat)(hf:f≤n)(hn8:n≤8)(w:World)(hT:Tab w)(hg:3<base)(hl:l.length≤1000000)(hrow:Bts 5 w base v l)(hb:base≤w.heap.size):
  Calls Tryz.prog 55 #[v,.agg #[.int .u16 a0,.int .u16 a1,.int .u16 a2,.int .u16 a3,.int .u16 a4,.int .u16 a5,.int .u16 a6,.int .u16 a7],.int .i64 (f:Int),.int .i64 (n:Int)] w fun e W'=>∃ v',e=.returned v'∧Bts 5 W' base v' (l++tl [a0,a1,a2,a3,a4,a5,a6,a7] f n)∧Below base w W':=by
 obtain⟨vp,vn,vc,hvv⟩:=hrow.form;subst hvv;obtain⟨i0,hi0,hz0,hz1,hz2⟩:=info_parts zM;have HB0:Hid (Below w.heap.size w (w.alloc (.cells #[.int .u16 a0,.int .u16 a1,.int .u16 a2,.int .u16 a3,.int .u16 a4,.int .u16 a5,.int .u16 a6,.int .u16 a7] 24))):=(Below.refl _ w).alloc (Nat.le_refl _) _;have HA0:Hid ((w.alloc (.cells #[.int .u16 a0,.int .u16 a1,.int .u16 a2,.int .u16 a3,.int .u16 a4,.int .u16 a5,.int .u16 a6,.int .u16 a7] 24)).heap[w.heap.size]? = some (.cells (ak [a0,a1,a2,a3,a4,a5,a6,a7]).toArray 24 (0,0))):=bY w _ _;have HL8:Hid ([a0,a1,a2,a3,a4,a5,a6,a7].length=8):=rfl;have HSM:=hid hs;have HT0:=hid (hT.below HB0.out (Nat.le_refl _));have HR0:=hid (hrow.below HB0.out);have HBB:=hid (HB0.out.mono hb);obtain⟨a,ha⟩:∃ a,[a0,a1,a2,a3,a4,a5,a6,a7]=a:=⟨_,rfl⟩;rw[ha]at HA0 HL8 HSM ⊢
 have HSV:Hid (∀ j,j<8→a[j]?.getD 0<65536):=fun j hj=>by
  rw[List.getElem?_eq_getElem (by rw[HL8.out];exact hj)];exact HSM.out _ (List.getElem_mem _)
 have HNIL:=hid (E8 a f);have HLEN:=hid (xT HL8.out f);clear hs hT hrow;go_enter Tryz.func55,Tryz.ntmps55
 go_wp2_with fail;obtain⟨w1,hw1⟩:∃ w1,w.alloc (.cells #[.int .u16 a0,.int .u16 a1,.int .u16 a2,.int .u16 a3,.int .u16 a4,.int .u16 a5,.int .u16 a6,.int .u16 a7] 24)=w1:=⟨_,rfl⟩;rw[hw1]at HB0 HA0 HT0 HR0 HBB ⊢;obtain⟨arg,harg⟩:∃ v:Value,Value.agg #[.int .u16 a0,.int .u16 a1,.int .u16 a2,.int .u16 a3,.int .u16 a4,.int .u16 a5,.int .u16 a6,.int .u16 a7]=v:=⟨_,rfl⟩;rw[harg];clear hw1 ha harg HB0
 go_loopw [0,9] (fun v0 v9 wr=>∃(i n0 c0:Nat) (p0:Option Addr),f≤i∧i≤n∧v0=.slice p0 n0 c0∧v9=.int .i64 (i:Int)∧Hid (Bts 5 wr base (.slice p0 n0 c0) (l++tl a f i))∧Hid (wr.heap[w.heap.size]? = some (.cells (ak a).toArray 24 (0,0)))∧Hid (Tab wr)∧Hid (Below base w wr)) (fun _ v9 _=>n - (intOf v9).toNat)
 case atStart=>exact⟨f,vn,vc,vp,Nat.le_refl _,hf,rfl,rfl,by show Bts _ _ _ _ _;rw[HNIL.out,List.append_nil];exact HR0.out,HA0,HT0,HBB⟩
 case round =>
  obtain⟨i,n0,c0,p0,hfi,hin,rfl,rfl,HR,HA,HT,HB⟩:=hrel;have hsb:base≤wr.heap.size:=Nat.le_trans hb HB.out.size;by_cases hlt:i<n
  ·have hltz:(i:Int)<(n:Int):=by omega
   have hi8:i<8:=by omega
   have hi8z:(i:Int)<8:=by omega
   have hsrc:=cg HA.out (j:=i) (by rw[HL8.out];exact hi8);have hv:=HSV.out i hi8;have HNX:=hid (fun h=>BD (a:=a) (f:=f) (i:=i) HL8.out h hi8);have HFI:=hid (fun(h:f=i)=>show tl a f (i+1)=aS false false (a[i]?.getD 0) by subst h;exact xU HL8.out hi8);have hll:=HLEN.out i;obtain⟨x,hx1⟩:∃ x,a[i]?.getD 0=x:=⟨_,rfl⟩;rw[hx1]at hsrc hv HNX HFI;have hvz:(x:Int)<65536:=by omega
   have hzA:w.heap.size<wr.heap.size:=(Array.getElem?_eq_some_iff.1 HA.out).1;have HXX:=hid hx1;clear hx1;by_cases hfr:f<i
   ·have hfz:(f:Int)<(i:Int):=by omega
    have HN2:=hid (HNX.out hfr);have HBu:Hid (Below wr.heap.size wr (wr.alloc (.cells #[.int .u8 58] 5))):=(Below.refl _ wr).alloc (Nat.le_refl _) _;have HRu:=hid (HR.out.below HBu.out);have HAu:Hid ((wr.alloc (.cells #[.int .u8 58] 5)).heap[w.heap.size]? = some (.cells (ak a).toArray 24 (0,0))):=(HBu.out.block _ hzA).trans HA.out
    have HNu:Hid (∀ j u,(bys [58])[j]? = some u→(wr.alloc (.cells #[.int .u8 58] 5)).cell? ((⟨wr.heap.size,0,none⟩:Addr).add j)=some u):=by
     intro j u hj
     match j,hj with
     | 0,hj =>
      rw[iC];have e:(bys [58])[0]? = some (.int .u8 58):=rfl;rw[e]at hj;rw[←hj];have:=bY wr #[.int .u8 58] 5;simp only[World.cell?,this];rfl
     | j+1,hj=>simp[bys]at hj
    have hsu:base≤(wr.alloc (.cells #[.int .u8 58] 5)).heap.size:=Nat.le_trans hsb HBu.out.size;have hlb:(l++tl a f i).length+1≤2000000:=by rw[List.length_append];omega
    have HLB:=hid hlb;clear HNX HFI hlb
    go_wp2_with((at_builtin;refine eG _ rfl _ _ 36 rfl base 5 i0 Tryz.underlying36 hi0 hz0 hz1 hz2 _ (l++tl a f i) rfl HRu.out ⟨wr.heap.size,0,none⟩ 1 1 [58] rfl rfl HNu.out (by have:=HLB.out;omega) hsu ?_;intro v' w4 hown4 hgrow4;obtain⟨p4,n4,c4,rfl⟩:=hown4.form;have hA4:=(hgrow4.block _ (Nat.lt_of_lt_of_le hzA HBu.out.size) (HRu.out.apart HAu.out (by decide))).trans HAu.out;have hsrc4:=cg hA4 (j:=i) (by rw[HL8.out];exact hi8);rw[HXX.out]at hsrc4))
    have HB4:=hid ((HBu.out.mono hsb).grown hgrow4 hsu (fun k hk=>(HRu.out.lt k hk).1));have HA4:=hid hA4;have hs4:base≤w4.heap.size:=Nat.le_trans hsu hgrow4.size;have hl4:(l++tl a f i++[58]).length≤10000000:=by have:=HLB.out;rw[List.length_append];simp only[List.length_cons,List.length_nil];omega
    have HAP:=hid (kG base _ (l++tl a f i++[58]) x hv w4 (HT.out.at HB4.out hg) hl4 hown4 hs4);have HO4:=hid hown4;clear hA4 hgrow4 hown4 hl4 HRu HAu HNu HBu hsrc HR HA;refine HAP.out.mono ?_;rintro e w5 ⟨v5,rfl,h5,g5⟩
    obtain⟨p5,n5,c5,rfl⟩:=h5.form;have HA5:Hid (w5.heap[w.heap.size]? = some (.cells (ak a).toArray 24 (0,0))):=(g5.block _ (Array.getElem?_eq_some_iff.1 HA4.out).1 (HO4.out.apart HA4.out (by decide))).trans HA4.out;have HB5:=hid (HB4.out.grown g5 hs4 (fun k hk=>(HO4.out.lt k hk).1));have HT5:=hid (HT.out.at HB5.out hg)
    have HR5:Hid (Bts 5 w5 base (.slice p5 n5 c5) (l++tl a f (i+1))):=by
     show Bts _ _ _ _ _
     rw[HN2.out];have e:l++(tl a f i++[58]++aS false false x)=l++tl a f i++[58]++aS false false x:=by simp
     rw[e];exact h5
    have HB6:=hid (HB.out.trans HB5.out);clear HB5 HB4 HA4 HO4 HAP h5 g5 HN2 HT HB hsrc4
    go_wp2_with fail
    go_roundw
    case rel=>exact⟨i+1,n5,c5,p5,by omega,by omega,rfl,by go_num,HR5,HA5,HT5,HB6⟩
    case measure=>simp[intOf];omega
   ·have hfe:f=i:=by omega
    have hfz:¬ (f:Int)<(i:Int):=by omega
    have HN2:=hid (HFI.out hfe);have HNL:Hid (tl a f i=[]):=by show _=_;rw[←hfe];exact HNIL.out
    have HAP:=hid (kG base _ (l++tl a f i) x hv wr HT.out (by rw[List.length_append];omega) HR.out hsb);clear HNX HFI hfe
    go_wp2_with fail;refine HAP.out.mono ?_;rintro e w5 ⟨v5,rfl,h5,g5⟩
    obtain⟨p5,n5,c5,rfl⟩:=h5.form;have HA5:Hid (w5.heap[w.heap.size]? = some (.cells (ak a).toArray 24 (0,0))):=(g5.block _ hzA (HR.out.apart HA.out (by decide))).trans HA.out;have HB5:=hid ((Below.refl base wr).grown g5 hsb (fun k hk=>(HR.out.lt k hk).1));have HT5:=hid (HT.out.at HB5.out hg)
    have HR5:Hid (Bts 5 w5 base (.slice p5 n5 c5) (l++tl a f (i+1))):=by
     show Bts _ _ _ _ _
     rw[HN2.out];rw[HNL.out,List.append_nil]at h5;exact h5
    have HB6:=hid (HB.out.trans HB5.out);clear HB5 HAP h5 g5 HN2 HNL HT HB hsrc HR HA
    go_wp2_with fail
    go_roundw
    case rel=>exact⟨i+1,n5,c5,p5,by omega,by omega,rfl,by go_num,HR5,HA5,HT5,HB6⟩
    case measure=>simp[intOf];omega
  ·have hin2:i=n:=by omega
   have hltz:¬ (i:Int)<(n:Int):=by omega
   have HR5:Hid (Bts 5 wr base (.slice p0 n0 c0) (l++tl a f n)):=by rw[←hin2];exact HR
   clear HR hin2;go_wp2;go_ret;exact⟨_,rfl,HR5.out,HB.out⟩
theorem wj{a:List Nat}(h:a.length=8):∃ a0 a1 a2 a3 a4 a5 a6 a7,a=[a0,a1,a2,a3,a4,a5,a6,a7]:=by
 match a,h with
 | [a0,a1,a2,a3,a4,a5,a6,a7],_=>exact⟨a0,a1,a2,a3,a4,a5,a6,a7,rfl⟩
theorem xX(a:List Nat)(h8:a.length=8)(hs:Small a)(base:Nat)(v:Value)(l:List Int)(f n:Nat)(hf:f≤n)(hn8:n≤8)(w:World)(hT:Tab w)(hg:3<base)(hl:l.length≤1000000)(hrow:Bts 5 w base v l)(hb:base≤w.heap.size):
  Calls Tryz.prog 55 #[v,.agg (ak a).toArray,.int .i64 (f:Int),.int .i64 (n:Int)] w fun e W'=>∃ v',e=.returned v'∧Bts 5 W' base v' (l++tl a f n)∧Below base w W':=by
 obtain⟨a0,a1,a2,a3,a4,a5,a6,a7,rfl⟩:=wj h8;exact qt a0 a1 a2 a3 a4 a5 a6 a7 hs base v l f n hf hn8 w hT hg hl hrow hb
end Go.Proofs.YtkekkbciiohbkaaGreatDoor.X
namespace Go.Proofs
open Go.Shelf Go.RowKit
shelf_lay Lays.n149 Nm 149 at Tryz as Tryz.laysLastX
shelf_lay Lays.n144 Nm 144 at Tryz as Tryz.laysConX
end Go.Proofs
namespace Go.Proofs.YtkekkbciiohbkaaGreatDoor.X
open Go.RowKit
open Go.Proofs.YtkekkbciiohbkaaGreatDoor.F (hx bw vl cJ bn aa aC av aq ar hid aj ab ah aR aK)
theorem pP(s:ByteArray)(j:Nat)(h:j<s.size):((s.data[j]!).toNat:Int)=(bn s)[j]?.getD 0:=by
 rw[aq s j h];have h5:j<s.data.size:=h;rw[getElem!_pos s.data j h5];rfl
theorem sZ(s:ByteArray):∃ k:Nat,k≤s.size∧Lib.lastIndexByte s 58=(k:Int) - 1∧¬ 58∈(bn s).drop k∧((bn s).take k=[]∨∃ Y,(bn s).take k=Y++[58]):=by
 have hl:=aa s;rcases Lib.lastIndexByte_spec s 58 with⟨h1,h2⟩ | ⟨i,hi,h1,h2,h3⟩
 ·refine⟨0,Nat.zero_le _,by rw[h1];rfl,?_,.inl rfl⟩
  rw[List.drop_zero];intro h
  obtain⟨j,hj,e⟩:=List.mem_iff_getElem.1 h;have:=h2 j (by omega);rw[pP s j (by omega),List.getElem?_eq_getElem hj]at this;exact this e
 ·refine⟨i+1,by omega,by rw[h1];omega,?_,.inr ⟨(bn s).take i,?_⟩⟩
  ·intro h
   obtain⟨j,hj,e⟩:=List.mem_iff_getElem.1 h;rw[List.length_drop]at hj;rw[List.getElem_drop]at e;have:=h3 (i+1+j) (by omega) (by omega);rw[pP s _ (by omega),List.getElem?_eq_getElem (by omega)]at this;exact this e
  ·rw[nN _ _ (by omega),←pP s i hi,h2]
theorem Dc(t:ByteArray):decide (0≤Lib.indexByte t.data.toList 46)=decide (46∈bn t):=by
 apply decide_eq_decide.2;have hm:(46:Int)∈bn t↔(46:UInt8)∈t.data.toList:=e9 (b:=46) (l:=t.data.toList);rw[hm];have hge:=Lib.indexByte_ge t.data.toList 46
 constructor
 ·intro h
  obtain⟨i,hi⟩:∃ i:Nat,Lib.indexByte t.data.toList 46=i:=⟨(Lib.indexByte t.data.toList 46).toNat,by omega⟩;exact List.mem_of_getElem? (Lib.indexByte_some hi).1
 ·intro h
  by_cases hm:Lib.indexByte t.data.toList 46=-1
  ·obtain⟨j,hj,e⟩:=List.mem_iff_getElem.1 h
   exact absurd (by rw[List.getElem?_eq_getElem hj,e]) (Lib.indexByte_none hm j)
  ·omega
theorem wv(s:ByteArray)(k:Nat)(hk:Lib.lastIndexByte s 58=(k:Int) - 1)(hs:s.size≤1000000000)(w:World):Calls Tryz.prog 101 #[.string s,.int .u8 58] w fun e W'=>e=.returned (.int .i64 ((k:Int) - 1))∧W'=w:=by
 have hf:Tryz.laysLastX_ren.f 149=101:=by kernel_rfl
 have h:=Any.strings_LastIndexByte Tryz.laysLastX s 58 (by omega) w;rw[hf,hk]at h;exact h
theorem DK(t:ByteArray)(b:Bool)(hb:decide (46∈bn t)=b)(w:World):Calls Tryz.prog 102 #[.string t,.string ⟨#[46]⟩] w fun e W'=>e=.returned (.bool b)∧W'=w:=by
 have hf:Tryz.laysConX_ren.f 144=102:=by kernel_rfl
 have h:=Any.strings_Contains_one Tryz.laysConX t 46 w;rw[hf,Dc,hb]at h;exact h
def A9(l:List Int)(s:ByteArray)(e:Ending):Prop:=∃ X p,l=X++p∧¬ 58∈p∧(X=[]∨∃ Y,X=Y++[58]) ∧
 ((¬ 46∈p∧e=.returned (.tuple #[.string s,.bool true]))∨(46∈p∧dt p=none∧e=.returned (.tuple #[.string ⟨#[]⟩,.bool false])) ∨
  (46∈p∧∃(h l:Nat) (t:ByteArray),h<65536∧l<65536∧dt p=some [h,l]∧bn t=X++(aS false false h++58::aS false false l)∧t.size≤s.size+10∧e=.returned (.tuple #[.string t,.bool true])))
theorem AK(s:ByteArray)(k:Nat)(hk:k≤s.size):bn (s.extract 0 k)=(bn s).take k:=by
 rw[p7 s 0 k (Nat.zero_le _) hk];simp
theorem Hb(h l:Nat)(hh:h<65536)(hl:l<65536)(base:Nat)(v:Value)(x:List Int)(w:World)(hT:Tab w)(hg:3<base)(hx:x.length≤1000000)(hrow:Bts 5 w base v x)(hb:base≤w.heap.size):
  Calls Tryz.prog 55 #[v,.agg #[.int .u16 h,.int .u16 l,.int .u16 0,.int .u16 0,.int .u16 0,.int .u16 0,.int .u16 0,.int .u16 0],.int .i64 0,.int .i64 2] w fun e W'=>∃ v',e=.returned v'∧Bts 5 W' base v' (x++(aS false false h++58::aS false false l))∧Below base w W' :=
 qt h l 0 0 0 0 0 0 (by intro y hy;simp at hy;omega) base v x 0 2 (by omega) (by omega) w hT hg hx hrow hb
theorem dK(s:ByteArray)(hs:s.size≤100000)(w:World)(hE:Er w)(hM:Mx w)(hT:Tab w):Calls Tryz.prog 62 #[.string s] w fun e W'=>A9 (bn s) s e∧Below w.heap.size w W':=by
 obtain⟨k,hks,hk,h58,hX⟩:=sZ s;have HLB:=hid (wv s k hk (by omega));have hbp:=aj s k;have hbx:=AK s k hks;have hcat:bn s=(bn s).take k++(bn s).drop k:=(List.take_append_drop k (bn s)).symm
 have HMK:Hid (∀ e,((¬ 46∈(bn s).drop k∧e=.returned (.tuple #[.string s,.bool true]))∨(46∈(bn s).drop k∧dt ((bn s).drop k)=none∧e=.returned (.tuple #[.string ⟨#[]⟩,.bool false])) ∨
  (46∈(bn s).drop k∧∃(h l:Nat) (t:ByteArray),h<65536∧l<65536∧dt ((bn s).drop k)=some [h,l]∧bn t=(bn s).take k++(aS false false h++58::aS false false l)∧t.size≤s.size+10∧e=.returned (.tuple #[.string t,.bool true])))→A9 (bn s) s e):=fun e h=>⟨_,_,hcat,h58,hX,h⟩
 have hpz:(s.extract k s.size).size=s.size - k:=by simp
 have hxz:(s.extract 0 k).size=k:=by simp;omega
 have HCO:=hid (fun b hb=>DK (s.extract k s.size) b hb);have HPA:=hid (mb (s.extract k s.size) (by omega) w hE hM);have HBX:=hid (fun(t:ByteArray) (j:Nat) (hj:j<t.size)=>ar hj);have hgT:=Lib.lt_of_cell (show w.cell? ⟨3,15,none⟩=some (.int .u8 4) from hT);rw[hbp]at HCO HPA;have hcat2:((bn s).take k).length=k:=by rw[List.length_take,aa];omega
 have HXB:Hid (∀ x∈(bn s).take k,0≤x∧x≤255):=fun x hx=>by
  obtain⟨j,hj,e⟩:=List.mem_iff_getElem.1 (List.mem_of_mem_take hx);have:=ar (s:=s) (i:=j) (by rw[←aa];exact hj);rw[List.getElem?_eq_getElem hj]at this;rw[←e];exact this
 obtain⟨R,hR⟩:∃ R,A9 (bn s) s=R:=⟨_,rfl⟩;rw[hR]at HMK ⊢;obtain⟨p,hp⟩:∃ p,(bn s).drop k=p:=⟨_,rfl⟩;obtain⟨x,hx⟩:∃ x,(bn s).take k=x:=⟨_,rfl⟩;rw[hp]at HMK HCO HPA;rw[hx]at HMK hbx hcat2 HXB;have HBXX:=hid hbx;have HCL:=hid hcat2;obtain⟨P,hP⟩:∃ P,s.extract k s.size=P:=⟨_,rfl⟩;have HPP:=hid hP;rw[hP]at HCO HPA;have hkz:(k:Int)≤(s.size:Int):=by omega
 clear hR hp hx hcat h58 hX hk hbp hbx hE hM hcat2 hpz hP HBX;by_cases hd:46∈p
 ·have HD:=hid hd
  have HC1:=hid (HCO.out true (decide_eq_true hd));clear HCO hd;go_enter Tryz.func62,Tryz.ntmps62
  go_wp2_with(first
    | (go_at_call 101;refine(HLB.out _).mono ?_;rintro e w2 ⟨rfl,hw2⟩;obtain rfl:=hw2.symm)
    | (go_at_call 102;rw[HPP.out];refine(HC1.out _).mono ?_;rintro e w2 ⟨rfl,hw2⟩;obtain rfl:=hw2.symm))
  refine HPA.out.mono ?_;rintro e w1 ⟨hpr,B1⟩
  have HB1:=hid B1;have HT1:=hid (hT.below B1 (Nat.le_refl _));have hz1:=B1.size;clear B1 HPA;rcases hpr with⟨h,l,hdt,hh,hl,rfl⟩ | ⟨hdt,rfl⟩
  ·have hcv:=Lib.run_convert_string_bytes (P:=Tryz.prog) w1 9 36 5 (s.extract 0 k) (u:=.string) Tryz.underlying9 Tryz.underlying36 Tryz.underlying5
   have hbt:=sb w1 5 (s.extract 0 k) (by omega);have hb2:=sC w1 5 (s.extract 0 k);rw[HBXX.out]at hbt;rw[hxz]at hcv hbt;obtain⟨c,hc⟩:∃ c,grownCap w1 k 0 5=c:=⟨_,rfl⟩;obtain⟨W2,hW2⟩:∃ W2,Lib.bytesWorld w1 5 (s.extract 0 k)=W2:=⟨_,rfl⟩;rw[hc,hW2]at hcv hbt;rw[hW2]at hb2;have HB2:=hid hb2;have HBT:=hid hbt;have HT2:=hid (HT1.out.below hb2 (Nat.le_refl _));have HDT:=hid hdt;have HTL:=hid (Hb h l hh hl w1.heap.size _ x W2 HT2.out (by omega) (by rw[HCL.out];omega) HBT.out hb2.size);clear hc hW2 hbt hb2 hdt
   go_wp2_with fail;refine HTL.out.mono ?_;rintro e w3 ⟨v',rfl,h3,B3⟩
   have hlh:=ft false false h;have hll:=ft false false l;obtain⟨y,hy⟩:∃ y,x++(aS false false h++58::aS false false l)=y:=⟨_,rfl⟩
   have hylen:y.length≤k+10∧y≠[]:=by
    rw[←hy];refine⟨?_,by simp⟩;simp only[List.length_append,List.length_cons,HCL.out];omega
   rw[hy]at h3
   have hyb:∀ b∈y,0≤b∧b≤255:=by
    intro b hb
    rw[←hy]at hb;rcases List.mem_append.1 hb with hb | hb
    ·exact HXB.out b hb
    ·rcases List.mem_append.1 hb with hb | hb
     ·exact iZ hh b hb
     ·rcases List.mem_cons.1 hb with rfl | hb
      ·decide
      ·exact iZ hl b hb
   obtain⟨g,c3,rfl,_,_,_,hcells⟩:=h3.there hylen.2;obtain⟨t,hcv3,ht⟩:=pV w3 g 0 y.length c3 y rfl hyb (fun j hj=>by rw[Nat.zero_add];exact hcells j hj);have hts:t.size≤s.size+10:=by rw[←aa,ht];omega
   have HR:=hid (HMK.out (.returned (.tuple #[.string t,.bool true])) (.inr (.inr ⟨HD.out,h,l,t,hh,hl,HDT.out,by rw[ht,←hy],hts,rfl⟩)));have HBF:Hid (Below w.heap.size w w3):=HB1.out.trans ((HB2.out.mono hz1).trans (B3.mono hz1));obtain⟨n3,hn3⟩:∃ n3,y.length=n3:=⟨_,rfl⟩;rw[hn3]at hcv3 ⊢;clear hn3 hy hylen h3 hyb hcells ht hts B3 HTL HMK HDT HD HBT HT2 HB2 HT1 HB1 hlh hll;go_wp2
   go_ret2;exact⟨HR.out,HBF.out⟩
  ·have HR:=hid (HMK.out _ (.inr (.inl ⟨HD.out,hdt,rfl⟩)))
   clear HMK hdt;go_wp2
   go_ret2;exact⟨HR.out,HB1.out⟩
 ·have HR:=hid (HMK.out _ (.inl ⟨hd,rfl⟩))
  have HC1:=hid (HCO.out false (decide_eq_false hd));clear HCO hd HMK HPA;go_enter Tryz.func62,Tryz.ntmps62
  go_wp2_with(first
    | (go_at_call 101;refine(HLB.out _).mono ?_;rintro e w2 ⟨rfl,hw2⟩;obtain rfl:=hw2.symm)
    | (go_at_call 102;rw[HPP.out];refine(HC1.out _).mono ?_;rintro e w2 ⟨rfl,hw2⟩;obtain rfl:=hw2.symm))
  go_ret2;exact⟨HR.out,Below.refl _ _⟩
open Go.Proofs.YtkekkbciiohbkaaGreatDoor.F (hx bw vl bn aa aC av aq ar hid aj ab ah aR aK)
theorem DP(w:World)(t:TypeId)(X:List Nat){W:World}(hB:Below (w.heap.size+1) (w.alloc (.cells (ak X).toArray t)) W){j:Nat}(hj:j<X.length):W.cell? ⟨w.heap.size,j,none⟩=some (.int .u16 ((X[j]?.getD 0:Nat):Int)):=by
 refine(hB.cell (p:=⟨w.heap.size,j,none⟩) (Nat.lt_succ_self _)).trans (tu w t (ak X) j _ ?_);unfold ak;rw[List.getElem?_map,List.getElem?_eq_getElem hj];rfl
def ia(a:List Nat)(w:World)(e:Ending)(W':World):Prop:=(∃ t,e=.returned (.string t)∧bn t=txt a)∧Below w.heap.size w W'
def Dig(b:Nat)(d:Nat→Int)(f:Nat→List Int)(N:Nat):Prop:=∀ m,m<N→f m=(if m<b then [] else f (m / b))++[d (m % b)]
def Wd(f:Nat→List Int)(n0 n:Nat)(T:ByteArray):Prop:=n≤n0∧((T.size=0∧n=n0)∨(0<T.size∧n=0∧bn T=f n0)∨(0<T.size∧0<n∧f n0=f n++bn T))
theorem Wd.step{b N:Nat}{d:Nat→Int}{f:Nat→List Int}(hf:Dig b d f N)(hb:2≤b){n0 n:Nat}(hn:n0<N){T D:ByteArray}(hgo:T.size=0∨0<n)(hD:bn D=[d (n % b)])(h:Wd f n0 n T):Wd f n0 (n / b) (D++T):=by
 obtain⟨hle,h⟩:=h
 have hs:0<(D++T).size:=by
  have:D.size=1:=by rw[←aa,hD];rfl
  rw[ByteArray.size_append,this];omega
 have e:=hf n (by omega);refine⟨Nat.le_trans (Nat.div_le_self _ _) hle,?_⟩;by_cases hb2:n<b
 ·have h0:n / b=0:=Nat.div_eq_of_lt hb2
  rw[if_pos hb2,List.nil_append]at e
  right;left
  refine⟨hs,h0,?_⟩;rw[aC,hD,←e];rcases h with⟨h1,h2⟩ | ⟨h1,h2,_⟩ | ⟨_,_,h3⟩
  ·have:bn T=[]:=List.length_eq_zero_iff.1 (by rw[aa];exact h1)
   rw[this,h2,List.append_nil]
  ·omega
  ·exact h3.symm
 ·have h0:0<n / b:=Nat.div_pos (by omega) (by omega)
  rw[if_neg hb2]at e
  right;right
  refine⟨hs,h0,?_⟩;rw[aC,hD,←List.append_assoc,←e];rcases h with⟨h1,h2⟩ | ⟨h1,h2,_⟩ | ⟨_,_,h3⟩
  ·have:bn T=[]:=List.length_eq_zero_iff.1 (by rw[aa];exact h1)
   rw[this,h2,List.append_nil]
  ·omega
  ·exact h3
theorem Wd.fin{f:Nat→List Int}{n0:Nat}{T:ByteArray}(hT:0<T.size)(h:Wd f n0 0 T):bn T=f n0:=by
 rcases h.2 with⟨h1,_⟩ | ⟨_,_,h3⟩ | ⟨_,h2,_⟩
 ·omega
 ·exact h3
 ·omega
theorem Wd.size{f:Nat→List Int}{n0 n k:Nat}{T:ByteArray}(hk:(f n0).length≤k)(h:Wd f n0 n T):T.size≤k:=by
 rcases h.2 with⟨h1,_⟩ | ⟨_,_,h3⟩ | ⟨_,_,h3⟩
 ·omega
 ·rw[←aa,h3];exact hk
 ·rw[h3,List.length_append,aa]at hk
  omega
theorem yZ(xs:Array Value)(i:Nat)(x:Int)(h:xs[i]? = some (.int .u16 x))(w:World):(part 23 xs i).run Tryz.prog w=.ok (.int .u16 x) w:=by
 unfold part;simp[h,go_sem]
theorem uR(d:Nat)(xs ys:Array Value)(f g:Nat→Int)(w:World):∀(L:List Nat),(∀ i∈L,xs[i]? = some (.int .u16 (f i)))→(∀ i∈L,ys[i]? = some (.int .u16 (g i))) →
  Sem.run Tryz.prog (forIn L ((none:Option Bool),()) fun i __s=>do
          let a ←part 23 xs (i * 1)
          let b ←part 23 ys (i * 1)
          let r ←Op.equalIn (d+1) 23 a b
          if (!r)=true then pure (ForInStep.done (some false,())) else pure (ForInStep.yield (none,()))) w=.ok ((if L.all (fun i=>f i==g i)=true then none else some false),()) w
 | [],_,_=>by simp
 | i::L,hx,hy=>by
  have ih:=uR d xs ys f g w L (fun j hj=>hx j (by simp[hj])) (fun j hj=>hy j (by simp[hj]));have e:i * 1=i:=Nat.mul_one i;simp only[List.forIn_cons,Sem.run_bind,e,yZ xs i _ (hx i (by simp)),yZ ys i _ (hy i (by simp)),Result.andThen_ok,run_equalIn_int w d 23 .u16 .u16 _ _ Tryz.underlying23];cases h:(f i==g i) with
  | true=>simp only[Bool.not_true,Bool.false_eq_true,if_false,Sem.run_pure,Result.andThen_ok,List.all_cons,h,Bool.true_and];simpa using ih
  | false=>simp[h]
theorem eq8(d:Nat)(xs ys:Array Value)(f g:Nat→Int)(hx:∀ i,i<8→xs[i]? = some (.int .u16 (f i)))(hy:∀ i,i<8→ys[i]? = some (.int .u16 (g i)))(w:World):(Op.equalIn (d+2) 24 (.agg xs) (.agg ys)).run Tryz.prog w=.ok ((List.range 8).all (fun i=>f i==g i)) w:=by
 have hs:∀ w,(sizeOf 23).run Tryz.prog w=.ok 1 w:=fun w=>by kernel_rfl
 rw[Op.equalIn];simp only[Sem.run_bind,run_underlying Tryz.underlying24,Result.andThen_ok,hs];rw[Std.Legacy.Range.forIn_eq_forIn_range'];have e:List.range' ([:8]:Std.Legacy.Range).start ([:8]:Std.Legacy.Range).size ([:8]:Std.Legacy.Range).step=List.range 8:=by decide
 rw[e];have h:=uR d xs ys f g w (List.range 8) (fun i hi=>hx i (List.mem_range.1 hi)) (fun i hi=>hy i (List.mem_range.1 hi));rw[h];simp only[Result.andThen_ok];cases (List.range 8).all (fun i=>f i==g i) <;> simp
theorem xH{X:List Nat}(h:X.length=8)(i:Nat)(hi:i<8):(ak X).toArray[i]? = some (.int .u16 ((X[i]?.getD 0:Nat):Int)):=by
 unfold ak;simp[h,hi]
def err(o:Option (List Nat)):Int:=if o.isSome=true then 0 else 8
end Go.Proofs.YtkekkbciiohbkaaGreatDoor.X
