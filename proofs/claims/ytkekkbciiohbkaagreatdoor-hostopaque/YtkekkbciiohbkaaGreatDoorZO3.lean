/- Texts one behind the other: EC VG. -/
import Derived.Test.YtkekkbciiohbkaaGreatDoorZO2
import Derived.Test.YtkekkbciiohbkaaGreatDoorZ22
import Derived.Test.YtkekkbciiohbkaaGreatDoorZ19
import Derived.Test.YtkekkbciiohbkaaGreatDoorZO1
import Derived.Test.YtkekkbciiohbkaaGreatDoorZ4
import Derived.Test.YtkekkbciiohbkaaGreatDoorZ39
import Derived.Laws.BitsLemmas
set_option maxRecDepth 100000
set_option maxHeartbeats 16000000
set_option linter.unusedVariables false
set_option linter.unnecessarySimpa false
namespace Go.Proofs.YtkekkbciiohbkaaGreatDoor.E
open Go.RowKit
theorem aF{w:World}{v:Value}{L:List Int}(h:U.au w v L):∃ a c,v=.slice a L.length c∧(0<L.length→∃ b off,a=some ⟨b,off,none⟩∧∀ j,j<L.length→w.cell? ⟨b,off+j,none⟩=some (.int .i32 (L[j]?.getD 0))):=by
 rcases h with⟨rfl,x,c,rfl⟩ | ⟨hp,b,off,c,rfl,h⟩
 ·exact⟨x,c,rfl,fun h=>by simp at h⟩
 ·exact⟨_,c,rfl,fun _=>⟨b,off,rfl,h⟩⟩
theorem dS{w wr:World}{a:Option Addr}{n:Nat}{L:List Int}(hf:0<n→∃ b off,a=some ⟨b,off,none⟩∧∀ j,j<n→w.cell? ⟨b,off+j,none⟩=some (.int .i32 (L[j]?.getD 0)))(hB:Below w.heap.size w wr)(k:Nat)(hk:k<n):
  ∃ b off,a=some ⟨b,off,none⟩∧wr.cell? ⟨b,off+k,none⟩=some (.int .i32 (L[k]?.getD 0)):=by
 obtain⟨b,off,e,hc⟩:=hf (by omega);exact⟨b,off,e,(hB.cell (p:=⟨b,off+k,none⟩) (U.lt_of_cell (hc k hk))).trans (hc k hk)⟩
theorem jW(L:List Int)(k:Nat)(h:k<L.length):L.take (k+1)=L.take k++[L[k]?.getD 0]:=by
 rw[List.take_succ_eq_append_getElem h,List.getElem?_eq_getElem h];rfl
theorem bG{base n:Nat}{v:Value}{X:List Value}{W:World}(h:W.ownsRow base 21 1 v n X):∃ a cap,v=.slice a n cap:=by
 rcases h.2 with⟨rfl,h0⟩ | ⟨g,cap,cur,rfl,_⟩
 ·exact⟨none,0,by rw[h0]⟩
 ·exact⟨_,cap,rfl⟩
theorem qO{base n:Nat}{v:Value}{X:List Value}{W:World}(h:W.ownsRow base 5 1 v n X):∃ a cap,v=.slice a n cap:=by
 rcases h.2 with⟨rfl,h0⟩ | ⟨g,cap,cur,rfl,_⟩
 ·exact⟨none,0,by rw[h0]⟩
 ·exact⟨_,cap,rfl⟩
def part(q:Bool)(e:List Int):List Int:=if q=true then e.flatMap pe else e
theorem xS(k:Nat)(c:Int):tok k c=part (inS c k) (U.enc c):=rfl
theorem qK(q:Bool):part q []=[]:=by unfold part;split <;> rfl
theorem yW(e:List Int)(j:Nat)(h:j<e.length):part true (e.take (j+1))=part true (e.take j)++pe (e[j]?.getD 0):=by
 unfold part;rw[jW e j h,List.flatMap_append];simp
theorem Cw(e:List Int)(j:Nat)(h:j<e.length):part false (e.take (j+1))=part false (e.take j)++[e[j]?.getD 0]:=by
 unfold part;rw[jW e j h];rfl
theorem kq(s:ByteArray)(k:Nat)(w:World)(hs:s.size≤10000):
  Calls Tryz.prog 18 #[.string s,.int .u8 k] w fun e W'=>kN k (U.dec (U.bn s)) w e W':=by
 obtain⟨i0,hi,hz0,hz1,hz2⟩:=info_parts U.Tryz.info5;have hdl:=U.fZ (U.bn s).length (U.bn s) (Nat.le_refl _) (U.aM s);rw[U.aa]at hdl;have HDEC:=hid (U.nA s (by omega) w);have HSC:Hid (∀ c∈U.dec (U.bn s),U.az c=true):=eN s;obtain⟨L,hL⟩:∃ L,U.dec (U.bn s)=L:=⟨_,rfl⟩;rw[hL]at HDEC hdl HSC ⊢;obtain⟨n,hn⟩:∃ n,L.length=n:=⟨_,rfl⟩;have HN:=hid hn;rw[hn]at HDEC hdl;have hn4:n≤10000:=by omega
 have HSK:Hid (∀ i,i<n→0≤L[i]?.getD 0∧L[i]?.getD 0≤1114111):=fun i hi=>by
  have hi':i<L.length:=by rw[HN.out];exact hi
  rw[List.getElem?_eq_getElem hi'];exact bu (HSC.out _ (List.getElem_mem hi'))
 have HGS:Hid (∀ e W,((∃ t,e=.returned (.string t)∧U.bn t=en k L)∧Below w.heap.size w W)→kN k L w e W):=fun e W h=>h
 clear hL hn hdl;go_enter Tryz.func18,Tryz.ntmps18
 go_wp2_with fail;refine HDEC.out.mono ?_;rintro e w1 ⟨v1,rfl,r1,B1⟩
 obtain⟨a1,c1,rfl⟩:=bG r1;have HI:=hid (U.au.own HN.out.symm r1);obtain⟨a,c,he,hf⟩:=aF HI.out;rw[HN.out]at he hf;cases he
 have HF:=hid hf;have HB1:=hid B1;clear r1 B1 HDEC hf HI
 go_wp2_with fail
 go_loopw [6,7] (fun v6 v7 wr=>∃(i m c:Nat) (a:Option Addr),i≤n∧m≤12 * i∧v6=.slice a m c∧v7=.int .i64 i∧Hid (m=(en k (L.take i)).length)∧Hid (wr.ownsRow w1.heap.size 5 1 (.slice a m c) m ((en k (L.take i)).map (Value.int .u8)))∧Hid (Below w1.heap.size w1 wr)) (fun _ v7 _=>n - (intOf v7).toNat)
 case atStart=>exact⟨0,0,0,none,Nat.zero_le _,Nat.le_refl _,rfl,rfl,rfl,World.ownsRow_nil _ _ _ _,Below.refl _ _⟩
 case round =>
  obtain⟨i,m,c,a,hin,hmi,rfl,rfl,HM,HR,HB⟩:=hrel;by_cases hlt:i<n
  ·obtain⟨b,off,rfl,hck⟩:=dS HF.out HB.out i hlt
   obtain⟨hx0,hx1⟩:=HSK.out i hlt;have HBY:=hid (fun W=>U.jm (L[i]?.getD 0) hx0 hx1 W)
   have HTK:Hid (en k (L.take (i+1))=en k (L.take i)++part (inS (L[i]?.getD 0) k) (U.enc (L[i]?.getD 0))):=by
    show _=_
    rw[jW L i (by rw[HN.out];exact hlt),uU,xS]
   have HIN:=hid (fun W=>BZ (L[i]?.getD 0) k W);have hel:=U.fX (L[i]?.getD 0);have heb:=U.dX (L[i]?.getD 0) hx0 hx1;obtain⟨E,hE⟩:∃ E,U.enc (L[i]?.getD 0)=E:=⟨_,rfl⟩;rw[hE]at HBY HTK hel heb;obtain⟨q,hq⟩:∃ q,inS (L[i]?.getD 0) k=q:=⟨_,rfl⟩;rw[hq]at HTK HIN
   have HX:Hid (∀ W,Below w1.heap.size w1 W→W.cell? ⟨b,off+i,none⟩=some (.int .i32 (L[i]?.getD 0))):=fun W hW=>by
    obtain⟨b',off',e',hc'⟩:=dS HF.out hW i hlt;cases e'
    exact hc'
   obtain⟨x,hx⟩:∃ x,L[i]?.getD 0=x:=⟨_,rfl⟩;rw[hx]at hck HBY HIN HX hx0 hx1;have HEB:=hid heb;obtain⟨Y,hY⟩:∃ Y,en k (L.take i)=Y:=⟨_,rfl⟩;rw[hY]at HTK HM HR;clear hE hq hx hY heb;have z1:=HB.out.size
   go_wp2_with fail;refine(HBY.out _).mono ?_;rintro e w2 ⟨⟨t,rfl,ht⟩,B2⟩
   have hts:t.size=E.length:=by rw[←U.aa,ht]
   have HT:=hid ht;have R2:=hid (U.ax HR.out B2 (Nat.le_refl _));have HB2:=hid (HB.out.trans (B2.mono HB.out.size));have hel':t.size≤4:=by omega
   have HTS:=hid hts;clear ht B2 HR HB HBY hck hts hel
   go_wp2_with fail
   go_loopw [6,9] (fun v6 v9 wi=>∃(j m' c':Nat) (a':Option Addr),j≤t.size∧m'≤m+3 * j∧v6=.slice a' m' c'∧v9=.int .i64 j∧Hid (m'=(Y++part q (E.take j)).length)∧Hid (wi.ownsRow w1.heap.size 5 1 (.slice a' m' c') m' ((Y++part q (E.take j)).map (Value.int .u8)))∧Hid (Below w1.heap.size w1 wi)) (fun _ v9 _=>t.size - (intOf v9).toNat)
   case atStart=>exact⟨0,m,c,a,Nat.zero_le _,by omega,rfl,rfl,by show _=_;rw[List.take_zero,qK,List.append_nil];exact HM.out,by show World.ownsRow _ _ _ _ _ _ _;rw[List.take_zero,qK,List.append_nil];exact R2.out,HB2⟩
   case round =>
    obtain⟨j,m',c',a',hj,hm',rfl,rfl,HMj,HRj,HBj⟩:=hrel;by_cases hjl:j<t.size
    ·have hcj:=HX.out _ HBj.out
     have hjE:j<E.length:=by rw[←HTS.out];exact hjl
     have hg:=aq t j hjl;rw[HT.out]at hg;have hyb:0≤E[j]?.getD 0∧E[j]?.getD 0≤255:=by rw[List.getElem?_eq_getElem hjE];exact HEB.out _ (List.getElem_mem hjE)
     have HPY:=hid (yW E j hjE);have HPN:=hid (Cw E j hjE);obtain⟨y,hy⟩:∃ y,E[j]?.getD 0=y:=⟨_,rfl⟩;rw[hy]at hg hyb HPY HPN;have hg':=hg.symm;obtain⟨hy0,hy1⟩:=hyb;have zj:=HBj.out.size;have hmb:m'≤200000:=by omega
     obtain⟨Z,hZ⟩:∃ Z,Y++part q (E.take j)=Z:=⟨_,rfl⟩;have HZ:=hid hZ;rw[hZ]at HMj HRj;clear hy hg hZ;cases q with
     | true =>
      have HST:Hid (Y++part true (E.take (j+1))=Z++pe y):=by show _=_;rw[HPY.out,←List.append_assoc,HZ.out]
      have HPE:Hid (pe y=[37,dg (y / 16),dg (y % 16)]):=rfl;have HD1:=hid (l0 (y / 16) (by omega) (by omega));have HD2:=hid (l0 (y % 16) (by omega) (by omega));have htd:Int.tdiv y 16=y / 16:=Int.tdiv_eq_ediv_of_nonneg hy0;have htm:Int.tmod y 16=y % 16:=Int.tmod_eq_emod_of_nonneg hy0;obtain⟨p1,hp1⟩:∃ p1,y / 16=p1:=⟨_,rfl⟩;obtain⟨p2,hp2⟩:∃ p2,y % 16=p2:=⟨_,rfl⟩;rw[hp1]at HPE HD1 htd;rw[hp2]at HPE HD2 htm;have hw1:IntKind.u8.wrap p1=p1:=by rw[IntKind.wrap_u8];omega
      have hw2:IntKind.u8.wrap p2=p2:=by rw[IntKind.wrap_u8];omega
      obtain⟨d1,hd1⟩:∃ d1,dg p1=d1:=⟨_,rfl⟩;obtain⟨d2,hd2⟩:∃ d2,dg p2=d2:=⟨_,rfl⟩;rw[hd1]at HPE HD1;rw[hd2]at HPE HD2;clear hd1 hd2;clear HPY HPN HZ
      go_wp2_with(go_at_call 37;refine(HIN.out _).mono ?_;rintro e w3 ⟨rfl,hw3⟩;obtain rfl:=hw3.symm)
      have hen:=enters_of Tryz.func38 (by kernel_rfl) rfl;refine bP 11 (by kernel_rfl) (by kernel_rfl) ?_;simp only[List.take_succ_cons,List.take_zero,List.drop_succ_cons,List.drop_zero];refine ai (.slice a' m' c') rfl (fun W=>by go_simp) ?_;refine ai (.string t) rfl (fun W=>by go_simp) ?_;refine ai (.int .i64 j) rfl (fun W=>by go_simp) ?_;refine ai (.int .u8 y) rfl (fun W=>by go_simp) ?_;refine ai (.int .u8 p1) rfl (fun W=>by go_simp) ?_;refine gv (.int .u8 d1) rfl (f:=38) (args:=#[.int .u8 p1]) (fun W=>by go_simp) HD1.out ?_;refine ai (.string t) rfl (fun W=>by go_simp) ?_;refine ai (.int .i64 j) rfl (fun W=>by go_simp) ?_;refine ai (.int .u8 y) rfl (fun W=>by go_simp) ?_;refine ai (.int .u8 p2) rfl (fun W=>by go_simp) ?_;refine gv (.int .u8 d2) rfl (f:=38) (args:=#[.int .u8 p2]) (fun W=>by go_simp) HD2.out ?_;refine c9 ?_;show wpList _ _ _ _ _ wr.drew
      go_wp2_with(at_builtin;refine wpList_append_own _ rfl _ _ 36 rfl w1.heap.size 5 i0 (.int .u8 0) 1 1 Tryz.underlying36 hi hz0 hz1 hz2 rfl (by decide) _ _ _ rfl ((HRj.out.drew).alloc _) ⟨wr.heap.size,0,none⟩ 3 3 [.int .u8 37,.int .u8 d1,.int .u8 d2] rfl rfl (U.bZ wr.drew _ _) (by simp[Value.oneCell']) (by unfold maxLen;omega) (by omega) (by simp;omega) ?_;intro v3 w3 r3 g3 _;obtain⟨a3,c3,rfl⟩:=qO r3)
      have G3:Hid ((wr.alloc (.cells #[.int .u8 37,.int .u8 d1,.int .u8 d2] 5)).drew.grownBy w3 (Value.slice a' m' c').ownBlock):=g3;have R3:=hid r3;clear r3 g3;refine⟨rfl,?_⟩
      go_wp2_with fail
      go_roundw
      case rel =>
       refine⟨j+1,m'+3,c3,a3,by omega,by omega,rfl,by go_num,by show _=_;rw[HST.out,List.length_append,←HMj.out];rfl,?_,U.below_grow (w1:=(wr.alloc (.cells #[.int .u8 37,.int .u8 d1,.int .u8 d2] 5)).drew) ((HBj.out.alloc HBj.out.size _).drew) (Nat.le_trans HBj.out.size (by simp)) ((HRj.out.alloc _).drew) G3.out⟩;show World.ownsRow _ _ _ _ _ _ _
       rw[HST.out,HPE.out,List.map_append];exact R3.out
      case measure=>simp[intOf];omega
     | false =>
      have HST:Hid (Y++part false (E.take (j+1))=Z++[y]):=by show _=_;rw[HPN.out,←List.append_assoc,HZ.out]
      clear HPY HPN HZ
      go_wp2_with(first
        | (go_at_call 37;refine(HIN.out _).mono ?_;rintro e w3 ⟨rfl,hw3⟩;obtain rfl:=hw3.symm)
        | (at_builtin;refine wpList_append_own _ rfl _ _ 36 rfl w1.heap.size 5 i0 (.int .u8 0) 1 1 Tryz.underlying36 hi hz0 hz1 hz2 rfl (by decide) _ _ _ rfl (HRj.out.alloc _) ⟨wr.heap.size,0,none⟩ 1 1 [.int .u8 y] rfl rfl (U.bZ _ _ _) (by simp[Value.oneCell']) (by unfold maxLen;omega) (by omega) (by simp;omega) ?_;intro v3 w3 r3 g3 _;obtain⟨a3,c3,rfl⟩:=qO r3))
      go_roundw
      case rel =>
       refine⟨j+1,m'+1,c3,a3,by omega,by omega,rfl,by go_num,by show _=_;rw[HST.out,List.length_append,←HMj.out];rfl,?_,U.below_grow (w1:=wr.alloc (.cells #[.int .u8 y] 5)) (HBj.out.alloc HBj.out.size _) (Nat.le_trans HBj.out.size (by simp)) (HRj.out.alloc _) g3⟩;show World.ownsRow _ _ _ _ _ _ _
       rw[HST.out,List.map_append];exact r3
      case measure=>simp[intOf];omega
    ·have ht:E.take j=E:=List.take_of_length_le (by rw[←HTS.out];omega)
     rw[ht]at HMj HRj;rw[←HTK.out]at HMj HRj;clear ht
     go_wp2_with fail
     go_roundw
     case rel=>exact⟨i+1,m',c',a',by omega,by omega,rfl,by go_num,HMj,HRj,HBj⟩
     case measure=>simp[intOf];omega
  ·have ht:L.take i=L:=List.take_of_length_le (by rw[HN.out];omega)
   rw[ht]at HM HR;have HBW:=hid (HB1.out.trans (HB.out.mono HB1.out.size));obtain⟨t,hcv,htb⟩:=U.aO wr w1.heap.size _ _ (en k L) HM.out (mQ HSC.out) HR.out;have HTB:=hid htb;clear ht htb HM HR;go_wp2;go_ret;exact HGS.out _ _ ⟨⟨t,rfl,HTB.out⟩,HBW.out⟩
end Go.Proofs.YtkekkbciiohbkaaGreatDoor.E
namespace Go.Proofs.YtkekkbciiohbkaaGreatDoor.H
open Go.RowKit
open Go.Proofs.YtkekkbciiohbkaaGreatDoor.F (bn aa av aq ar hid aj ab ah aR aK take_one)
theorem so{p:Int→Bool}{l:List Int}{i:Nat}(h:i<l.length):(l.take (i+1)).any p=((l.take i).any p||p (l[i]?.getD 0)):=by
 rw[take_one l i h,List.any_append];simp
theorem uP(l:List Int)(h:U.Bytes l):∃ t:ByteArray,bn t=l:=by
 refine⟨⟨(l.map fun c=>UInt8.ofNat c.toNat).toArray⟩,?_⟩;unfold F.bn;rw[List.toList_toArray,List.map_map]
 conv=>rhs;rw[←List.map_id l]
 apply List.map_congr_left;intro c hc
 have:=h c hc;simp only[Function.comp,UInt8.toNat_ofNat',id];omega
theorem Cz{s:List Int}(h:s.any fb=true):opq s=non 70:=by unfold opq;rw[if_pos h]
theorem za:opq []=non 0:=rfl
theorem zb{s:List Int}(h:s.any fb=false)(hs:s≠[]):opq s=(4,E.en 0 (U.dec s),0,z8,0):=by unfold opq;rw[h,if_neg (by simp),if_neg hs]
theorem opaque_walk{A:List Int→List Int→Int→Prop}{G:World→Prop}(C:Ctr A G)(s:ByteArray)(w:World)(hG:G w)(hs:s.size≤maxLen):
  Calls Tryz.prog 7 #[.string s] w fun e W'=>e=.returned (.bool true)∧Below w.heap.size w W':=by
 unfold maxLen at hs
 have HK:Hid (∀ W,Below w.heap.size w W→G W):=fun W h=>C.keep w W hG h
 have HW:Hid (∀ W,Below w.heap.size w W→Calls Tryz.prog 8 #[] W fun e W'=>e=.returned (.bool true)∧Below W.heap.size W W'):=fun W h=>da C W (HK.out W h)
 have HB:Hid (Below w.heap.size w w):=Below.refl _ _;by_cases h6:600<s.size
 ·have h6z:(600:Int)<(s.size:Int):=by omega
  have HBD:=HB;clear C hG;go_enter Tryz.func7,Tryz.ntmps7
  go_wp2_with(go_at_call 8;refine(HW.out _ HBD.out).mono ?_;rintro e w2 ⟨rfl,B2⟩)
  go_ret;exact⟨rfl,B2⟩
 ·have h6z:¬ (600:Int)<(s.size:Int):=by omega
  by_cases h91:(bn s).head? = some 91
  ·have hs0:0<s.size:=by
    rcases Nat.eq_zero_or_pos s.size with h | h
    ·have:bn s=[]:=List.length_eq_zero_iff.1 (by rw[aa];exact h)
     rw[this]at h91;cases h91
    ·exact h
   have hg:=(aq s 0 hs0).symm;have h9:(bn s)[0]?.getD 0=91:=by rw[←List.head?_eq_getElem?,h91];rfl
   rw[h9]at hg;have he:s.toList.isEmpty=false:=ab s hs0;have HBD:=HB;clear C hG h9 h91;go_enter Tryz.func7,Tryz.ntmps7
   go_wp2_with(go_at_call 8;refine(HW.out _ HBD.out).mono ?_;rintro e w2 ⟨rfl,B2⟩)
   go_ret;exact⟨rfl,B2⟩
  ·have hx:∀ h,h=opq (bn s)→HP A (bn s) false h:=fun h e=>by
    unfold HP;rw[if_neg (by rw[aa];omega),if_neg h91,if_pos rfl];exact e
   have HGT:=hid (aq s);by_cases h0:s.size=0
   ·have hb:bn s=[]:=List.length_eq_zero_iff.1 (by rw[aa];exact h0)
    have he:s.toList.isEmpty=true:=ah s h0;have HCP:Hid (∀ W,G W→Calls Tryz.prog 9 #[.string s,.bool false] W fun e W'=>e=.returned (.tuple #[hv 0 ⟨#[]⟩ 0 0 0 0 0 0 0 0 0,.int .i64 0])∧Below W.heap.size W W'):=fun W h=>C.cpIs (s:=s) (n:=em) (by omega) (hx _ (by rw[hb,za])) rfl W h
    have HEN:Hid (∀ W,Calls Tryz.prog 18 #[.string s,.int .u8 0] W fun e W'=>e=.returned (.string ⟨#[]⟩)∧Below W.heap.size W W'):=fun W=>(E.kq s 0 W (by omega)).mono (by
      rintro e W' ⟨⟨t,rfl,ht⟩,hB⟩
      rw[show U.bn s=[] from hb]at ht
      obtain rfl:t=em:=av (s:=t) (t:=em) ht
      exact⟨rfl,hB⟩)
    have HANY:Hid ((bn s).any fb=false):=by show _=_;rw[hb];rfl
    have hee:=bI ⟨#[]⟩;clear C hG hx hb;go_enter Tryz.func7,Tryz.ntmps7
    go_wp2_with fail;refine(HCP.out _ (HK.out _ HB.out)).mono ?_;rintro e v1 ⟨rfl,B⟩
    have A1:=hid (heap_alloc_new v1 (.cells #[.int .u8 0,.string ⟨#[]⟩,.int .u32 0,.int .u16 0,.int .u16 0,.int .u16 0,.int .u16 0,.int .u16 0,.int .u16 0,.int .u16 0,.int .u16 0] 26))
    replace HB:=hid (HB.out.trans (B.mono HB.out.size))
    replace HB:=hid (HB.out.alloc HB.out.size (.cells #[.int .u8 0,.string ⟨#[]⟩,.int .u32 0,.int .u16 0,.int .u16 0,.int .u16 0,.int .u16 0,.int .u16 0,.int .u16 0,.int .u16 0,.int .u16 0] 26))
    clear B HCP
    go_wp2_with fail;obtain⟨v2,hv2⟩:∃ v2,v1.alloc (.cells #[.int .u8 0,.string ⟨#[]⟩,.int .u32 0,.int .u16 0,.int .u16 0,.int .u16 0,.int .u16 0,.int .u16 0,.int .u16 0,.int .u16 0,.int .u16 0] 26)=v2:=⟨_,rfl⟩;rw[hv2]at A1 HB ⊢;clear hv2
    go_loopw [5,6] (fun vb vi wr=>∃ i kk:Nat,i≤s.size∧vb=.bool (((bn s).take i).any fb)∧vi=.int .i64 (i:Int)∧wr=v2.drewN kk) (fun _ vi _=>s.size - (intOf vi).toNat)
    case atStart=>exact⟨0,0,Nat.zero_le _,rfl,rfl,rfl⟩
    case round =>
     obtain⟨i,kk,hi,rfl,rfl,rfl⟩:=hrel;have HBD:=hid (dG HB.out kk);by_cases hlt:i<s.size
     ·exfalso;omega
     ·have hltz:¬ (i:Int)<(s.size:Int):=by omega
      have htk:(bn s).take i=bn s:=List.take_of_length_le (by rw[aa];omega);rw[htk,HANY.out];clear htk HGT HANY;have F0:World.cell? v2 ⟨v1.heap.size,0,none⟩=some (.int .u8 0):=cell_of_row _ _ 0 _ _ _ A1.out;have F1:World.cell? v2 ⟨v1.heap.size,1,none⟩=some (.string ⟨#[]⟩):=cell_of_row _ _ 1 _ _ _ A1.out;have F2:World.cell? v2 ⟨v1.heap.size,2,none⟩=some (.int .u32 0):=cell_of_row _ _ 2 _ _ _ A1.out;have F3:World.cell? v2 ⟨v1.heap.size,3,none⟩=some (.int .u16 0):=cell_of_row _ _ 3 _ _ _ A1.out;have F4:World.cell? v2 ⟨v1.heap.size,4,none⟩=some (.int .u16 0):=cell_of_row _ _ 4 _ _ _ A1.out;have F5:World.cell? v2 ⟨v1.heap.size,5,none⟩=some (.int .u16 0):=cell_of_row _ _ 5 _ _ _ A1.out;have F6:World.cell? v2 ⟨v1.heap.size,6,none⟩=some (.int .u16 0):=cell_of_row _ _ 6 _ _ _ A1.out;have F7:World.cell? v2 ⟨v1.heap.size,7,none⟩=some (.int .u16 0):=cell_of_row _ _ 7 _ _ _ A1.out;have F8:World.cell? v2 ⟨v1.heap.size,8,none⟩=some (.int .u16 0):=cell_of_row _ _ 8 _ _ _ A1.out;have F9:World.cell? v2 ⟨v1.heap.size,9,none⟩=some (.int .u16 0):=cell_of_row _ _ 9 _ _ _ A1.out;have F10:World.cell? v2 ⟨v1.heap.size,10,none⟩=some (.int .u16 0):=cell_of_row _ _ 10 _ _ _ A1.out
      go_wp2_with fail;refine(HEN.out _).mono ?_;rintro e v5 ⟨rfl,B⟩
      have A5:Hid (v5.heap[v1.heap.size]? = _):=ag (W:=v2.drewN kk) A1.out B
      replace HBD:=hid (HBD.out.trans (B.mono HBD.out.size))
      clear B HEN F0 F1 F2 F3 F4 F5 F6 F7 F8 F9 F10 A1;have F0:World.cell? _ ⟨v1.heap.size,0,none⟩=some (.int .u8 0):=cell_of_row _ _ 0 _ _ _ A5.out;have F1:World.cell? _ ⟨v1.heap.size,1,none⟩=some (.string ⟨#[]⟩):=cell_of_row _ _ 1 _ _ _ A5.out;have F2:World.cell? _ ⟨v1.heap.size,2,none⟩=some (.int .u32 0):=cell_of_row _ _ 2 _ _ _ A5.out;have F3:World.cell? _ ⟨v1.heap.size,3,none⟩=some (.int .u16 0):=cell_of_row _ _ 3 _ _ _ A5.out;have F4:World.cell? _ ⟨v1.heap.size,4,none⟩=some (.int .u16 0):=cell_of_row _ _ 4 _ _ _ A5.out;have F5:World.cell? _ ⟨v1.heap.size,5,none⟩=some (.int .u16 0):=cell_of_row _ _ 5 _ _ _ A5.out;have F6:World.cell? _ ⟨v1.heap.size,6,none⟩=some (.int .u16 0):=cell_of_row _ _ 6 _ _ _ A5.out;have F7:World.cell? _ ⟨v1.heap.size,7,none⟩=some (.int .u16 0):=cell_of_row _ _ 7 _ _ _ A5.out;have F8:World.cell? _ ⟨v1.heap.size,8,none⟩=some (.int .u16 0):=cell_of_row _ _ 8 _ _ _ A5.out;have F9:World.cell? _ ⟨v1.heap.size,9,none⟩=some (.int .u16 0):=cell_of_row _ _ 9 _ _ _ A5.out;have F10:World.cell? _ ⟨v1.heap.size,10,none⟩=some (.int .u16 0):=cell_of_row _ _ 10 _ _ _ A5.out
      go_wp2_with(go_at_call 8;refine(HW.out _ HBD.out).mono ?_;rintro e w2 ⟨rfl,B2⟩)
      go_ret;exact⟨rfl,HBD.out.trans (B2.mono HBD.out.size)⟩
   ·have hsn:bn s≠[]:=fun h=>h0 (by rw[←aa,h];rfl)
    have he:s.toList.isEmpty=false:=ab s (by omega);have hg0:=(aq s 0 (by omega)).symm;have h9:(bn s)[0]?.getD 0≠91:=fun h=>h91 (by rw[List.head?_eq_getElem?,List.getElem?_eq_getElem (by rw[aa];omega)];rw[List.getElem?_eq_getElem (by rw[aa];omega)]at h;exact congrArg some h)
    obtain⟨y0,hy0⟩:∃ y0,(bn s)[0]?.getD 0=y0:=⟨_,rfl⟩;rw[hy0]at hg0 h9;have h9b:(y0==91)=false:=by simpa using h9
    clear hy0 h9;cases hany:(bn s).any fb with
    | true =>
     have HCP:Hid (∀ W,G W→Calls Tryz.prog 9 #[.string s,.bool false] W fun e W'=>e=.returned (.tuple #[hv 0 ⟨#[]⟩ 0 0 0 0 0 0 0 0 0,.int .i64 70])∧Below W.heap.size W W'):=fun W h=>C.cpIs (s:=s) (n:=em) (by omega) (hx _ (by rw[Cz hany])) rfl W h
     have HANY:Hid ((bn s).any fb=true):=hany;have E0:∀ W,(binOp .eql 26 (hv 0 ⟨#[]⟩ 0 0 0 0 0 0 0 0 0) (hv 0 ⟨#[]⟩ 0 0 0 0 0 0 0 0 0)).run Tryz.prog W=.ok (.bool true) W:=fun W=>by rw[dF,cV]
     clear C hG hx hany hsn;go_enter Tryz.func7,Tryz.ntmps7
     go_wp2_with fail;refine(HCP.out _ (HK.out _ HB.out)).mono ?_;rintro e v1 ⟨rfl,B⟩
     have A1:=hid (heap_alloc_new v1 (.cells #[.int .u8 0,.string ⟨#[]⟩,.int .u32 0,.int .u16 0,.int .u16 0,.int .u16 0,.int .u16 0,.int .u16 0,.int .u16 0,.int .u16 0,.int .u16 0] 26))
     replace HB:=hid (HB.out.trans (B.mono HB.out.size))
     replace HB:=hid (HB.out.alloc HB.out.size (.cells #[.int .u8 0,.string ⟨#[]⟩,.int .u32 0,.int .u16 0,.int .u16 0,.int .u16 0,.int .u16 0,.int .u16 0,.int .u16 0,.int .u16 0,.int .u16 0] 26))
     clear B HCP
     go_wp2_with fail;obtain⟨v2,hv2⟩:∃ v2,v1.alloc (.cells #[.int .u8 0,.string ⟨#[]⟩,.int .u32 0,.int .u16 0,.int .u16 0,.int .u16 0,.int .u16 0,.int .u16 0,.int .u16 0,.int .u16 0,.int .u16 0] 26)=v2:=⟨_,rfl⟩;rw[hv2]at A1 HB ⊢;clear hv2
     go_loopw [5,6] (fun vb vi wr=>∃ i kk:Nat,i≤s.size∧vb=.bool (((bn s).take i).any fb)∧vi=.int .i64 (i:Int)∧wr=v2.drewN kk) (fun _ vi _=>s.size - (intOf vi).toNat)
     case atStart=>exact⟨0,0,Nat.zero_le _,rfl,rfl,rfl⟩
     case round =>
      obtain⟨i,kk,hi,rfl,rfl,rfl⟩:=hrel;have HBD:=hid (dG HB.out kk);by_cases hlt:i<s.size
      ·have hltz:(i:Int)<(s.size:Int):=by omega
       have hg:=(HGT.out i hlt).symm;have HAT:=hid (so (p:=fb) (l:=bn s) (i:=i) (by rw[aa];exact hlt));obtain⟨q1,q2⟩:=ar (s:=s) hlt;obtain⟨y,hy⟩:∃ y,(bn s)[i]?.getD 0=y:=⟨_,rfl⟩;rw[hy]at hg q1 q2 HAT;have HF:Hid (∀ W,Calls Tryz.prog 15 #[.int .u8 y,.bool false] W fun e W'=>e=.returned (.bool (fb y))∧W'=W):=fun W=>ik y false q1 q2 W
       obtain⟨g,hgg⟩:∃ g,((bn s).take i).any fb=g:=⟨_,rfl⟩;rw[hgg]at HAT ⊢;obtain⟨z,hz⟩:∃ z,fb y=z:=⟨_,rfl⟩;rw[hz]at HAT HF;clear hy hgg hz HGT;cases g with
       | true =>
        go_wp2_with fail
        first
         | go_quiet (fail)
         | skip
        go_wp2
        go_roundw
        case rel=>exact⟨i+1,_,by omega,by rw[HAT.out];rfl,by go_num,rfl⟩
        case measure=>simp[intOf];omega
       | false =>
        go_wp2_with(go_at_call 15;refine(HF.out _).mono ?_;rintro e w2 ⟨rfl,hw2⟩;obtain rfl:=hw2.symm)
        go_roundw
        case rel=>exact⟨i+1,_,by omega,by rw[HAT.out];rfl,by go_num,rfl⟩
        case measure=>simp[intOf];omega
      ·have hltz:¬ (i:Int)<(s.size:Int):=by omega
       have htk:(bn s).take i=bn s:=List.take_of_length_le (by rw[aa];omega);rw[htk,HANY.out];clear htk HGT HANY;have F0:World.cell? v2 ⟨v1.heap.size,0,none⟩=some (.int .u8 0):=cell_of_row _ _ 0 _ _ _ A1.out;have F1:World.cell? v2 ⟨v1.heap.size,1,none⟩=some (.string ⟨#[]⟩):=cell_of_row _ _ 1 _ _ _ A1.out;have F2:World.cell? v2 ⟨v1.heap.size,2,none⟩=some (.int .u32 0):=cell_of_row _ _ 2 _ _ _ A1.out;have F3:World.cell? v2 ⟨v1.heap.size,3,none⟩=some (.int .u16 0):=cell_of_row _ _ 3 _ _ _ A1.out;have F4:World.cell? v2 ⟨v1.heap.size,4,none⟩=some (.int .u16 0):=cell_of_row _ _ 4 _ _ _ A1.out;have F5:World.cell? v2 ⟨v1.heap.size,5,none⟩=some (.int .u16 0):=cell_of_row _ _ 5 _ _ _ A1.out;have F6:World.cell? v2 ⟨v1.heap.size,6,none⟩=some (.int .u16 0):=cell_of_row _ _ 6 _ _ _ A1.out;have F7:World.cell? v2 ⟨v1.heap.size,7,none⟩=some (.int .u16 0):=cell_of_row _ _ 7 _ _ _ A1.out;have F8:World.cell? v2 ⟨v1.heap.size,8,none⟩=some (.int .u16 0):=cell_of_row _ _ 8 _ _ _ A1.out;have F9:World.cell? v2 ⟨v1.heap.size,9,none⟩=some (.int .u16 0):=cell_of_row _ _ 9 _ _ _ A1.out;have F10:World.cell? v2 ⟨v1.heap.size,10,none⟩=some (.int .u16 0):=cell_of_row _ _ 10 _ _ _ A1.out
       go_wp2_with(go_at_call 8;refine(HW.out _ HBD.out).mono ?_;rintro e w2 ⟨rfl,B2⟩)
       go_ret;exact⟨rfl,HBD.out.trans (B2.mono HBD.out.size)⟩
    | false =>
     obtain⟨n,hn⟩:=uP (E.en 0 (U.dec (bn s))) (E.mQ (E.eN s));have HCP:Hid (∀ W,G W→Calls Tryz.prog 9 #[.string s,.bool false] W fun e W'=>e=.returned (.tuple #[hv 4 n 0 0 0 0 0 0 0 0 0,.int .i64 0])∧Below W.heap.size W W'):=fun W h=>C.cpIs (s:=s) (n:=n) (h:=(4,E.en 0 (U.dec (bn s)),0,z8,0)) (by omega) (hx _ (by rw[zb hany hsn])) hn W h
     have HEN:Hid (∀ W,Calls Tryz.prog 18 #[.string s,.int .u8 0] W fun e W'=>e=.returned (.string n)∧Below W.heap.size W W'):=fun W=>(E.kq s 0 W (by omega)).mono (by
       rintro e W' ⟨⟨t,rfl,ht⟩,hB⟩
       obtain rfl:t=n:=av (s:=t) (t:=n) (ht.trans hn.symm)
       exact⟨rfl,hB⟩)
     have HANY:Hid ((bn s).any fb=false):=hany;have hee:=bI n;clear C hG hx hany hsn hn;go_enter Tryz.func7,Tryz.ntmps7
     go_wp2_with fail;refine(HCP.out _ (HK.out _ HB.out)).mono ?_;rintro e v1 ⟨rfl,B⟩
     have A1:=hid (heap_alloc_new v1 (.cells #[.int .u8 4,.string n,.int .u32 0,.int .u16 0,.int .u16 0,.int .u16 0,.int .u16 0,.int .u16 0,.int .u16 0,.int .u16 0,.int .u16 0] 26))
     replace HB:=hid (HB.out.trans (B.mono HB.out.size))
     replace HB:=hid (HB.out.alloc HB.out.size (.cells #[.int .u8 4,.string n,.int .u32 0,.int .u16 0,.int .u16 0,.int .u16 0,.int .u16 0,.int .u16 0,.int .u16 0,.int .u16 0,.int .u16 0] 26))
     clear B HCP
     go_wp2_with fail;obtain⟨v2,hv2⟩:∃ v2,v1.alloc (.cells #[.int .u8 4,.string n,.int .u32 0,.int .u16 0,.int .u16 0,.int .u16 0,.int .u16 0,.int .u16 0,.int .u16 0,.int .u16 0,.int .u16 0] 26)=v2:=⟨_,rfl⟩;rw[hv2]at A1 HB ⊢;clear hv2
     go_loopw [5,6] (fun vb vi wr=>∃ i kk:Nat,i≤s.size∧vb=.bool (((bn s).take i).any fb)∧vi=.int .i64 (i:Int)∧wr=v2.drewN kk) (fun _ vi _=>s.size - (intOf vi).toNat)
     case atStart=>exact⟨0,0,Nat.zero_le _,rfl,rfl,rfl⟩
     case round =>
      obtain⟨i,kk,hi,rfl,rfl,rfl⟩:=hrel;have HBD:=hid (dG HB.out kk);by_cases hlt:i<s.size
      ·have hltz:(i:Int)<(s.size:Int):=by omega
       have hg:=(HGT.out i hlt).symm;have HAT:=hid (so (p:=fb) (l:=bn s) (i:=i) (by rw[aa];exact hlt));obtain⟨q1,q2⟩:=ar (s:=s) hlt;obtain⟨y,hy⟩:∃ y,(bn s)[i]?.getD 0=y:=⟨_,rfl⟩;rw[hy]at hg q1 q2 HAT;have HF:Hid (∀ W,Calls Tryz.prog 15 #[.int .u8 y,.bool false] W fun e W'=>e=.returned (.bool (fb y))∧W'=W):=fun W=>ik y false q1 q2 W
       obtain⟨g,hgg⟩:∃ g,((bn s).take i).any fb=g:=⟨_,rfl⟩;rw[hgg]at HAT ⊢;obtain⟨z,hz⟩:∃ z,fb y=z:=⟨_,rfl⟩;rw[hz]at HAT HF;clear hy hgg hz HGT;cases g with
       | true =>
        go_wp2_with fail
        first
         | go_quiet (fail)
         | skip
        go_wp2
        go_roundw
        case rel=>exact⟨i+1,_,by omega,by rw[HAT.out];rfl,by go_num,rfl⟩
        case measure=>simp[intOf];omega
       | false =>
        go_wp2_with(go_at_call 15;refine(HF.out _).mono ?_;rintro e w2 ⟨rfl,hw2⟩;obtain rfl:=hw2.symm)
        go_roundw
        case rel=>exact⟨i+1,_,by omega,by rw[HAT.out];rfl,by go_num,rfl⟩
        case measure=>simp[intOf];omega
      ·have hltz:¬ (i:Int)<(s.size:Int):=by omega
       have htk:(bn s).take i=bn s:=List.take_of_length_le (by rw[aa];omega);rw[htk,HANY.out];clear htk HGT HANY;have F0:World.cell? v2 ⟨v1.heap.size,0,none⟩=some (.int .u8 4):=cell_of_row _ _ 0 _ _ _ A1.out;have F1:World.cell? v2 ⟨v1.heap.size,1,none⟩=some (.string n):=cell_of_row _ _ 1 _ _ _ A1.out;have F2:World.cell? v2 ⟨v1.heap.size,2,none⟩=some (.int .u32 0):=cell_of_row _ _ 2 _ _ _ A1.out;have F3:World.cell? v2 ⟨v1.heap.size,3,none⟩=some (.int .u16 0):=cell_of_row _ _ 3 _ _ _ A1.out;have F4:World.cell? v2 ⟨v1.heap.size,4,none⟩=some (.int .u16 0):=cell_of_row _ _ 4 _ _ _ A1.out;have F5:World.cell? v2 ⟨v1.heap.size,5,none⟩=some (.int .u16 0):=cell_of_row _ _ 5 _ _ _ A1.out;have F6:World.cell? v2 ⟨v1.heap.size,6,none⟩=some (.int .u16 0):=cell_of_row _ _ 6 _ _ _ A1.out;have F7:World.cell? v2 ⟨v1.heap.size,7,none⟩=some (.int .u16 0):=cell_of_row _ _ 7 _ _ _ A1.out;have F8:World.cell? v2 ⟨v1.heap.size,8,none⟩=some (.int .u16 0):=cell_of_row _ _ 8 _ _ _ A1.out;have F9:World.cell? v2 ⟨v1.heap.size,9,none⟩=some (.int .u16 0):=cell_of_row _ _ 9 _ _ _ A1.out;have F10:World.cell? v2 ⟨v1.heap.size,10,none⟩=some (.int .u16 0):=cell_of_row _ _ 10 _ _ _ A1.out
       go_wp2_with fail;refine(HEN.out _).mono ?_;rintro e v5 ⟨rfl,B⟩
       have A5:Hid (v5.heap[v1.heap.size]? = _):=ag (W:=v2.drewN kk) A1.out B
       replace HBD:=hid (HBD.out.trans (B.mono HBD.out.size))
       clear B HEN F0 F1 F2 F3 F4 F5 F6 F7 F8 F9 F10 A1;have F0:World.cell? _ ⟨v1.heap.size,0,none⟩=some (.int .u8 4):=cell_of_row _ _ 0 _ _ _ A5.out;have F1:World.cell? _ ⟨v1.heap.size,1,none⟩=some (.string n):=cell_of_row _ _ 1 _ _ _ A5.out;have F2:World.cell? _ ⟨v1.heap.size,2,none⟩=some (.int .u32 0):=cell_of_row _ _ 2 _ _ _ A5.out;have F3:World.cell? _ ⟨v1.heap.size,3,none⟩=some (.int .u16 0):=cell_of_row _ _ 3 _ _ _ A5.out;have F4:World.cell? _ ⟨v1.heap.size,4,none⟩=some (.int .u16 0):=cell_of_row _ _ 4 _ _ _ A5.out;have F5:World.cell? _ ⟨v1.heap.size,5,none⟩=some (.int .u16 0):=cell_of_row _ _ 5 _ _ _ A5.out;have F6:World.cell? _ ⟨v1.heap.size,6,none⟩=some (.int .u16 0):=cell_of_row _ _ 6 _ _ _ A5.out;have F7:World.cell? _ ⟨v1.heap.size,7,none⟩=some (.int .u16 0):=cell_of_row _ _ 7 _ _ _ A5.out;have F8:World.cell? _ ⟨v1.heap.size,8,none⟩=some (.int .u16 0):=cell_of_row _ _ 8 _ _ _ A5.out;have F9:World.cell? _ ⟨v1.heap.size,9,none⟩=some (.int .u16 0):=cell_of_row _ _ 9 _ _ _ A5.out;have F10:World.cell? _ ⟨v1.heap.size,10,none⟩=some (.int .u16 0):=cell_of_row _ _ 10 _ _ _ A5.out
       go_wp2_with(go_at_call 8;refine(HW.out _ HBD.out).mono ?_;rintro e w2 ⟨rfl,B2⟩)
       go_ret;exact⟨rfl,HBD.out.trans (B2.mono HBD.out.size)⟩
end Go.Proofs.YtkekkbciiohbkaaGreatDoor.H
