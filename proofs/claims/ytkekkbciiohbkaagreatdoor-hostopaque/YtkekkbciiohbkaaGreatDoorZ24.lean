/- Texts one behind the other: KK KM KL KF LH. -/
import Derived.Test.YtkekkbciiohbkaaGreatDoorZ20
import Derived.Test.YtkekkbciiohbkaaGreatDoorZ23
import Derived.Test.YtkekkbciiohbkaaGreatDoorZ12
import Derived.Test.YtkekkbciiohbkaaGreatDoorZ22
import Derived.WalkLawsBesides
import Derived.Recover
import Derived.Defers
set_option maxRecDepth 100000
set_option maxHeartbeats 16000000
set_option linter.unusedVariables false
set_option linter.unnecessarySimpa false
namespace Go.Proofs.YtkekkbciiohbkaaGreatDoor.I
open Go.RowKit
def fD(r:Int):List PanicEntry:=[{ v:=.iface 93 (.agg #[.int .i64 r]),recovered:=false }]
theorem l9{l:List Int}(h:plain l=true)(p:List Int):Part l p↔p=l:=by
 constructor
 ·rintro(⟨_,e⟩ | ⟨h2,_⟩)
  ·exact e
  ·rw[h]at h2;cases h2
 ·rintro rfl;exact .inl ⟨h,rfl⟩
def WrR(l:List Int)(e:Ending):Prop:=(∃ t,e=.returned (.string t)∧Part l (U.bn t))∨(e=.panicked (fD 70)∧¬ ∃ p,Part l p)
theorem eE(v:Value)(l:List Int)(w:World)(hlen:l.length≤10000)(hs:Scs l)(hv:El w v l):
  Calls Tryz.prog 107 #[v] w fun e W'=>WrR l e∧Below w.heap.size w W':=by
 have HAS:=hid (kB v l w (by omega) hs hv.ints);have HENC:=hid (U.fW v l (by omega) w hv.ints);have HPE:=hid (P.gE v l (by omega) w hv.ints);have HS:=hid hs;obtain⟨a,c,e0,-⟩:=hv.1;obtain⟨n,hn⟩:∃ n,l.length=n:=⟨_,rfl⟩;rw[hn]at e0;subst e0;clear hv hn hs;cases hp:plain l with
 | true =>
  have HP:=hid (l9 hp);have HEL:Hid (U.aL l=l):=dk (fun c hc=>(cn.1 hp c hc).2);rw[hp]at HAS;clear hp;go_enter Tryz.func107,Tryz.ntmps107
  go_wp2_with(first
    | (go_at_call 150;refine HAS.out.mono ?_;rintro e wb ⟨rfl,hwb⟩;obtain rfl:=hwb.symm)
    | (go_at_call 151;refine HENC.out.mono ?_;rintro e w1 ⟨⟨s1,r1,rfl,hE⟩,B1⟩;have HE:=hid hE;have HB1:=hid B1;clear hE B1))
  go_ret;refine⟨.inl ⟨s1,rfl,(HP.out _).2 ?_⟩,HB1.out⟩;rcases HE.out with⟨_,_,h⟩ | ⟨h,_⟩
  ·rw[h,HEL.out]
  ·rw[jl.1 HS.out]at h;cases h
 | false =>
  rw[hp]at HAS;have HP:=hid hp;clear hp;go_enter Tryz.func107,Tryz.ntmps107
  go_upto_if 21 with(first
    | (go_at_call 150;refine HAS.out.mono ?_;rintro e wb ⟨rfl,hwb⟩;obtain rfl:=hwb.symm)
    | (go_at_call 152;refine HPE.out.mono ?_;rintro e w1 ⟨⟨s1,r1,rfl,hE⟩,B1⟩;have HE:=hid (Ai hE HP.out);have HB1:=hid B1;clear hE B1))
  by_cases hr:r1=0
  ·subst hr
   have h1:Part l ([120,110,45,45]++U.bn s1)∧s1.size≤63:=by
    rcases HE.out with⟨_,h,h2⟩ | ⟨h,_⟩
    ·exact⟨h,h2⟩
    ·exact absurd rfl h
   have HPT:=hid h1.1;have hs1:=h1.2;clear h1 HE;go_wp2;go_ret;refine⟨.inl ⟨_,rfl,?_⟩,HB1.out⟩;have e:U.bn (⟨#[120,110,45,45]⟩++s1)=[120,110,45,45]++U.bn s1:=by rw[U.aC];rfl
   rw[e];exact HPT.out
  ·have hrb:(r1 != 0)=true:=by simpa using hr
   have hrc:(r1==0)=false:=by simpa using hr
   have HNO:Hid (¬ ∃ p,Part l p):=by
    rcases HE.out with⟨h,_⟩ | ⟨_,h⟩
    ·exact absurd h hr
    ·exact h
   clear HE;go_wp2;exact⟨rfl,.inr ⟨rfl,HNO.out⟩,HB1.out⟩
theorem qh(v:Value)(l:List Int)(w:World)(hlen:l.length≤10000)(hs:Scs l)(hv:El w v l)(hp:∃ p,Part l p):
  Calls Tryz.prog 107 #[v] w fun e W'=>(∃ t,e=.returned (.string t)∧Part l (U.bn t))∧Below w.heap.size w W' :=
 (eE v l w hlen hs hv).mono (by
   rintro e W' ⟨h | ⟨_,h⟩,hB⟩
   · exact⟨h,hB⟩
   · exact absurd hp h)
theorem sw(v:Value)(l:List Int)(w:World)(hlen:l.length≤10000)(hs:Scs l)(hv:El w v l)(hp:¬ ∃ p,Part l p):
  Calls Tryz.prog 107 #[v] w fun e W'=>e=.panicked (fD 70)∧Below w.heap.size w W' :=
 (eE v l w hlen hs hv).mono (by
   rintro e W' ⟨⟨t,_,h⟩ | ⟨h,_⟩,hB⟩
   · exact absurd ⟨_,h⟩ hp
   · exact⟨h,hB⟩)
theorem zy(n:Nat):(madeCells #[.string ⟨#[]⟩] n).toList=List.replicate n (Value.string ⟨#[]⟩):=by
 unfold madeCells;simp[Nat.mod_one,List.map_const']
def pad(ts:List ByteArray)(n:Nat):List Value:=(ts++List.replicate (n - ts.length) (⟨#[]⟩:ByteArray)).map Value.string
theorem Cx(ts:List ByteArray)(n k:Nat)(hk:ts.length=k)(hn:k<n)(t:ByteArray):(pad ts n).set k (.string t)=pad (ts++[t]) n:=by
 unfold pad;rw[←List.map_set,List.set_append_right _ _ (by omega),hk,Nat.sub_self,show n - k=(n - (k+1))+1 by omega,List.replicate_succ,List.set_cons_zero]
 congr 1
 rw[List.append_assoc,List.length_append,hk];rfl
theorem y6(ts:List ByteArray)(n:Nat)(h:ts.length=n):pad ts n=ts.map Value.string:=by
 unfold pad;rw[h,Nat.sub_self];simp
theorem Cy(ts:List ByteArray)(n k:Nat)(hk:ts.length=k)(hn:k<n):(pad ts n)[k]? = some (.string ⟨#[]⟩):=by
 unfold pad;rw[List.getElem?_map,List.getElem?_append_right (by omega),hk,Nat.sub_self,show n - k=(n - (k+1))+1 by omega,List.replicate_succ];rfl
def AwR(xs:List (List Int×Int))(n:Nat)(w:World)(e:Ending)(W':World):Prop :=
 (∃ ts cap,bU xs ts∧e=.returned (.slice (some ⟨w.heap.size,0,none⟩) n cap)∧W'.ownsRow w.heap.size 9 1 (.slice (some ⟨w.heap.size,0,none⟩) n cap) n (ts.map Value.string))∨(qg xs∧e=.panicked (fD 70))
theorem gY(w0 w:World)(vo vf:Value)(n:Nat)(vs:List Value)(xs:List (List Int×Int))(hn:n≤10000)(hp:0<n)(hb:∀ x∈xs,(0≤x.2∧x.2≤768)∧x.1.length≤10000∧Scs x.1)(hP:Pr w0 w vo vf n vs xs):
  Calls Tryz.prog 67 #[vo,vf] w fun e W'=>AwR xs n w e W'∧Below w.heap.size w W':=by
 have HB:=hid hb;have HP:=hid hP;have HL:=hid hP.len;obtain⟨ao,co,rfl⟩:=dB hP.out;obtain⟨af,cf,rfl⟩:=dC hP.flt;have hmk:=fun W=>run_make_row' (P:=Tryz.prog) 53 9 (.string ⟨#[]⟩) 16 Tryz.underlying53 H9 rfl .i64 .i64 n (by omega) (by omega) W
 have h0:(w.alloc (.cells (madeCells #[.string ⟨#[]⟩] n) 9)).ownsRow w.heap.size 9 1 (.slice (some ⟨w.heap.size,0,none⟩) n n) n (pad [] n):=by
  refine⟨by simp[pad],.inr ⟨w.heap.size,n,_,rfl,Nat.le_refl _,heap_alloc_last w _,Nat.le_refl _,by unfold maxLen;omega,by rw[size_madeCells];simp,?_⟩⟩;rw[zy];simp[pad]
 have H0:=hid h0;clear h0 hP hb;go_enter Tryz.func67,Tryz.ntmps67
 go_wp2_with fail
 go_loopw [13] (fun v13 wr=>∃(k:Nat) (ts:List ByteArray),k≤n∧v13=.int .i64 k∧Hid (ts.length=k)∧Hid (bU (xs.take k) ts)∧Hid (wr.ownsRow w.heap.size 9 1 (.slice (some ⟨w.heap.size,0,none⟩) n n) n (pad ts n))∧Hid (Below w.heap.size w wr)) (fun v13 _=>n - (intOf v13).toNat)
 case atStart=>exact⟨0,[],Nat.zero_le _,rfl,rfl,bU.nil,H0,(Below.refl _ w).alloc (Nat.le_refl _) _⟩
 case round =>
  obtain⟨k,ts,hk,rfl,HTL,HPT,HR,HBE⟩:=hrel;by_cases hlt:k<n
  ·have hkx:k<xs.length:=by rw[←HL.out];exact hlt
   have HT:=hid (E9 xs k hkx);have hb:=HB.out _ (List.getElem_mem hkx);have HMEM:=hid (List.getElem_mem hkx);obtain⟨g1,rfl,hc1,-⟩:=fi HP.out.out k hlt;obtain⟨g2,rfl,hc2,-⟩:=fi HP.out.flt k hlt;have hel:=HP.out.els.2 k (by rw[List.length_map];exact hkx);rw[List.getElem?_map,List.getElem?_eq_getElem hkx]at hel hc2
   replace hel:El w (vs[k]?.getD undef) xs[k].1:=hel
   replace hc2:w.cell? ⟨g2,k,none⟩=some (.int .u16 xs[k].2):=hc2
   obtain⟨ae,ce,hue⟩:=jG hel;rw[hue]at hc1 hel;obtain⟨⟨lk,fk⟩,hlf⟩:∃ y,xs[k]=y:=⟨_,rfl⟩;rw[hlf]at hc2 hel hc1 hb HT HMEM;simp only at hc2 hel hc1 hb
   obtain⟨q,hq⟩:∃ q,lk.length=q:=⟨_,rfl⟩;have HQ:=hid hq;rw[hq]at hc1 hel hb;obtain⟨⟨hb0,hb1⟩,hb2,hb3⟩:=hb;have HEL:=hid (hel.below HBE.out);have HSC:=hid hb3;have d1:wr.cell? ⟨g1,k,none⟩=some (.slice ae q ce):=(HBE.out.cell (p:=⟨g1,k,none⟩) (U.lt_of_cell hc1)).trans hc1;have d2:wr.cell? ⟨g2,k,none⟩=some (.int .u16 fk):=(HBE.out.cell (p:=⟨g2,k,none⟩) (U.lt_of_cell hc2)).trans hc2;have z1:=HBE.out.size;clear hel hue hlf hq hc1 hc2 hb3;by_cases hf0:fk=0
   ·subst hf0
    by_cases hpp:∃ p,Part lk p
    ·have HW:=hid (qh _ lk wr (by rw[HQ.out];omega) HSC.out HEL.out hpp)
     clear hpp
     go_upto_region 7 with fail
     go_wp2_with(go_at_call 107;refine HW.out.mono ?_;rintro e w2 ⟨⟨t,rfl,hpt⟩,B2⟩;have HPT2:=hid hpt;have HB2:=hid (HBE.out.trans (B2.mono HBE.out.size));have HR2:=hid (U.ax HR.out B2 (Nat.le_refl _));have hcw:=(HR2.out.cellAt k (by omega));rw[Cy ts n k HTL.out hlt]at hcw;obtain⟨gw,ew,-,hfw⟩:=fi HR2.out k hlt;cases ew;clear hpt B2)
     have hst:=HR2.out.stored k (.string t);rw[Cx ts n k HTL.out hlt]at hst;have HST:=hid hst;clear hst
     go_roundw
     case rel =>
      refine⟨k+1,ts++[t],by omega,by go_num,by show _=_;rw[List.length_append,HTL.out];rfl,?_,HST.out.1,HB2.out.setCell (p:=⟨w.heap.size,k,none⟩) (Nat.le_refl _) _⟩;show bU _ _
      rw[HT.out];exact HPT.out.snoc rfl HPT2.out
     case measure=>simp[intOf];omega
    ·have HW:=hid (sw _ lk wr (by rw[HQ.out];omega) HSC.out HEL.out hpp)
     have HNO:=hid hpp;clear hpp
     go_wp2_with(go_at_call 107;refine HW.out.mono ?_;rintro e w2 ⟨rfl,B2⟩)
     exact⟨rfl,.inr ⟨⟨_,HMEM.out,.inr HNO.out⟩,rfl⟩,HBE.out.trans (B2.mono HBE.out.size)⟩
   ·have hfb:(fk != 0)=true:=by simpa using hf0
    have hfc:(fk==0)=false:=by simpa using hf0
    go_wp2;exact⟨rfl,.inr ⟨⟨_,HMEM.out,.inl hf0⟩,rfl⟩,HBE.out⟩
  ·obtain rfl:k=n:=by omega
   have hkk:xs.take k=xs:=List.take_of_length_le (by rw[←HL.out];exact Nat.le_refl _);rw[hkk]at HPT;rw[y6 ts k HTL.out]at HR;go_wp2;go_ret;exact⟨.inl ⟨ts,k,HPT.out,rfl,HR.out⟩,HBE.out⟩
theorem bj{W:World}{B B':Nat}{t t':TypeId}{v x:Value}(h:Boxed W B t v)(h':Boxed W B' t' x)(ht:t≠t')(u:Value):Boxed (W.setCell ⟨B',0,none⟩ u) B t v :=
 h.other (fun e=>by subst e;have h1:W.heap[B]? = _:=h;have h2:W.heap[B]? = _:=h';rw[h1]at h2;cases h2;exact ht rfl) u
theorem kL(B Bn Be:Nat)(b1:B≤Bn)(b2:B≤Be)(x:ByteArray)(y r:Int)(w:World)(hn:Boxed w Bn 9 (.string x))(he:Boxed w Be 28 (.int .i64 y)):
  CallsD Tryz.prog 66 #[.pointer (some ⟨Bn,0,none⟩),.pointer (some ⟨Be,0,none⟩)] (.panicking (fD r)) w fun e u' w' =>
   e=.returned (.tuple #[])∧u'=.panicking [{ v:=.iface 93 (.agg #[.int .i64 r]),recovered:=true }]∧Boxed w' Bn 9 (.string ⟨#[]⟩)∧Boxed w' Be 28 (.int .i64 r)∧Below B w w':=by
 have c1:=hn.cell;have f1:=hn.frozen;have c2:=he.cell;have f2:=he.frozen;unfold fD;refine callsD_of_wpS Tryz.func66 rfl fun c₀ cs hu=>?_
 apply wpS_seq;apply wpS_region;simp[wpOpsS,go_sem,recoverD,hu,Tryz.ntmps66,Exit.thenS];refine wpS_of_wp ?_;have hta:∀ W,(Instr.typeAssert (.iface 93 (.agg #[.int .i64 r])) 20 93 false).run Tryz.prog W=.ok (.agg #[.int .i64 r]) W:=fun W=>by kernel_rfl
 have hfd:∀ W,(Instr.field 93 (.agg #[.int .i64 r]) 0).run Tryz.prog W=.ok (.int .i64 r) W:=fun W=>by kernel_rfl
 simp only[Array.replicate_succ,Array.replicate_zero,List.push_toArray,List.append_toArray,List.nil_append,List.cons_append,List.setIfInBounds_toArray,List.set_cons_zero,List.set_cons_succ];have h5:=(bj he hn (by decide) (.string ⟨#[]⟩)).cell;have h6:=(bj he hn (by decide) (.string ⟨#[]⟩)).frozen;have HN:=hid (bj (hn.set (.string ⟨#[]⟩)) (bj he hn (by decide) (.string ⟨#[]⟩)) (by decide) (.int .i64 r));have HE:=hid ((bj he hn (by decide) (.string ⟨#[]⟩)).set (.int .i64 r));have HB:Hid (Below B w ((w.setCell ⟨Bn,0,none⟩ (.string ⟨#[]⟩)).setCell ⟨Be,0,none⟩ (.int .i64 r))):=((Below.refl B w).setCell (p:=⟨Bn,0,none⟩) b1 _).setCell (p:=⟨Be,0,none⟩) b2 _;go_wp2
 go_region
 have e1:Boxed ((w.setCell ⟨Bn,0,none⟩ (.string ⟨#[]⟩)).setCell ⟨Be,0,none⟩ (.int .i64 r)).drew Bn 9 (.string ⟨#[]⟩):=HN.out;have e2:Boxed ((w.setCell ⟨Bn,0,none⟩ (.string ⟨#[]⟩)).setCell ⟨Be,0,none⟩ (.int .i64 r)).drew Be 28 (.int .i64 r):=HE.out;have e3:=HB.out.drew;obtain⟨V,hV⟩:∃ V,((w.setCell ⟨Bn,0,none⟩ (.string ⟨#[]⟩)).setCell ⟨Be,0,none⟩ (.int .i64 r)).drew=V:=⟨_,rfl⟩;rw[hV]at e1 e2 e3 ⊢;show bodyPostS Tryz.prog Tryz.f66 c₀ cs _ Exit.normal _ _ _
 simp[bodyPostS,results,Tryz.results66];exact⟨e1,e2,e3⟩
theorem tw(Bn Be:Nat)(w:World):
  CallsD Tryz.prog 66 #[.pointer (some ⟨Bn,0,none⟩),.pointer (some ⟨Be,0,none⟩)] .returning w fun e u' w'=>e=.returned (.tuple #[])∧u'=.returning∧w'=w:=by
 refine callsD_of_wpS Tryz.func66 rfl fun c₀ cs hu=>?_
 apply wpS_seq;apply wpS_region;simp[wpOpsS,go_sem,recoverD,hu,Tryz.ntmps66,Exit.thenS];refine wpS_of_wp ?_;simp only[Array.replicate_succ,Array.replicate_zero,List.push_toArray,List.append_toArray,List.nil_append,List.cons_append,List.setIfInBounds_toArray,List.set_cons_zero,List.set_cons_succ];go_wp2;cases c₀
 simp_all [bodyPostS,results,Tryz.results66]
theorem BR(W:World):(sizeOf (Tryz.prog.elem 53)).run Tryz.prog W=.ok 1 W:=by kernel_rfl
theorem BJ(g n c m:Nat)(h:m≤c)(W:World):(Instr.slice 53 (.slice (some ⟨g,0,none⟩) n c) none (some (.int .i64 (m:Int))) none).run Tryz.prog W=.ok (.slice (some ⟨g,0,none⟩) m c) W:=by
 rw[run_slice_h W 53 (some ⟨g,0,none⟩) n c (by kernel_rfl) .i64 (m:Int) (by omega) (by omega),BR W];simp only[Result.andThen,sliced,Int.toNat_natCast]
 congr 1
 simp[Addr.add]
def MfR(ps:List (List Int))(e:Ending):Prop:=(¬ ff ps∧e=.returned (.tuple #[]))∨(ff ps∧e=.panicked (fD 4))
theorem join_len':∀(ls:List (List Int)) (B:Nat),(∀ l∈ls,l.length≤B)→(join ls).length≤ls.length * (B+1):=cH
theorem fO{t:ByteArray}:okl (U.bn t)↔¬ t.size=0∧t.size≤63:=by
 unfold okl;rw[U.aa]
 constructor
 ·rintro⟨h1,h2⟩
  exact⟨fun h=>h1 (List.length_eq_zero_iff.1 (by rw[U.aa];exact h)),h2⟩
 ·rintro⟨h1,h2⟩
  exact⟨fun h=>h1 (by rw[←U.aa,h];rfl),h2⟩
theorem lJ{ps:List (List Int)}{m:Nat}{ts:List ByteArray}(hps:ps=ts.map U.bn)(hm:m≤ts.length):(∀ j,j<m→okl (U.bn (ts[j]?.getD ⟨#[]⟩)))→∀ p∈ps.take m,okl p:=by
 intro h p hp
 obtain⟨j,hj,e⟩:=List.mem_take_iff_getElem.1 hp;subst hps;rw[List.length_map]at hj;have:=h j (by omega);rw[List.getElem?_eq_getElem (by omega)]at this;rw[←e,List.getElem_map];exact this
theorem gI{ps:List (List Int)}{m:Nat}{ts:List ByteArray}(hps:ps=ts.map U.bn)(hm:m≤ts.length)(k:Nat)(hk:k<m):U.bn (ts[k]?.getD ⟨#[]⟩)∈ps.take m:=by
 subst hps;rw[List.getElem?_eq_getElem (by omega)];exact List.mem_take_iff_getElem.2 ⟨k,by rw[List.length_map];omega,by rw[List.getElem_map];rfl⟩
theorem kx(g n c:Nat)(ts:List ByteArray)(w:World)(hn:ts.length=n)(hp:0<n)(hnc:n≤c)(hnb:n≤10000)(hb:∀ t∈ts,t.size≤20000)(hc:∀ j,j<n→w.cell? ⟨g,j,none⟩=some (.string (ts[j]?.getD ⟨#[]⟩))):
  Calls Tryz.prog 69 #[.slice (some ⟨g,0,none⟩) n c] w fun e W'=>MfR (ts.map U.bn) e∧Below w.heap.size w W':=by
 obtain⟨ps,hps⟩:∃ ps,ts.map U.bn=ps:=⟨_,rfl⟩;have hpl:ps.length=n:=by rw[←hps,List.length_map];exact hn
 have HC:=hid hc;have HTS:=hid hn;have HPS:=hid hps.symm
 have HSZ:Hid (∀ j,j<n→(ts[j]?.getD ⟨#[]⟩).size≤20000):=fun j hj=>by
  rw[List.getElem?_eq_getElem (show j<ts.length by omega)];exact hb _ (List.getElem_mem _)
 have HLE:=hid (zE hpl)
 have HPN:Hid (ps[n - 1]?.getD []=U.bn (ts[n - 1]?.getD ⟨#[]⟩)):=by
  show _=_
  rw[←hps,List.getElem?_map,List.getElem?_eq_getElem (show n - 1<ts.length by omega)];rfl
 have HJL:Hid (∀ m,m≤n→(join ((ts.take m).map U.bn)).length≤1000000000):=fun m hm=>by
  have h1:=cH ((ts.take m).map U.bn) 20000 (fun l hl=>by
    obtain⟨t,ht,rfl⟩:=List.mem_map.1 hl
    rw[U.aa]
    exact hb t (List.mem_of_mem_take ht))
  rw[List.length_map,List.length_take]at h1;have h2:min m ts.length * (20000+1)≤10000 * 20001:=Nat.mul_le_mul (by omega) (by omega);omega
 have HTM:Hid (∀ m,(ts.take m).map U.bn=ps.take m):=fun m=>by rw[←hps,List.map_take]
 rw[hps];have hcl:=HC.out (n - 1) (by omega);have hszl:=HSZ.out (n - 1) (by omega);obtain⟨tl,htl⟩:∃ tl,ts[n - 1]?.getD ⟨#[]⟩=tl:=⟨_,rfl⟩;rw[htl]at hcl HPN hszl;clear hn hps hc hb htl hpl;obtain⟨n1,hn1⟩:∃ n1,n - 1=n1:=⟨_,rfl⟩;rw[hn1]at hcl HPN HLE;have HNN:Hid (n=n1+1):=by show _=_;omega
 have hz:(n:Int) - 1=(n1:Int):=by omega
 have hw:IntKind.i64.wrap (n1:Int)=(n1:Int):=by simp[IntKind.wrap,IntKind.bits,IntKind.signed];omega
 have hn1n:n1<n:=by omega
 clear hn1;by_cases hl:mu ps
 ·have h1:=HLE.out.1 hl
  have HCP:Hid (cps ps=ps.take n1):=by
   show _=_
   unfold cps;rw[if_pos hl]
   congr 1
   have:=congrArg List.length HPS.out;rw[List.length_map,HTS.out]at this;have:=HNN.out;omega
  have htz:tl.size=0:=by
   have h2:=h1.2;rw[HPN.out]at h2;rw[←U.aa,h2];rfl
  have e0:(tl.toList==[])=true:=by rw[b9];exact decide_eq_true htz
  have hn1z:(0:Int)<(n1:Int):=by omega
  have hsl:=fun W=>BJ g n c n1 (by omega) W
  have HMM:Hid (n1≤n):=Nat.le_of_lt hn1n;have HM0:Hid (0<n1):=by show 0<n1;omega
  clear h1 hl htz HLE HPN hszl;go_enter Tryz.func69,Tryz.ntmps69
  go_wp2_with fail
  go_loop [22] (fun v22=>∃ k:Nat,k≤n1∧v22=.int .i64 k∧Hid (∀ j,j<k→okl (U.bn (ts[j]?.getD ⟨#[]⟩)))) (fun v22=>n1 - (intOf v22).toNat)
  case atStart=>exact⟨0,Nat.zero_le _,rfl,(fun j hj=>by omega)⟩
  case round =>
   obtain⟨k,hk,rfl,HA⟩:=hrel;by_cases hlt:k<n1
   ·have hck:=HC.out k (by have:=HMM.out;omega)
    have hsz:=HSZ.out k (by have:=HMM.out;omega);have HIN:=hid (gI HPS.out (m:=n1) (by rw[HTS.out];exact HMM.out) k hlt)
    have HS:Hid (okl (U.bn (ts[k]?.getD ⟨#[]⟩))→∀ j,j<k+1→okl (U.bn (ts[j]?.getD ⟨#[]⟩))):=fun h j hj=>by
     by_cases e:j=k
     ·rw[e];exact h
     ·exact HA.out j (by omega)
    obtain⟨t,ht⟩:∃ t,ts[k]?.getD ⟨#[]⟩=t:=⟨_,rfl⟩;rw[ht]at hck hsz HIN HS;clear ht;by_cases hz:t.size=0
    ·have e1:(t.toList==[])=true:=by rw[b9];exact decide_eq_true hz
     have HBAD:Hid (ff ps):=.inl ⟨_,by rw[HCP.out];exact HIN.out,fun h=>(fO.1 h).1 hz⟩;have HZ:=hid hz;clear hz;go_wp2
     all_goals exact⟨rfl,.inr ⟨HBAD.out,rfl⟩,Below.refl _ _⟩
    ·have e1:(t.toList==[])=false:=by rw[b9];exact decide_eq_false hz
     by_cases h63:63<t.size
     ·have HBAD:Hid (ff ps):=.inl ⟨_,by rw[HCP.out];exact HIN.out,fun h=>by have:=(fO.1 h).2;omega⟩
      go_wp2;exact⟨rfl,.inr ⟨HBAD.out,rfl⟩,Below.refl _ _⟩
     ·have HN:=hid (HS.out (fO.2 ⟨hz,by omega⟩))
      go_wp2;exact⟨⟨k+1,by omega,by go_num,HN⟩,by simp[intOf];omega⟩
   ·have hkM:¬ (k:Int)<(n1:Int):=by omega
    have HALL:=hid (lJ HPS.out (m:=n1) (by rw[HTS.out];exact HMM.out) (fun j hj=>HA.out j (by omega)));have HJ:=hid (gM g c (n1) (ts.take (n1)) (by rw[List.length_take,HTS.out];have:=HMM.out;omega) w (fun j hj=>by rw[List.getElem?_take_of_lt hj];exact HC.out j (by have:=HMM.out;omega)) HM0.out (by have:=HMM.out;omega) (by have:=HMM.out;omega) (HJL.out _ HMM.out));rw[HTM.out]at HJ;have hjl:=HJL.out (n1) HMM.out;rw[HTM.out]at hjl;obtain⟨Jn,hJn⟩:∃ Jn,join (ps.take (n1))=Jn:=⟨_,rfl⟩;rw[hJn]at HJ hjl;have HJN:=hid hJn;clear hJn
    go_upto_if 39 with(go_at_call 70;refine HJ.out.mono ?_;rintro e w2 ⟨⟨t,rfl,ht⟩,B2⟩;have hts:t.size=Jn.length:=(by rw[←ht,U.aa]);have HTS2:=hid hts;have HB2:=hid B2;clear ht B2 hts)
    by_cases h253:253<t.size
    ·have HBAD:Hid (ff ps):=.inr (by rw[HCP.out,HJN.out];have:=HTS2.out;omega)
     go_wp2;exact⟨rfl,.inr ⟨HBAD.out,rfl⟩,HB2.out⟩
    ·have HGOOD:Hid (¬ ff ps):=by
      rintro(⟨p,hp,hno⟩ | h)
      ·rw[HCP.out]at hp;exact hno (HALL.out p hp)
      ·rw[HCP.out,HJN.out]at h
       have:=HTS2.out;omega
     go_wp2
     go_end0
     exact⟨.inl ⟨HGOOD.out,rfl⟩,HB2.out⟩
 ·have HCP:Hid (cps ps=ps.take n):=by
   show _=_
   unfold cps;rw[if_neg hl,List.take_of_length_le];have:=congrArg List.length HPS.out;rw[List.length_map,HTS.out]at this;omega
  have HMM:Hid (n≤n):=Nat.le_refl _;have HM0:Hid (0<n):=hp;by_cases hn1:n1=0
  ·have hn1z:¬ (0:Int)<(n1:Int):=by omega
   clear hl HLE HPN hszl hn1;go_enter Tryz.func69,Tryz.ntmps69
   go_wp2_with fail
   go_loop [22] (fun v22=>∃ k:Nat,k≤n∧v22=.int .i64 k∧Hid (∀ j,j<k→okl (U.bn (ts[j]?.getD ⟨#[]⟩)))) (fun v22=>n - (intOf v22).toNat)
   case atStart=>exact⟨0,Nat.zero_le _,rfl,(fun j hj=>by omega)⟩
   case round =>
    obtain⟨k,hk,rfl,HA⟩:=hrel;by_cases hlt:k<n
    ·have hck:=HC.out k (by have:=HMM.out;omega)
     have hsz:=HSZ.out k (by have:=HMM.out;omega);have HIN:=hid (gI HPS.out (m:=n) (by rw[HTS.out];exact HMM.out) k hlt)
     have HS:Hid (okl (U.bn (ts[k]?.getD ⟨#[]⟩))→∀ j,j<k+1→okl (U.bn (ts[j]?.getD ⟨#[]⟩))):=fun h j hj=>by
      by_cases e:j=k
      ·rw[e];exact h
      ·exact HA.out j (by omega)
     obtain⟨t,ht⟩:∃ t,ts[k]?.getD ⟨#[]⟩=t:=⟨_,rfl⟩;rw[ht]at hck hsz HIN HS;clear ht;by_cases hz:t.size=0
     ·have e1:(t.toList==[])=true:=by rw[b9];exact decide_eq_true hz
      have HBAD:Hid (ff ps):=.inl ⟨_,by rw[HCP.out];exact HIN.out,fun h=>(fO.1 h).1 hz⟩;have HZ:=hid hz;clear hz;go_wp2
      all_goals exact⟨rfl,.inr ⟨HBAD.out,rfl⟩,Below.refl _ _⟩
     ·have e1:(t.toList==[])=false:=by rw[b9];exact decide_eq_false hz
      by_cases h63:63<t.size
      ·have HBAD:Hid (ff ps):=.inl ⟨_,by rw[HCP.out];exact HIN.out,fun h=>by have:=(fO.1 h).2;omega⟩
       go_wp2;exact⟨rfl,.inr ⟨HBAD.out,rfl⟩,Below.refl _ _⟩
      ·have HN:=hid (HS.out (fO.2 ⟨hz,by omega⟩))
       go_wp2;exact⟨⟨k+1,by omega,by go_num,HN⟩,by simp[intOf];omega⟩
    ·have hkM:¬ (k:Int)<(n:Int):=by omega
     have HALL:=hid (lJ HPS.out (m:=n) (by rw[HTS.out];exact HMM.out) (fun j hj=>HA.out j (by omega)));have HJ:=hid (gM g c (n) (ts.take (n)) (by rw[List.length_take,HTS.out];have:=HMM.out;omega) w (fun j hj=>by rw[List.getElem?_take_of_lt hj];exact HC.out j (by have:=HMM.out;omega)) HM0.out (by have:=HMM.out;omega) (by have:=HMM.out;omega) (HJL.out _ HMM.out));rw[HTM.out]at HJ;have hjl:=HJL.out (n) HMM.out;rw[HTM.out]at hjl;obtain⟨Jn,hJn⟩:∃ Jn,join (ps.take (n))=Jn:=⟨_,rfl⟩;rw[hJn]at HJ hjl;have HJN:=hid hJn;clear hJn
     go_upto_if 39 with(go_at_call 70;refine HJ.out.mono ?_;rintro e w2 ⟨⟨t,rfl,ht⟩,B2⟩;have hts:t.size=Jn.length:=(by rw[←ht,U.aa]);have HTS2:=hid hts;have HB2:=hid B2;clear ht B2 hts)
     by_cases h253:253<t.size
     ·have HBAD:Hid (ff ps):=.inr (by rw[HCP.out,HJN.out];have:=HTS2.out;omega)
      go_wp2;exact⟨rfl,.inr ⟨HBAD.out,rfl⟩,HB2.out⟩
     ·have HGOOD:Hid (¬ ff ps):=by
       rintro(⟨p,hp,hno⟩ | h)
       ·rw[HCP.out]at hp;exact hno (HALL.out p hp)
       ·rw[HCP.out,HJN.out]at h
        have:=HTS2.out;omega
      go_wp2
      go_end0
      exact⟨.inl ⟨HGOOD.out,rfl⟩,HB2.out⟩
  ·have htz:¬ tl.size=0:=fun h=>hl (HLE.out.2 ⟨by omega,by rw[HPN.out];exact List.length_eq_zero_iff.1 (by rw[U.aa];exact h)⟩)
   have e0:(tl.toList==[])=false:=by rw[b9];exact decide_eq_false htz
   have hn1z:(0:Int)<(n1:Int):=by omega
   clear hl HLE HPN hszl;go_enter Tryz.func69,Tryz.ntmps69
   go_wp2_with fail
   go_loop [22] (fun v22=>∃ k:Nat,k≤n∧v22=.int .i64 k∧Hid (∀ j,j<k→okl (U.bn (ts[j]?.getD ⟨#[]⟩)))) (fun v22=>n - (intOf v22).toNat)
   case atStart=>exact⟨0,Nat.zero_le _,rfl,(fun j hj=>by omega)⟩
   case round =>
    obtain⟨k,hk,rfl,HA⟩:=hrel;by_cases hlt:k<n
    ·have hck:=HC.out k (by have:=HMM.out;omega)
     have hsz:=HSZ.out k (by have:=HMM.out;omega);have HIN:=hid (gI HPS.out (m:=n) (by rw[HTS.out];exact HMM.out) k hlt)
     have HS:Hid (okl (U.bn (ts[k]?.getD ⟨#[]⟩))→∀ j,j<k+1→okl (U.bn (ts[j]?.getD ⟨#[]⟩))):=fun h j hj=>by
      by_cases e:j=k
      ·rw[e];exact h
      ·exact HA.out j (by omega)
     obtain⟨t,ht⟩:∃ t,ts[k]?.getD ⟨#[]⟩=t:=⟨_,rfl⟩;rw[ht]at hck hsz HIN HS;clear ht;by_cases hz:t.size=0
     ·have e1:(t.toList==[])=true:=by rw[b9];exact decide_eq_true hz
      have HBAD:Hid (ff ps):=.inl ⟨_,by rw[HCP.out];exact HIN.out,fun h=>(fO.1 h).1 hz⟩;have HZ:=hid hz;clear hz;go_wp2
      all_goals exact⟨rfl,.inr ⟨HBAD.out,rfl⟩,Below.refl _ _⟩
     ·have e1:(t.toList==[])=false:=by rw[b9];exact decide_eq_false hz
      by_cases h63:63<t.size
      ·have HBAD:Hid (ff ps):=.inl ⟨_,by rw[HCP.out];exact HIN.out,fun h=>by have:=(fO.1 h).2;omega⟩
       go_wp2;exact⟨rfl,.inr ⟨HBAD.out,rfl⟩,Below.refl _ _⟩
      ·have HN:=hid (HS.out (fO.2 ⟨hz,by omega⟩))
       go_wp2;exact⟨⟨k+1,by omega,by go_num,HN⟩,by simp[intOf];omega⟩
    ·have hkM:¬ (k:Int)<(n:Int):=by omega
     have HALL:=hid (lJ HPS.out (m:=n) (by rw[HTS.out];exact HMM.out) (fun j hj=>HA.out j (by omega)));have HJ:=hid (gM g c (n) (ts.take (n)) (by rw[List.length_take,HTS.out];have:=HMM.out;omega) w (fun j hj=>by rw[List.getElem?_take_of_lt hj];exact HC.out j (by have:=HMM.out;omega)) HM0.out (by have:=HMM.out;omega) (by have:=HMM.out;omega) (HJL.out _ HMM.out));rw[HTM.out]at HJ;have hjl:=HJL.out (n) HMM.out;rw[HTM.out]at hjl;obtain⟨Jn,hJn⟩:∃ Jn,join (ps.take (n))=Jn:=⟨_,rfl⟩;rw[hJn]at HJ hjl;have HJN:=hid hJn;clear hJn
     go_upto_if 39 with(go_at_call 70;refine HJ.out.mono ?_;rintro e w2 ⟨⟨t,rfl,ht⟩,B2⟩;have hts:t.size=Jn.length:=(by rw[←ht,U.aa]);have HTS2:=hid hts;have HB2:=hid B2;clear ht B2 hts)
     by_cases h253:253<t.size
     ·have HBAD:Hid (ff ps):=.inr (by rw[HCP.out,HJN.out];have:=HTS2.out;omega)
      go_wp2;exact⟨rfl,.inr ⟨HBAD.out,rfl⟩,HB2.out⟩
     ·have HGOOD:Hid (¬ ff ps):=by
       rintro(⟨p,hp,hno⟩ | h)
       ·rw[HCP.out]at hp;exact hno (HALL.out p hp)
       ·rw[HCP.out,HJN.out]at h
        have:=HTS2.out;omega
      go_wp2
      go_end0
      exact⟨.inl ⟨HGOOD.out,rfl⟩,HB2.out⟩
open Go.RowKit Go.Shelf
attribute [local go_sem] Oper.semAt_some
structure So(w W:World)(B0 Bl Bo:Nat)(v:Value)(l:List Int)(vo:Value)(vs:List Value)(ls:List (List Int)):Prop where
 bx:Bx Bl v l W
 bo:Boxed W Bo 69 vo
 out:W.ownsRow B0 58 1 vo ls.length vs
 els:Els W vs ls
 be:Below w.heap.size w W
 b1:Bl<B0
 b2:w.heap.size≤Bo
 b3:w.heap.size≤B0
 b4:B0≤W.heap.size
theorem il{W W':World}{base e size n:Nat}{v:Value}{X:List Value}{row:Option Nat}(h:W.ownsRow base e size v n X)(hg:W.grownBy W' row)(hr:∀ r,row=some r→∃ o:Obj,W.heap[r]? = some o∧o.isCells=false):W'.ownsRow base e size v n X:=by
 refine h.kept hg ?_;rcases h.2 with⟨rfl,_⟩ | ⟨g,cap,cur,rfl,_,hgb,_⟩
 ·exact .inl rfl
 ·refine .inr fun e'=>?_
  obtain⟨o,ho,hc⟩:=hr g (by simpa[Value.ownBlock]using e'.symm);rw[hgb]at ho;cases ho;cases hc
theorem dw{W:World}{base e size n:Nat}{v:Value}{X:List Value}{B:Nat}{t:TypeId}{x:Value}(h:W.ownsRow base e size v n X)(hb:Boxed W B t x)(ht:t≠e)(v':Value):(W.setCell ⟨B,0,none⟩ v').ownsRow base e size v n X:=by
 refine h.kept (grownBy_setCell' W B v') ?_;exact .inr fun e'=>hb.not_row ht h (by first | exact e' | exact e'.symm)
theorem Els.other{W W':World}{vs:List Value}{ls:List (List Int)}{row:Option Nat}(h:Els W vs ls)(hg:W.grownBy W' row)(hr:∀ r,row=some r→∃ o:Obj,W.heap[r]? = some o∧o.isCells=false):Els W' vs ls:=⟨h.1,fun i hi=>(h.2 i hi).other hg hr⟩
theorem Els.set{W:World}{vs:List Value}{ls:List (List Int)}{B:Nat}{t:TypeId}{x:Value}(h:Els W vs ls)(hb:Boxed W B t x)(ht:t≠21)(v':Value):Els (W.setCell ⟨B,0,none⟩ v') vs ls:=⟨h.1,fun i hi=>(h.2 i hi).set hb ht v'⟩
theorem So.below{w W W':World}{B0 Bl Bo:Nat}{v vo:Value}{l:List Int}{vs:List Value}{ls:List (List Int)}(h:So w W B0 Bl Bo v l vo vs ls)(hb:Below W.heap.size W W'):So w W' B0 Bl Bo v l vo vs ls :=
 ⟨h.bx.below hb,(hb.block Bo h.bo.lt).trans h.bo,U.ax h.out hb (Nat.le_refl _),h.els.below hb,h.be.trans (hb.mono h.be.size),h.b1,h.b2,h.b3,Nat.le_trans h.b4 hb.size⟩
theorem So.from_other{w W W':World}{B0 Bl Bo:Nat}{v vo:Value}{l:List Int}{vs:List Value}{ls:List (List Int)}{row:Option Nat}(h:So w W B0 Bl Bo v l vo vs ls)(hg:W.grownBy W' row)(hr:∀ r,row=some r→B0≤r∧∃ o:Obj,W.heap[r]? = some o∧o.isCells=false):So w W' B0 Bl Bo v l vo vs ls :=
 ⟨h.bx.other hg (fun r e=>(hr r e).2),ch h.bo hg (fun r e=>(hr r e).2),il h.out hg (fun r e=>(hr r e).2),h.els.other hg (fun r e=>(hr r e).2),h.be.grown hg h.be.size (fun k e=>Nat.le_trans h.b3 (hr k e).1),h.b1,h.b2,h.b3,Nat.le_trans h.b4 hg.size⟩
theorem So.push{w W w1:World}{B0 Bl Bo:Nat}{v vo vo':Value}{l:List Int}{vs:List Value}{ls:List (List Int)}{u:Value}{l':List Int}(h:So w W B0 Bl Bo v l vo vs ls)(hu:El W u l')
  (hown:w1.ownsRow B0 58 1 vo' (ls.length+1) (vs++[u])) (hg:(W.alloc (.cells #[u] 58)).grownBy w1 vo.ownBlock) :
  Boxed w1 Bo 69 vo∧So w (w1.setCell ⟨Bo,0,none⟩ vo') B0 Bl Bo v l vo' (vs++[u]) (ls++[l']):=by
 have ba:=dH W (.cells #[u] 58);have ho:=h.out.alloc (.cells #[u] 58);have hbo:=(h.bo.alloc (.cells #[u] 58)).kept hg ((h.bo.alloc _).not_row (by decide) ho);have hbl:=(h.bx.box.alloc (.cells #[u] 58)).kept hg (fun e=>by have:=(ho.lt Bl e.symm).1;have:=h.b1;omega);have hel:=(h.bx.el.below ba).kept ho (by decide) hg;have hels:=(h.els.below ba).kept ho (by decide) hg;have hu1:=(hu.below ba).kept ho (by decide) hg;have hbe:Below w.heap.size w w1:=(h.be.alloc h.be.size _).grown hg (Nat.le_trans h.be.size (by simp)) (fun k e=>Nat.le_trans h.b3 (ho.lt k e).1)
 have hne:Bl≠Bo:=fun e=>by
  subst e;have h1:w1.heap[Bl]? = _:=hbo;have h2:w1.heap[Bl]? = _:=hbl;rw[h1]at h2;cases h2
 refine⟨hbo,⟨hbl.other hne _,hel.set hbo (by decide) _⟩,hbo.set _,?_,(hels.snoc hu1).set hbo (by decide) _,?_,h.b1,h.b2,h.b3,?_⟩
 ·rw[List.length_append];exact dw hown hbo (by decide) _
 ·exact hbe.setCell (p:=⟨Bo,0,none⟩) h.b2 _
 ·have h1:=hg.size
  have h2:=h.b4;simp at h1 ⊢
  omega
theorem uH(l:List Int)(n:Nat)(p:Pc n):(lab l p.1).length≤n:=by
 unfold lab;have:=p.2;simp only[List.length_take,List.length_drop];omega
theorem yQ(a:Option Addr)(p:Nat×Nat):∃ a' k c,pcv a p=.slice a' k c:=⟨_,_,_,rfl⟩
theorem eL{W W':World}{base e size n:Nat}{v:Value}{X:List Value}(h:W.ownsRow base e size v n X)(hg:W.grownBy W' v.ownBlock):KeepsOthers W W' :=
 KeepsOthers.of_grownBy hg (fun j o e' ho=>by
   rcases h.2 with⟨rfl,_⟩ | ⟨g,cap,cur,rfl,_,hgb,_⟩
   · simp[Value.ownBlock]at e'
   · have e3:g=j:=by simpa[Value.ownBlock]using e'
     subst e3
     rw[hgb]at ho;cases ho;rfl)
end Go.Proofs.YtkekkbciiohbkaaGreatDoor.I
namespace Go.Proofs.YtkekkbciiohbkaaGreatDoor.L
open Go.RowKit
theorem oC(r:Int):(0≤r∧r<128∧U.bn (Utf8.encode r)=[r])∨(∃ h t,U.bn (Utf8.encode r)=h::t∧192≤h):=by
 unfold Utf8.encode;simp only
 generalize hc:(if Utf8.valid r=true then r.toNat else Utf8.runeError)=c
 have hle:c≤1114111:=by
  rw[←hc];split
  ·rename_i h
   simp[Utf8.valid]at h;omega
  ·decide
 by_cases h1:c<128
 ·left
  have hv:Utf8.valid r=true:=by
   by_cases hv:Utf8.valid r=true
   ·exact hv
   ·rw[if_neg hv]at hc
    have:Utf8.runeError=65533:=rfl;omega
  rw[if_pos hv]at hc;have h0:0≤r:=by simp[Utf8.valid]at hv;omega
  refine⟨h0,by omega,?_⟩;rw[if_pos h1];show [((UInt8.ofNat c).toNat:Int)]=[r]
  rw[UInt8.toNat_ofNat',Nat.mod_eq_of_lt (by omega)]
  congr 1;omega
 ·right
  rw[if_neg h1];split
  ·exact⟨((UInt8.ofNat (192+c / 64)).toNat:Int),_,rfl,by rw[UInt8.toNat_ofNat',Nat.mod_eq_of_lt (by omega)];omega⟩
  ·split
   ·exact⟨((UInt8.ofNat (224+c / 4096)).toNat:Int),_,rfl,by rw[UInt8.toNat_ofNat',Nat.mod_eq_of_lt (by omega)];omega⟩
   ·exact⟨((UInt8.ofNat (240+c / 262144)).toNat:Int),_,rfl,by rw[UInt8.toNat_ofNat',Nat.mod_eq_of_lt (by omega)];omega⟩
theorem uL:∀(ns:List Int) (s:ByteArray),U.bn (ns.foldl (fun r n=>r++Utf8.encode n) s)=U.bn s++ns.flatMap fun r=>U.bn (Utf8.encode r)
 | [],s=>by simp
 | a::l,s=>by rw[List.foldl_cons,uL l,U.aC,List.flatMap_cons,List.append_assoc]
theorem qB(ns:List Int):U.bn (runesBytes ns)=ns.flatMap fun r=>U.bn (Utf8.encode r):=by
 unfold runesBytes;rw[uL];rfl
theorem mM:∀(ns T:List Int),(∀ c∈T,c<128)→(ns.flatMap fun r=>U.bn (Utf8.encode r))=T→ns=T
 | [],T,_,h=>by simpa using h
 | a::l,T,hT,h=>by
  rw[List.flatMap_cons]at h;rcases oC a with⟨h0,h1,h2⟩ | ⟨x,t,h2,h3⟩
  ·rw[h2]at h
   cases T with
   | nil=>simp at h
   | cons y T =>
    simp only[List.cons_append,List.nil_append,List.cons.injEq]at h;rw[h.1,mM l T (fun c hc=>hT c (by simp[hc])) h.2]
  ·rw[h2]at h
   cases T with
   | nil=>simp at h
   | cons y T =>
    simp only[List.cons_append,List.cons.injEq]at h;have:=hT y (by simp);omega
theorem nc:∀(ns:List Int),(∀ c∈ns,0≤c∧c<128)→(ns.flatMap fun r=>U.bn (Utf8.encode r))=ns
 | [],_=>rfl
 | a::l,h=>by
  rw[List.flatMap_cons,nc l (fun c hc=>h c (by simp[hc]))];rcases oC a with⟨h0,h1,h2⟩ | ⟨x,t,h2,h3⟩
  ·rw[h2];rfl
  ·have h1:=h a (by simp)
   exfalso
   have hv:Utf8.valid a=true:=by simp[Utf8.valid];omega
   unfold Utf8.encode at h2
   simp only[hv,if_true,if_pos (show a.toNat<128 by omega)]at h2;have e:U.bn ⟨#[UInt8.ofNat a.toNat]⟩=[((UInt8.ofNat a.toNat).toNat:Int)]:=rfl;rw[e,UInt8.toNat_ofNat',Nat.mod_eq_of_lt (by omega)]at h2;simp only[List.cons.injEq]at h2;omega
def xn:ByteArray:=⟨#[120,110,45,45]⟩
theorem EM:U.bn xn=[120,110,45,45]:=rfl
theorem EY(ns:List Int):(runesBytes ns=xn)↔ns=[120,110,45,45]:=by
 constructor
 ·intro h
  have h2:=congrArg U.bn h;rw[qB,EM]at h2;exact mM ns _ (by decide) h2
 ·rintro rfl
  apply U.av;rw[qB,EM];exact nc _ (by decide)
end Go.Proofs.YtkekkbciiohbkaaGreatDoor.L
