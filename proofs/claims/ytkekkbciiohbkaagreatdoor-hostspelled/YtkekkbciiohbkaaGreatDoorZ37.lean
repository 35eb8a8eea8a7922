/- Texts one behind the other: WI WQ. -/
import Derived.Test.YtkekkbciiohbkaaGreatDoorZ34
import Derived.Test.YtkekkbciiohbkaaGreatDoorZ36
import Derived.Shelf.Strings.Cut
set_option maxRecDepth 100000
set_option maxHeartbeats 16000000
set_option linter.unusedVariables false
set_option linter.unnecessarySimpa false
namespace Go.Proofs
open Go.Shelf Go.RowKit
shelf_lay Lays.n145 Nm 145 at Tryz as Tryz.laysCutX
end Go.Proofs
namespace Go.Proofs.YtkekkbciiohbkaaGreatDoor.X
open Go.RowKit
open Go.Proofs.YtkekkbciiohbkaaGreatDoor.F (hx bw vl cJ bn aa aC av aq ar hid aj ab ah aR aK)
def Edg(A B X:List Nat)(q i:Nat):Prop:=X.length=8∧∀ j,X[j]?.getD 0=if 8 - q≤j∧j<8 - q+i then B[j - (8 - q)]?.getD 0 else A[j]?.getD 0
theorem Edg.start{A B:List Nat}{q:Nat}(hA:A.length=8):Edg A B A q 0:=⟨hA,fun j=>by rw[if_neg (by omega)]⟩
theorem Edg.step{A B X:List Nat}{q i v:Nat}(h:Edg A B X q i)(hi:i<q)(hq:q≤8)(hv:B[i]?.getD 0=v):Edg A B (X.set (8 - q+i) v) q (i+1):=by
 obtain⟨h8,h⟩:=h;refine⟨by rw[List.length_set];exact h8,fun j=>?_⟩;by_cases e:j=8 - q+i
 ·rw[e,List.getElem?_set_self (by omega),if_pos (by omega),show 8 - q+i - (8 - q)=i by omega,hv];rfl
 ·rw[List.getElem?_set_ne (by omega),h j]
  by_cases e2:8 - q≤j∧j<8 - q+i
  ·rw[if_pos e2,if_pos (by omega)]
  ·rw[if_neg e2,if_neg (by omega)]
theorem td(a0 a1 a2 a3 a4 a5 a6 a7 b0 b1 b2 b3 b4 b5 b6 b7 q:Nat)(hq:q≤8)(w:World):
  Calls Tryz.prog 65 #[.agg #[.int .u16 a0,.int .u16 a1,.int .u16 a2,.int .u16 a3,.int .u16 a4,.int .u16 a5,.int .u16 a6,.int .u16 a7],.agg #[.int .u16 b0,.int .u16 b1,.int .u16 b2,.int .u16 b3,.int .u16 b4,.int .u16 b5,.int .u16 b6,.int .u16 b7],.int .i64 (q:Int)] w fun e W'=>(∃ X,Edg [a0,a1,a2,a3,a4,a5,a6,a7] [b0,b1,b2,b3,b4,b5,b6,b7] X q q∧e=.returned (.agg (ak X).toArray))∧Below w.heap.size w W':=by
 obtain⟨w1,hw1⟩:∃ w1,w.alloc (.cells #[.int .u16 a0,.int .u16 a1,.int .u16 a2,.int .u16 a3,.int .u16 a4,.int .u16 a5,.int .u16 a6,.int .u16 a7] 24)=w1:=⟨_,rfl⟩;obtain⟨w2,hw2⟩:∃ w2,w1.alloc (.cells #[.int .u16 b0,.int .u16 b1,.int .u16 b2,.int .u16 b3,.int .u16 b4,.int .u16 b5,.int .u16 b6,.int .u16 b7] 24)=w2:=⟨_,rfl⟩;obtain⟨w3,hw3⟩:∃ w3,w2.alloc (.cells #[.int .u16 0,.int .u16 0,.int .u16 0,.int .u16 0,.int .u16 0,.int .u16 0,.int .u16 0,.int .u16 0] 24)=w3:=⟨_,rfl⟩;have hz1:w1.heap.size=w.heap.size+1:=by rw[←hw1];simp
 have hz2:w2.heap.size=w.heap.size+2:=by rw[←hw2];simp[hz1]
 have B1:Below w1.heap.size w1 w2:=by rw[←hw2];exact(Below.refl _ _).alloc (Nat.le_refl _) _
 have B2:Below w2.heap.size w2 w3:=by rw[←hw3];exact(Below.refl _ _).alloc (Nat.le_refl _) _
 have HA:Hid (w3.heap[w.heap.size]? = some (.cells (ak [a0,a1,a2,a3,a4,a5,a6,a7]).toArray 24 (0,0))):=by
  show _=_
  rw[B2.block _ (by omega),B1.block _ (by omega),←hw1];exact bY w _ _
 have HB:Hid (w3.heap[w.heap.size+1]? = some (.cells (ak [b0,b1,b2,b3,b4,b5,b6,b7]).toArray 24 (0,0))):=by
  show _=_
  rw[B2.block _ (by omega),←hw2,←hz1];exact bY w1 _ _
 have HR:Hid (w3.heap[w.heap.size+2]? = some (.cells (ak z8).toArray 24 (0,0))):=by
  show _=_
  rw[←hw3,←hz2];exact bY w2 _ _
 have HBW:Hid (Below w.heap.size w w3):=by
  have B0:Below w.heap.size w w1:=by rw[←hw1];exact(Below.refl _ _).alloc (Nat.le_refl _) _
  exact B0.trans ((B1.mono (by omega)).trans (B2.mono (by omega)))
 have HW:Hid (((w.alloc (.cells #[.int .u16 a0,.int .u16 a1,.int .u16 a2,.int .u16 a3,.int .u16 a4,.int .u16 a5,.int .u16 a6,.int .u16 a7] 24)).alloc (.cells #[.int .u16 b0,.int .u16 b1,.int .u16 b2,.int .u16 b3,.int .u16 b4,.int .u16 b5,.int .u16 b6,.int .u16 b7] 24)).alloc (.cells #[.int .u16 0,.int .u16 0,.int .u16 0,.int .u16 0,.int .u16 0,.int .u16 0,.int .u16 0,.int .u16 0] 24)=w3):=by
  show _=_
  rw[hw1,hw2,hw3]
 clear hw1 hw2 hw3 B1 B2 hz1 hz2;have hlA:[a0,a1,a2,a3,a4,a5,a6,a7].length=8:=rfl;have HLB:Hid ([b0,b1,b2,b3,b4,b5,b6,b7].length=8):=rfl;obtain⟨A,hA⟩:∃ A,[a0,a1,a2,a3,a4,a5,a6,a7]=A:=⟨_,rfl⟩;obtain⟨B,hB⟩:∃ B,[b0,b1,b2,b3,b4,b5,b6,b7]=B:=⟨_,rfl⟩;rw[hA]at hlA HA ⊢;rw[hB]at HLB HB ⊢;have HST:=hid (Edg.start (B:=B) (q:=q) hlA);clear hA hB hlA;go_enter Tryz.func65,Tryz.ntmps65
 go_wp2_with fail;rw[HW.out];obtain⟨arg,harg⟩:∃ v:Value,Value.agg #[.int .u16 a0,.int .u16 a1,.int .u16 a2,.int .u16 a3,.int .u16 a4,.int .u16 a5,.int .u16 a6,.int .u16 a7]=v:=⟨_,rfl⟩;obtain⟨arb,harb⟩:∃ v:Value,Value.agg #[.int .u16 b0,.int .u16 b1,.int .u16 b2,.int .u16 b3,.int .u16 b4,.int .u16 b5,.int .u16 b6,.int .u16 b7]=v:=⟨_,rfl⟩;rw[harg,harb];clear HW harg harb
 go_loopw [9] (fun v9 wr=>∃(i:Nat) (X:List Nat),i≤q∧v9=.int .i64 (i:Int)∧Hid (Edg A B X q i)∧Hid (wr.heap[w.heap.size]? = some (.cells (ak X).toArray 24 (0,0)))∧Hid (wr.heap[w.heap.size+1]? = some (.cells (ak B).toArray 24 (0,0)))∧Hid (wr.heap[w.heap.size+2]? = some (.cells (ak z8).toArray 24 (0,0)))∧Hid (Below w.heap.size w wr)) (fun v9 _=>q - (intOf v9).toNat)
 case atStart=>exact⟨0,A,by omega,rfl,HST,HA,HB,HR,HBW⟩
 case round =>
  obtain⟨i,X,hi,rfl,HE,HA,HB,HR,HBW⟩:=hrel;have HXL:=hid HE.out.1;by_cases hlt:i<q
  ·have hltz:(i:Int)<(q:Int):=by omega
   have hsrc:=cg HB.out (j:=i) (by rw[HLB.out];omega);obtain⟨v,hv⟩:∃ v,B[i]?.getD 0=v:=⟨_,rfl⟩;rw[hv]at hsrc;have HE2:=hid (HE.out.step hlt hq hv);obtain⟨k,hk⟩:∃ k,8 - q+i=k:=⟨_,rfl⟩;have hkz:(8:Int) - (q:Int)+(i:Int)=(k:Int):=by omega
   have hk8:k<8:=by omega
   have hk8z:(k:Int)<8:=by omega
   rw[hk]at HE2;have hdst:=cg HA.out (j:=k) (by rw[HXL.out];exact hk8);have hfz:=frozen_of_row wr w.heap.size k _ _ HA.out
   have HA2:Hid ((wr.setCell ⟨w.heap.size,k,none⟩ (.int .u16 (v:Nat))).heap[w.heap.size]? = some (.cells (ak (X.set k v)).toArray 24 (0,0))):=by
    show _=_
    rw[heap_setCell_same wr _ k _ _ _ HA.out,k8]
   have HB2:Hid ((wr.setCell ⟨w.heap.size,k,none⟩ (.int .u16 (v:Nat))).heap[w.heap.size+1]? = some (.cells (ak B).toArray 24 (0,0))):=(heap_setCell_other wr _ _ _ (by simp)).trans HB.out;have HR2:Hid ((wr.setCell ⟨w.heap.size,k,none⟩ (.int .u16 (v:Nat))).heap[w.heap.size+2]? = some (.cells (ak z8).toArray 24 (0,0))):=(heap_setCell_other wr _ _ _ (by simp)).trans HR.out;have HW2:=hid (HBW.out.setCell (p:=⟨w.heap.size,k,none⟩) (Nat.le_refl _) (.int .u16 (v:Nat)));clear hv HE hk
   go_wp2_with fail
   go_roundw
   case rel=>exact⟨i+1,X.set k v,by omega,by go_num,HE2,HA2,HB2,HR2,HW2⟩
   case measure=>simp[intOf];omega
  ·have hiq:i=q:=by omega
   have hltz:¬ (i:Int)<(q:Int):=by omega
   have HE2:Hid (Edg A B X q q):=by rw[hiq]at HE;exact HE
   clear HE hiq
   go_wp2_with(first
     | (refine wpList_load_row rfl 24 (.tmp 3) rfl w.heap.size rfl 24 (ak X).toArray (0,0) _ HA.out Tryz.underlying24 rfl (aH HXL.out) ?_)
     | (refine wpList_store_row rfl 24 (.tmp 6) (.tmp 21) rfl (w.heap.size+2) (ak X).toArray rfl rfl 24 (ak z8).toArray HR.out (aH HXL.out) ((aV rfl).trans (aV HXL.out).symm) (cM X) ?_))
   exact bodyPost_ret (results_cell_row Tryz.results65 _ _ (w.heap.size+2) 24 (ak X).toArray (0,0) _ rfl (aN HR.out) Tryz.underlying24 rfl (aH HXL.out)) rfl ⟨⟨X,HE2.out,rfl⟩,aw HBW.out (by omega) _⟩
theorem tf(F B:List Nat)(hF:F.length+B.length≤7∨(F.length=8∧B=[]))(w:World):
  Calls Tryz.prog 65 #[.agg (ak (F++z (8 - F.length))).toArray,.agg (ak (B++z (8 - B.length))).toArray,.int .i64 (B.length:Int)] w fun e W'=>e=.returned (.agg (ak (F++List.replicate (8 - B.length - F.length) 0++B)).toArray)∧Below w.heap.size w W':=by
 have hq:F.length+B.length≤8:=by
  rcases hF with h | ⟨h,rfl⟩
  ·omega
  ·simp[h]
 have lz:∀ L:List Nat,L.length≤8→(L++z (8 - L.length)).length=8:=fun L h=>by unfold z;simp;omega
 obtain⟨a0,a1,a2,a3,a4,a5,a6,a7,ha⟩:=wj (lz F (by omega));obtain⟨b0,b1,b2,b3,b4,b5,b6,b7,hb⟩:=wj (lz B (by omega));have h:=td a0 a1 a2 a3 a4 a5 a6 a7 b0 b1 b2 b3 b4 b5 b6 b7 B.length (by omega) w;rw[←ha,←hb]at h;rw[ha,hb];refine Calls.mono h ?_;rintro e W' ⟨⟨X,⟨h8,hX⟩,rfl⟩,hB⟩
 refine⟨?_,hB⟩
 have e:X=F++List.replicate (8 - B.length - F.length) 0++B:=by
  refine Dp h8 (by simp;omega) (fun j hj=>?_);rw[hX j]
  have zat:∀(L:List Nat) (k:Nat),k≤7→L.length≤8→(L++z (8 - L.length))[k]?.getD 0=if k<L.length then L[k]?.getD 0 else 0:=fun L k hk hL=>by
   by_cases h:k<L.length
   ·rw[if_pos h,List.getElem?_append_left h]
   ·rw[if_neg h,List.getElem?_append_right (by omega)]
    unfold z;rw[List.getElem?_replicate];split <;> rfl
  by_cases e:j<F.length
  ·rw[if_neg (by omega),zat F j (by omega) (by omega),if_pos e,List.append_assoc,List.getElem?_append_left e]
  ·by_cases e2:8 - B.length≤j
   ·rw[if_pos (by omega),zat B _ (by omega) (by omega),if_pos (by omega),List.getElem?_append_right (by simp;omega)]
    congr 2
    simp;omega
   ·rw[if_neg (by omega),zat F j (by omega) (by omega),if_neg e,List.append_assoc,List.getElem?_append_right (by omega),List.getElem?_append_left (by simp;omega),List.getElem?_replicate,if_pos (by omega)];rfl
 rw[e]
def G6(U:ByteArray)(e:Ending):Prop:=∃(f b:ByteArray) (sh:Bool),e=.returned (.tuple #[.string f,.string b,.bool sh])∧f.size≤U.size∧b.size≤U.size∧((sh=false∧pp (bn U)=full (rwd (bn f))∧rwd (bn b)=some [])∨(sh=true∧pp (bn U)=both (rwd (bn f)) (rwd (bn b))))
theorem below_drewN{B:Nat}{a w:World}(h:Below B a w)(n:Nat):Below B a (w.drewN n):=⟨h.os,h.tape,h.output,h.size,h.block⟩
theorem p9(l:List UInt8):bn ⟨l.toArray⟩=nn l:=by unfold bn nn;simp
theorem jL(U:ByteArray)(hU:U.size≤1000000000)(w:World)(hM:Mx w):Calls Tryz.prog 63 #[.string U,.string ⟨#[58,58]⟩] w fun e W'=>G6 U e∧Below w.heap.size w W':=by
 obtain⟨m,hm⟩:=hM;have hf:Tryz.laysCutX_ren.f 145=63:=by kernel_rfl
 have hg:Tryz.laysCutX_ren.g 1=1:=by kernel_rfl
 have h:=Any.strings_Cut Tryz.laysCutX U ⟨#[58,58]⟩ m w (by omega) (by rw[hg];exact hm);rw[hf]at h;refine h.mono ?_;rintro e W' ⟨rfl,n,rfl⟩
 refine⟨⟨_,_,_,rfl,?_,?_,?_⟩,below_drewN (Below.refl _ _) n⟩
 ·have e0:(⟨#[58,58]⟩:ByteArray).data.toList=[58,58]:=rfl
  rw[e0,←aa,p9,←aa U];rcases pS U.data.toList with⟨_,h2⟩ | ⟨_,h2,_⟩
  ·rw[h2];exact Nat.le_refl _
  ·rw[h2,List.length_take];exact Nat.min_le_right _ _
 ·have e0:(⟨#[58,58]⟩:ByteArray).data.toList=[58,58]:=rfl
  rw[e0,←aa,p9,←aa U];rcases pS U.data.toList with⟨_,h2⟩ | ⟨_,_,h2,_⟩
  ·rw[h2];exact Nat.zero_le _
  ·rw[h2,List.length_drop];exact Nat.sub_le _ _
 ·have e0:(⟨#[58,58]⟩:ByteArray).data.toList=[58,58]:=rfl
  rw[e0];have hb1:=p9 (Lib.cut U.data.toList [58,58]).1;have hb2:=p9 (Lib.cut U.data.toList [58,58]).2.1;have hU0:bn U=nn U.data.toList:=rfl;rw[hb1,hb2,hU0];rcases pS U.data.toList with⟨h1,h2⟩ | ⟨h1,h2,h3,h4⟩
  ·left
   rw[h2];refine⟨rfl,?_,rfl⟩;unfold pp;rw[if_pos h1]
  ·right
   rw[h2,h3,h4];refine⟨rfl,?_⟩;unfold pp;rw[if_neg h1]
theorem Hn(W:World)(X:List Nat):((W.alloc (.cells #[.int .u16 0,.int .u16 0,.int .u16 0,.int .u16 0,.int .u16 0,.int .u16 0,.int .u16 0,.int .u16 0] 24)).setRow W.heap.size (ak X).toArray).heap[W.heap.size]? = some (.cells (ak X).toArray 24 (0,0))∧Below W.heap.size W ((W.alloc (.cells #[.int .u16 0,.int .u16 0,.int .u16 0,.int .u16 0,.int .u16 0,.int .u16 0,.int .u16 0,.int .u16 0] 24)).setRow W.heap.size (ak X).toArray) :=
 ⟨aN (bY W _ _),aw ((Below.refl _ W).alloc (Nat.le_refl _) _) (Nat.le_refl _) _⟩
theorem GR(W:World):(W.alloc (.cells #[.int .u16 0,.int .u16 0,.int .u16 0,.int .u16 0,.int .u16 0,.int .u16 0,.int .u16 0,.int .u16 0] 24)).heap[W.heap.size]? = some (.cells (ak z8).toArray 24 (0,0)):=bY W _ _
theorem Gu{l:List Int}{s:ByteArray}{e:Ending}(h:A9 l s e)(hl:l=bn s):(prs l=none∧e=.returned (.tuple #[.string ⟨#[]⟩,.bool false]))∨(∃ t:ByteArray,e=.returned (.tuple #[.string t,.bool true])∧pp (bn t)=prs l∧t.size≤s.size+10):=by
 obtain⟨X,p,e0,h58,hX,h⟩:=h;rcases h with⟨hd,rfl⟩ | ⟨hd,hn,rfl⟩ | ⟨hd,a,b,t,ha,hb,hdt,ht,hts,rfl⟩
 ·right
  exact⟨s,rfl,by rw[←hl,e0];exact yH hX h58 hd,by omega⟩
 ·left
  exact⟨by rw[e0];exact vM hX h58 hd hn,rfl⟩
 ·right
  exact⟨t,rfl,by rw[ht,e0];exact Cs hX h58 hd hdt ha hb,hts⟩
def GX(w:World):Prop:=Tab w∧Er w∧Mx w
theorem GX.below{w w':World}(h:GX w)(hb:Below w.heap.size w w'):GX w':=⟨h.1.below hb (Nat.le_refl _),h.2.1.below hb,h.2.2.below hb⟩
def kM(o:Option (List Nat))(e:Ending):Prop:=e=.returned (.tuple #[.agg (ak (o.getD z8)).toArray,.int .i64 (err o)])
theorem kM.no:kM none (.returned (.tuple #[.agg (ak z8).toArray,.int .i64 8])):=rfl
theorem kM.yes(X:List Nat):kM (some X) (.returned (.tuple #[.agg (ak X).toArray,.int .i64 0])):=rfl
theorem j5(s:ByteArray)(hs:s.size≤100000)(w:World)(hG:GX w):Calls Tryz.prog 41 #[.string s] w fun e W'=>kM (prs (bn s)) e∧Below w.heap.size w W':=by
 have HB0:Hid (Below w.heap.size w (w.alloc (.cells #[.int .u16 0,.int .u16 0,.int .u16 0,.int .u16 0,.int .u16 0,.int .u16 0,.int .u16 0,.int .u16 0] 24))):=(Below.refl _ w).alloc (Nat.le_refl _) _;have HA0:=hid (GR w);have HZ0:Hid ((w.alloc (.cells #[.int .u16 0,.int .u16 0,.int .u16 0,.int .u16 0,.int .u16 0,.int .u16 0,.int .u16 0,.int .u16 0] 24)).heap.size=w.heap.size+1):=by show _=_;simp
 have HG0:=hid (hG.below HB0.out);have HUN:=hid (fun W (h:GX W)=>dK s hs W h.2.1 h.2.2 h.1);have HGP:=hid (fun e (h:A9 (bn s) s e)=>Gu h rfl);have HXL:Hid (z8.length=8):=rfl;obtain⟨o,ho⟩:∃ o,prs (bn s)=o:=⟨_,rfl⟩;rw[ho]at HGP ⊢;clear ho hG;go_enter Tryz.func41,Tryz.ntmps41
 go_wp2_with fail;obtain⟨w1,hw1⟩:∃ w1,w.alloc (.cells #[.int .u16 0,.int .u16 0,.int .u16 0,.int .u16 0,.int .u16 0,.int .u16 0,.int .u16 0,.int .u16 0] 24)=w1:=⟨_,rfl⟩;rw[hw1]at HB0 HA0 HZ0 HG0 ⊢;clear hw1;refine(HUN.out w1 HG0.out).mono ?_;rintro e w2 ⟨hun,B2⟩
 have HB2:=hid (HB0.out.trans (B2.mono HB0.out.size));have HA2:Hid (w2.heap[w.heap.size]? = some (.cells (ak z8).toArray 24 (0,0))):=(B2.block _ (by rw[HZ0.out];omega)).trans HA0.out;have HG2:=hid (HG0.out.below B2);have hun2:=HGP.out e hun;clear B2 hun HGP HUN HA0 HB0 HG0 HZ0;rcases hun2 with⟨hn,rfl⟩ | ⟨U,rfl,hpp,hUs⟩
 ·have HR:Hid (kM o (.returned (.tuple #[.agg (ak z8).toArray,.int .i64 8]))):=by rw[hn];exact kM.no
  clear hn
  go_wp2_with((refine wpList_store_row rfl 24 (.tmp 2) (.tmp 21) rfl w.heap.size (ak z8).toArray rfl rfl 24 (ak z8).toArray HA2.out (aH HXL.out) ((aV rfl).trans (aV HXL.out).symm) (cM z8) ?_))
  exact bodyPost_ret (bB Tryz.results41 _ _ w.heap.size 24 (ak z8).toArray (0,0) _ _ rfl (aN HA2.out) Tryz.underlying24 (aH HXL.out)) rfl ⟨HR.out,aw HB2.out (Nat.le_refl _) _⟩
 ·have HPP:=hid hpp
  have HCU:=hid (jL U (by omega) w2 HG2.out.2.2);have hzA:w.heap.size<w2.heap.size:=(Array.getElem?_eq_some_iff.1 HA2.out).1;clear hpp
  go_wp2_with fail;refine HCU.out.mono ?_;rintro e w3 ⟨⟨f,b,sh,rfl,hfs,hbs,hcut⟩,B3⟩
  have HB3:=hid (HB2.out.trans (B3.mono HB2.out.size));have HA3:Hid (w3.heap[w.heap.size]? = some (.cells (ak z8).toArray 24 (0,0))):=(B3.block _ hzA).trans HA2.out;have HG3:=hid (HG2.out.below B3);have hzA3:w.heap.size<w3.heap.size:=Nat.lt_of_lt_of_le hzA B3.size;have HCT:=hid hcut;have HRF:=hid (ug f (by omega) w3 HG3.out.2.1 HG3.out.2.2);clear B3 HB2 HA2 HG2 HCU hcut hzA
  go_wp2_with fail;refine HRF.out.mono ?_;rintro e w4 ⟨hrf,B4⟩
  have HB4:=hid (HB3.out.trans (B4.mono HB3.out.size));have HA4:Hid (w4.heap[w.heap.size]? = some (.cells (ak z8).toArray 24 (0,0))):=(B4.block _ hzA3).trans HA3.out;have HG4:=hid (HG3.out.below B4);have hzA4:w.heap.size<w4.heap.size:=Nat.lt_of_lt_of_le hzA3 B4.size;clear B4 HB3 HA3 HG3 HRF hzA3
  obtain⟨X,m,okF,hX8,rfl,hmb,HXF⟩:∃(X:List Nat) (m:Nat) (k:Bool),X.length=8∧e=.returned (.tuple #[.agg (ak X).toArray,.int .i64 (m:Int),.bool k])∧m≤8∧Hid ((k=true∧∃ F,rwd (bn f)=some F∧F.length=m∧X=F++z (8 - F.length))∨(k=false∧rwd (bn f)=none)):=by
   rcases hrf with⟨v,h1,h2,h3⟩ | ⟨h1,X,h2,h3⟩
   ·exact⟨_,v.length,true,by unfold z;simp;omega,h3,h2,.inl ⟨rfl,v,h1,rfl,rfl⟩⟩
   ·exact⟨X,0,false,h2,h3,by omega,.inr ⟨rfl,h1⟩⟩
  have HX8:=hid hX8;have HBX:=hid (GR w4);obtain⟨hpk1,hpk2⟩:=Hn w4 X;have HPK1:=hid hpk1;have HPK2:=hid hpk2;clear hrf hX8 hpk1 hpk2
  go_wp2_with((refine wpList_store_row rfl 24 (.tmp 8) (.tmp 31) rfl w4.heap.size (ak X).toArray rfl rfl 24 (ak z8).toArray HBX.out (aH HX8.out) ((aV rfl).trans (aV HX8.out).symm) (cM X) ?_))
  obtain⟨w5,hw5⟩:∃ w5,(w4.alloc (.cells #[.int .u16 0,.int .u16 0,.int .u16 0,.int .u16 0,.int .u16 0,.int .u16 0,.int .u16 0,.int .u16 0] 24)).setRow w4.heap.size (ak X).toArray=w5:=⟨_,rfl⟩;rw[hw5]at HPK1 HPK2 ⊢;obtain⟨g1,hg1⟩:∃ g1,w4.heap.size=g1:=⟨_,rfl⟩;have HB5:=hid (HB4.out.trans (HPK2.out.mono HB4.out.size));have HA5:Hid (w5.heap[w.heap.size]? = some (.cells (ak z8).toArray 24 (0,0))):=(HPK2.out.block _ hzA4).trans HA4.out;have HG5:=hid (HG4.out.below HPK2.out);rw[hg1]at HPK1 hzA4 ⊢;have hg5:g1<w5.heap.size:=(Array.getElem?_eq_some_iff.1 HPK1.out).1;have HRB:=hid (ug b (by omega) w5 HG5.out.2.1 HG5.out.2.2);clear hw5 hg1 HPK2 HB4 HA4 HG4 HBX;refine HRB.out.mono ?_;rintro e w6 ⟨hrb,B6⟩
  have HB6:=hid (HB5.out.trans (B6.mono HB5.out.size));have HA6:Hid (w6.heap[w.heap.size]? = some (.cells (ak z8).toArray 24 (0,0))):=(B6.block _ (by omega)).trans HA5.out;have HP6:Hid (w6.heap[g1]? = some (.cells (ak X).toArray 24 (0,0))):=(B6.block _ hg5).trans HPK1.out;have hg6:g1<w6.heap.size:=Nat.lt_of_lt_of_le hg5 B6.size;clear B6 HB5 HA5 HG5 HRB HPK1 hg5
  obtain⟨Y,q,okB,hY8,rfl,hqb,HYB⟩:∃(X:List Nat) (m:Nat) (k:Bool),X.length=8∧e=.returned (.tuple #[.agg (ak X).toArray,.int .i64 (m:Int),.bool k])∧m≤8∧Hid ((k=true∧∃ F,rwd (bn b)=some F∧F.length=m∧X=F++z (8 - F.length))∨(k=false∧rwd (bn b)=none)):=by
   rcases hrb with⟨v,h1,h2,h3⟩ | ⟨h1,X,h2,h3⟩
   ·exact⟨_,v.length,true,by unfold z;simp;omega,h3,h2,.inl ⟨rfl,v,h1,rfl,rfl⟩⟩
   ·exact⟨X,0,false,h2,h3,by omega,.inr ⟨rfl,h1⟩⟩
  have HY8:=hid hY8;have HBX:=hid (GR w6);obtain⟨hpk1,hpk2⟩:=Hn w6 Y;have HPK1:=hid hpk1;have HPK2:=hid hpk2;have HB7:=hid (HB6.out.trans (HPK2.out.mono HB6.out.size));have HA7:Hid (((w6.alloc (.cells #[.int .u16 0,.int .u16 0,.int .u16 0,.int .u16 0,.int .u16 0,.int .u16 0,.int .u16 0,.int .u16 0] 24)).setRow w6.heap.size (ak Y).toArray).heap[w.heap.size]? = some (.cells (ak z8).toArray 24 (0,0))):=(HPK2.out.block _ (by omega)).trans HA6.out;have HP7:Hid (((w6.alloc (.cells #[.int .u16 0,.int .u16 0,.int .u16 0,.int .u16 0,.int .u16 0,.int .u16 0,.int .u16 0,.int .u16 0] 24)).setRow w6.heap.size (ak Y).toArray).heap[g1]? = some (.cells (ak X).toArray 24 (0,0))):=(HPK2.out.block _ hg6).trans HP6.out;obtain⟨w7,hw7⟩:∃ w7,(w6.alloc (.cells #[.int .u16 0,.int .u16 0,.int .u16 0,.int .u16 0,.int .u16 0,.int .u16 0,.int .u16 0,.int .u16 0] 24)).setRow w6.heap.size (ak Y).toArray=w7:=⟨_,rfl⟩;rw[hw7]at HPK1 HB7 HA7 HP7;have HW7:=hid hw7;clear hrb hY8 hpk1 hpk2 hw7 HPK2 HA6 HP6 HB6;have hmq:(m:Int)+(q:Int)=((m+q:Nat):Int):=by omega
  by_cases hgood:okF=true∧okB=true∧(sh=decide (m+q<8))
  ·obtain⟨rfl,rfl,hsh⟩:=hgood
   obtain⟨F,hF,hFm,hXF⟩:∃ F,rwd (bn f)=some F∧F.length=m∧X=F++z (8 - F.length):=by
    rcases HXF.out with⟨_,h⟩ | ⟨h,_⟩
    ·exact h
    ·cases h
   obtain⟨B,hBb,hBq,hYB⟩:∃ F,rwd (bn b)=some F∧F.length=q∧Y=F++z (8 - F.length):=by
    rcases HYB.out with⟨_,h⟩ | ⟨h,_⟩
    ·exact h
    ·cases h
   obtain⟨hok,hores⟩:(F.length+B.length≤7∨(F.length=8∧B=[]))∧o=some (F++List.replicate (8 - B.length - F.length) 0++B):=by
    rcases HCT.out with⟨h0,h1,h2⟩ | ⟨h0,h1⟩
    ·rw[hBb]at h2
     cases h2
     rw[h0]at hsh;have h8:¬ m+q<8:=of_decide_eq_false hsh.symm;have hq0:q=0:=by rw[←hBq];rfl
     have hF8:F.length=8:=by omega
     refine⟨.inr ⟨hF8,rfl⟩,?_⟩;rw[←HPP.out,h1,hF];show(if F.length=8 then some F else none)=_
     rw[if_pos hF8];simp[hF8]
    ·rw[h0]at hsh
     have h8:m+q<8:=of_decide_eq_true hsh.symm;refine⟨.inl (by omega),?_⟩;rw[←HPP.out,h1,hF,hBb];show(if F.length+B.length≤7 then _ else none)=_
     rw[if_pos (by omega)]
   have HEN:=hid (tf F B hok);rw[←hXF,←hYB,hBq]at HEN
   have HR8:Hid ((F++List.replicate (8 - q - F.length) 0++B).length=8):=by
    show _=_
    rcases hok with h | ⟨h,rfl⟩
    ·simp;omega
    ·simp[h] <;> omega
   rw[hBq]at hores;obtain⟨R,hR⟩:∃ R,F++List.replicate (8 - q - F.length) 0++B=R:=⟨_,rfl⟩;rw[hR]at HEN HR8 hores;have HRR:Hid (kM o (.returned (.tuple #[.agg (ak R).toArray,.int .i64 0]))):=by rw[hores];exact kM.yes R
   clear hR hores hok hXF hYB hBq hFm hF hBb HXF HYB HCT HPP;cases sh with
   | true =>
    have h8:(m:Int)+(q:Int)<8:=by have:=of_decide_eq_true hsh.symm;omega
    clear hsh hmq
    go_wp2_with(first
      | (refine wpList_store_row rfl 24 (.tmp 10) (.tmp 37) rfl w6.heap.size (ak Y).toArray rfl rfl 24 (ak z8).toArray HBX.out (aH HY8.out) ((aV rfl).trans (aV HY8.out).symm) (cM Y) ?_;rw[HW7.out])
      | (refine wpList_load_row rfl 24 (.tmp 8) rfl g1 rfl 24 (ak X).toArray (0,0) _ HP7.out Tryz.underlying24 rfl (aH HX8.out) ?_)
      | (refine wpList_load_row rfl 24 (.tmp 10) rfl w6.heap.size rfl 24 (ak Y).toArray (0,0) _ HPK1.out Tryz.underlying24 rfl (aH HY8.out) ?_))
    refine(HEN.out w7).mono ?_;rintro e w8 ⟨rfl,B8⟩
    have HA8:Hid (w8.heap[w.heap.size]? = some (.cells (ak z8).toArray 24 (0,0))):=(B8.block _ (Array.getElem?_eq_some_iff.1 HA7.out).1).trans HA7.out;have HB8:=hid (HB7.out.trans (B8.mono HB7.out.size));clear B8 HEN
    go_wp2_with((refine wpList_store_row rfl 24 (.tmp 2) (.tmp 59) rfl w.heap.size (ak R).toArray rfl rfl 24 (ak z8).toArray HA8.out (aH HR8.out) ((aV rfl).trans (aV HR8.out).symm) (cM R) ?_))
    exact bodyPost_ret (bB Tryz.results41 _ _ w.heap.size 24 (ak R).toArray (0,0) _ _ rfl (aN HA8.out) Tryz.underlying24 (aH HR8.out)) rfl ⟨HRR.out,aw HB8.out (Nat.le_refl _) _⟩
   | false =>
    have h8:¬ (m:Int)+(q:Int)<8:=by have:=of_decide_eq_false hsh.symm;omega
    clear hsh hmq
    go_wp2_with(first
      | (refine wpList_store_row rfl 24 (.tmp 10) (.tmp 37) rfl w6.heap.size (ak Y).toArray rfl rfl 24 (ak z8).toArray HBX.out (aH HY8.out) ((aV rfl).trans (aV HY8.out).symm) (cM Y) ?_;rw[HW7.out])
      | (refine wpList_load_row rfl 24 (.tmp 8) rfl g1 rfl 24 (ak X).toArray (0,0) _ HP7.out Tryz.underlying24 rfl (aH HX8.out) ?_)
      | (refine wpList_load_row rfl 24 (.tmp 10) rfl w6.heap.size rfl 24 (ak Y).toArray (0,0) _ HPK1.out Tryz.underlying24 rfl (aH HY8.out) ?_))
    refine(HEN.out w7).mono ?_;rintro e w8 ⟨rfl,B8⟩
    have HA8:Hid (w8.heap[w.heap.size]? = some (.cells (ak z8).toArray 24 (0,0))):=(B8.block _ (Array.getElem?_eq_some_iff.1 HA7.out).1).trans HA7.out;have HB8:=hid (HB7.out.trans (B8.mono HB7.out.size));clear B8 HEN
    go_wp2_with((refine wpList_store_row rfl 24 (.tmp 2) (.tmp 59) rfl w.heap.size (ak R).toArray rfl rfl 24 (ak z8).toArray HA8.out (aH HR8.out) ((aV rfl).trans (aV HR8.out).symm) (cM R) ?_))
    exact bodyPost_ret (bB Tryz.results41 _ _ w.heap.size 24 (ak R).toArray (0,0) _ _ rfl (aN HA8.out) Tryz.underlying24 (aH HR8.out)) rfl ⟨HRR.out,aw HB8.out (Nat.le_refl _) _⟩
  ·have hnone:o=none:=by
    rw[←HPP.out];rcases HXF.out with⟨rfl,F,hF,hFm,_⟩ | ⟨rfl,hF⟩
    ·rcases HYB.out with⟨rfl,B,hBb,hBq,_⟩ | ⟨rfl,hBb⟩
     ·rcases HCT.out with⟨rfl,h1,h2⟩ | ⟨rfl,h1⟩
      ·rw[hBb]at h2
       cases h2
       have hq0:q=0:=by rw[←hBq];rfl
       rw[h1,hF];show(if F.length=8 then some F else none)=_
       rw[if_neg];intro h
       exact hgood ⟨rfl,rfl,(decide_eq_false (by omega)).symm⟩
      ·rw[h1,hF,hBb]
       show(if F.length+B.length≤7 then _ else none)=_
       rw[if_neg];intro h
       exact hgood ⟨rfl,rfl,(decide_eq_true (by omega)).symm⟩
     ·rcases HCT.out with⟨rfl,h1,h2⟩ | ⟨rfl,h1⟩
      ·rw[hBb]at h2;cases h2
      ·rw[h1,hBb,iz]
    ·rcases HCT.out with⟨rfl,h1,h2⟩ | ⟨rfl,h1⟩
     ·rw[h1,hF];rfl
     ·rw[h1,hF]
      cases rwd (bn b) <;> rfl
   have HR:Hid (kM o (.returned (.tuple #[.agg (ak z8).toArray,.int .i64 8]))):=by rw[hnone];exact kM.no
   clear hnone HXF HYB HCT HPP hmq;cases okF with
   | false =>
    clear hgood
    go_wp2_with(first
      | (refine wpList_store_row rfl 24 (.tmp 10) (.tmp 37) rfl w6.heap.size (ak Y).toArray rfl rfl 24 (ak z8).toArray HBX.out (aH HY8.out) ((aV rfl).trans (aV HY8.out).symm) (cM Y) ?_;rw[HW7.out])
      | (refine wpList_store_row rfl 24 (.tmp 2) (.tmp 55) rfl w.heap.size (ak z8).toArray rfl rfl 24 (ak z8).toArray HA7.out (aH HXL.out) ((aV rfl).trans (aV HXL.out).symm) (cM z8) ?_))
    exact bodyPost_ret (bB Tryz.results41 _ _ w.heap.size 24 (ak z8).toArray (0,0) _ _ rfl (aN HA7.out) Tryz.underlying24 (aH HXL.out)) rfl ⟨HR.out,aw HB7.out (Nat.le_refl _) _⟩
   | true =>
    cases okB with
    | false =>
     clear hgood
     go_wp2_with(first
       | (refine wpList_store_row rfl 24 (.tmp 10) (.tmp 37) rfl w6.heap.size (ak Y).toArray rfl rfl 24 (ak z8).toArray HBX.out (aH HY8.out) ((aV rfl).trans (aV HY8.out).symm) (cM Y) ?_;rw[HW7.out])
       | (refine wpList_store_row rfl 24 (.tmp 2) (.tmp 55) rfl w.heap.size (ak z8).toArray rfl rfl 24 (ak z8).toArray HA7.out (aH HXL.out) ((aV rfl).trans (aV HXL.out).symm) (cM z8) ?_))
     exact bodyPost_ret (bB Tryz.results41 _ _ w.heap.size 24 (ak z8).toArray (0,0) _ _ rfl (aN HA7.out) Tryz.underlying24 (aH HXL.out)) rfl ⟨HR.out,aw HB7.out (Nat.le_refl _) _⟩
    | true =>
     cases sh with
     | true =>
      have h8:¬ (m:Int)+(q:Int)<8:=fun h=>hgood ⟨rfl,rfl,(decide_eq_true (by omega)).symm⟩
      have h9:(8:Int)≤(m:Int)+(q:Int):=by omega
      have h10:decide ((m:Int)+(q:Int)<8)=false:=decide_eq_false h8;clear hgood h8
      go_wp2_with(first
        | (refine wpList_store_row rfl 24 (.tmp 10) (.tmp 37) rfl w6.heap.size (ak Y).toArray rfl rfl 24 (ak z8).toArray HBX.out (aH HY8.out) ((aV rfl).trans (aV HY8.out).symm) (cM Y) ?_;rw[HW7.out])
        | (refine wpList_store_row rfl 24 (.tmp 2) (.tmp 55) rfl w.heap.size (ak z8).toArray rfl rfl 24 (ak z8).toArray HA7.out (aH HXL.out) ((aV rfl).trans (aV HXL.out).symm) (cM z8) ?_))
      exact bodyPost_ret (bB Tryz.results41 _ _ w.heap.size 24 (ak z8).toArray (0,0) _ _ rfl (aN HA7.out) Tryz.underlying24 (aH HXL.out)) rfl ⟨HR.out,aw HB7.out (Nat.le_refl _) _⟩
     | false =>
      have h8:(m:Int)+(q:Int)<8:=by
       rcases Nat.lt_or_ge (m+q) 8 with h | h
       ·omega
       ·exact absurd ⟨rfl,rfl,(decide_eq_false (by omega)).symm⟩ hgood
      clear hgood
      go_wp2_with(first
        | (refine wpList_store_row rfl 24 (.tmp 10) (.tmp 37) rfl w6.heap.size (ak Y).toArray rfl rfl 24 (ak z8).toArray HBX.out (aH HY8.out) ((aV rfl).trans (aV HY8.out).symm) (cM Y) ?_;rw[HW7.out])
        | (refine wpList_store_row rfl 24 (.tmp 2) (.tmp 55) rfl w.heap.size (ak z8).toArray rfl rfl 24 (ak z8).toArray HA7.out (aH HXL.out) ((aV rfl).trans (aV HXL.out).symm) (cM z8) ?_))
      exact bodyPost_ret (bB Tryz.results41 _ _ w.heap.size 24 (ak z8).toArray (0,0) _ _ rfl (aN HA7.out) Tryz.underlying24 (aH HXL.out)) rfl ⟨HR.out,aw HB7.out (Nat.le_refl _) _⟩
end Go.Proofs.YtkekkbciiohbkaaGreatDoor.X
