/- Texts one behind the other: WJ XM WK WL. -/
import Derived.Test.YtkekkbciiohbkaaGreatDoorZ36
import Derived.Test.YtkekkbciiohbkaaGreatDoorZ37
import Derived.WalkMore
import Derived.BigQuiet
import Derived.Deep.QuietTactic
set_option maxRecDepth 100000
set_option maxHeartbeats 16000000
set_option linter.unusedVariables false
set_option linter.unnecessarySimpa false
namespace Go.Proofs.YtkekkbciiohbkaaGreatDoor.X
open Go.RowKit
open Go.Proofs.YtkekkbciiohbkaaGreatDoor.F (hx bw vl cJ bn aa aC av aq ar hid aj ab ah aR aK)
def Clr(A X:List Nat)(f i:Nat):Prop:=X.length=8∧∀ j,X[j]?.getD 0=if f≤j∧j<f+i then 0 else A[j]?.getD 0
theorem Clr.start{A:List Nat}{f:Nat}(hA:A.length=8):Clr A A f 0:=⟨hA,fun j=>by rw[if_neg (by omega)]⟩
theorem Clr.step{A X:List Nat}{f i:Nat}(h:Clr A X f i)(hi:f+i<8):Clr A (X.set (f+i) 0) f (i+1):=by
 obtain⟨h8,h⟩:=h;refine⟨by rw[List.length_set];exact h8,fun j=>?_⟩;by_cases e:j=f+i
 ·rw[e,List.getElem?_set_self (by omega),if_pos (by omega)];rfl
 ·rw[List.getElem?_set_ne (by omega),h j]
  by_cases e2:f≤j∧j<f+i
  ·rw[if_pos e2,if_pos (by omega)]
  ·rw[if_neg e2,if_neg (by omega)]
theorem r9(a0 a1 a2 a3 a4 a5 a6 a7 f n:Nat)(hn:f+n≤8)(w:World):
  Calls Tryz.prog 94 #[.agg #[.int .u16 a0,.int .u16 a1,.int .u16 a2,.int .u16 a3,.int .u16 a4,.int .u16 a5,.int .u16 a6,.int .u16 a7],.int .i64 (f:Int),.int .i64 (n:Int)] w fun e W'=>(∃ X,Clr [a0,a1,a2,a3,a4,a5,a6,a7] X f n∧e=.returned (.agg (ak X).toArray))∧Below w.heap.size w W':=by
 obtain⟨w1,hw1⟩:∃ w1,w.alloc (.cells #[.int .u16 a0,.int .u16 a1,.int .u16 a2,.int .u16 a3,.int .u16 a4,.int .u16 a5,.int .u16 a6,.int .u16 a7] 24)=w1:=⟨_,rfl⟩;obtain⟨w3,hw3⟩:∃ w3,w1.alloc (.cells #[.int .u16 0,.int .u16 0,.int .u16 0,.int .u16 0,.int .u16 0,.int .u16 0,.int .u16 0,.int .u16 0] 24)=w3:=⟨_,rfl⟩;have hz1:w1.heap.size=w.heap.size+1:=by rw[←hw1];simp
 have B1:Below w1.heap.size w1 w3:=by rw[←hw3];exact(Below.refl _ _).alloc (Nat.le_refl _) _
 have HA:Hid (w3.heap[w.heap.size]? = some (.cells (ak [a0,a1,a2,a3,a4,a5,a6,a7]).toArray 24 (0,0))):=by
  show _=_
  rw[B1.block _ (by omega),←hw1];exact bY w _ _
 have HR:Hid (w3.heap[w.heap.size+1]? = some (.cells (ak z8).toArray 24 (0,0))):=by
  show _=_
  rw[←hw3,←hz1];exact bY w1 _ _
 have HBW:Hid (Below w.heap.size w w3):=by
  have B0:Below w.heap.size w w1:=by rw[←hw1];exact(Below.refl _ _).alloc (Nat.le_refl _) _
  exact B0.trans (B1.mono (by omega))
 have HW:Hid ((w.alloc (.cells #[.int .u16 a0,.int .u16 a1,.int .u16 a2,.int .u16 a3,.int .u16 a4,.int .u16 a5,.int .u16 a6,.int .u16 a7] 24)).alloc (.cells #[.int .u16 0,.int .u16 0,.int .u16 0,.int .u16 0,.int .u16 0,.int .u16 0,.int .u16 0,.int .u16 0] 24)=w3):=by
  show _=_
  rw[hw1,hw3]
 clear hw1 hw3 B1 hz1;have hlA:[a0,a1,a2,a3,a4,a5,a6,a7].length=8:=rfl;obtain⟨A,hA⟩:∃ A,[a0,a1,a2,a3,a4,a5,a6,a7]=A:=⟨_,rfl⟩;rw[hA]at hlA HA ⊢;have HST:=hid (Clr.start (f:=f) hlA);clear hA hlA;go_enter Tryz.func94,Tryz.ntmps94
 go_wp2_with fail;rw[HW.out];obtain⟨arg,harg⟩:∃ v:Value,Value.agg #[.int .u16 a0,.int .u16 a1,.int .u16 a2,.int .u16 a3,.int .u16 a4,.int .u16 a5,.int .u16 a6,.int .u16 a7]=v:=⟨_,rfl⟩;rw[harg];clear HW harg
 go_loopw [9] (fun v9 wr=>∃(i:Nat) (X:List Nat),i≤n∧v9=.int .i64 (i:Int)∧Hid (Clr A X f i)∧Hid (wr.heap[w.heap.size]? = some (.cells (ak X).toArray 24 (0,0)))∧Hid (wr.heap[w.heap.size+1]? = some (.cells (ak z8).toArray 24 (0,0)))∧Hid (Below w.heap.size w wr)) (fun v9 _=>n - (intOf v9).toNat)
 case atStart=>exact⟨0,A,by omega,rfl,HST,HA,HR,HBW⟩
 case round =>
  obtain⟨i,X,hi,rfl,HE,HA,HR,HBW⟩:=hrel;have HXL:=hid HE.out.1;by_cases hlt:i<n
  ·have hltz:(i:Int)<(n:Int):=by omega
   have HE2:=hid (HE.out.step (by omega));obtain⟨k,hk⟩:∃ k,f+i=k:=⟨_,rfl⟩;have hkz:(f:Int)+(i:Int)=(k:Int):=by omega
   have hk8:k<8:=by omega
   have hk8z:(k:Int)<8:=by omega
   rw[hk]at HE2;have hdst:=cg HA.out (j:=k) (by rw[HXL.out];exact hk8);have hfz:=frozen_of_row wr w.heap.size k _ _ HA.out
   have HA2:Hid ((wr.setCell ⟨w.heap.size,k,none⟩ (.int .u16 ((0:Nat):Int))).heap[w.heap.size]? = some (.cells (ak (X.set k 0)).toArray 24 (0,0))):=by
    show _=_
    rw[heap_setCell_same wr _ k _ _ _ HA.out,k8]
   have HR2:Hid ((wr.setCell ⟨w.heap.size,k,none⟩ (.int .u16 ((0:Nat):Int))).heap[w.heap.size+1]? = some (.cells (ak z8).toArray 24 (0,0))):=(heap_setCell_other wr _ _ _ (by simp)).trans HR.out;have HW2:=hid (HBW.out.setCell (p:=⟨w.heap.size,k,none⟩) (Nat.le_refl _) (.int .u16 ((0:Nat):Int)));clear HE hk
   go_wp2_with fail
   go_roundw
   case rel=>exact⟨i+1,X.set k 0,by omega,by go_num,HE2,HA2,HR2,HW2⟩
   case measure=>simp[intOf];omega
  ·have hiq:i=n:=by omega
   have hltz:¬ (i:Int)<(n:Int):=by omega
   have HE2:Hid (Clr A X f n):=by rw[hiq]at HE;exact HE
   clear HE hiq
   go_wp2_with(first
     | (refine wpList_load_row rfl 24 (.tmp 3) rfl w.heap.size rfl 24 (ak X).toArray (0,0) _ HA.out Tryz.underlying24 rfl (aH HXL.out) ?_)
     | (refine wpList_store_row rfl 24 (.tmp 6) (.tmp 17) rfl (w.heap.size+1) (ak X).toArray rfl rfl 24 (ak z8).toArray HR.out (aH HXL.out) ((aV rfl).trans (aV HXL.out).symm) (cM X) ?_))
   exact bodyPost_ret (results_cell_row Tryz.results94 _ _ (w.heap.size+1) 24 (ak X).toArray (0,0) _ rfl (aN HR.out) Tryz.underlying24 rfl (aH HXL.out)) rfl ⟨⟨X,HE2.out,rfl⟩,aw HBW.out (by omega) _⟩
theorem AD{A X:List Nat}{f n:Nat}(hA:A.length=8)(hn:f+n≤8)(h:Clr A X f n):X=A↔∀ j,f≤j→j<f+n→nv A j=0:=by
 have hv:∀ j,j<8→nv A j=A[j]?.getD 0:=fun j hj=>by unfold nv;rw[List.getElem?_eq_getElem (by omega)];rfl
 constructor
 ·intro e j h1 h2
  have:=h.2 j;rw[e,if_pos ⟨h1,h2⟩]at this;rw[hv j (by omega)];exact this
 ·intro hz
  refine Dp h.1 hA (fun j hj=>?_);rw[h.2 j];split
  ·rename_i hj2
   rw[←hv j hj,hz j hj2.1 hj2.2]
  ·rfl
def st(a:List Nat)(i:Nat):Nat×Nat:=if (bs a i).1<0 then (0,0) else ((bs a i).1.toNat,(bs a i).2)
theorem Hd(a:List Nat)(h8:a.length=8)(i:Nat)(hi:i≤8):(st a i).1≤8∧(st a i).2≤8∧((st a i).2=0∨2≤(st a i).2)∧(st a i).1+(st a i).2≤8:=by
 unfold st;rcases p6 a i with⟨h1,h2,_⟩ | ⟨p,h0,h1,h2,h3⟩
 ·rw[h1,if_pos (by decide)];simp
 ·have:=tJ a p
  rw[h1,h2,if_neg (by omega)];simp only[Int.toNat_natCast];omega
theorem BG(a:List Nat)(i:Nat):st a (i+1)=if (st a i).2<zr a i∧2≤zr a i then (i,zr a i) else st a i:=by
 unfold st;rw[bs];rcases p6 a i with⟨h1,h2,h3⟩ | ⟨p,h0,h1,h2,h3⟩
 ·rw[h1,h2,if_pos (show(-1:Int)<0 by decide)]
  by_cases h:1<zr a i
  ·rw[if_pos h,if_neg (by simp),if_pos ⟨by simp;omega,by omega⟩];simp
  ·rw[if_neg h,h1,if_pos (by decide),if_neg (by omega)]
 ·rw[h1,h2,if_neg (show ¬ ((p:Int)<0) by omega)]
  by_cases h:zr a p<zr a i
  ·rw[if_pos h,if_neg (by simp),if_pos ⟨h,by omega⟩];simp
  ·rw[if_neg h,h1,h2,if_neg (by omega),if_neg (fun hh=>h hh.1)]
theorem EW{a:List Nat}{i n:Nat}(h8:a.length=8)(hn:i+n≤8):n≤zr a i↔∀ j,i≤j→j<i+n→nv a j=0:=by
 constructor
 ·intro h j h1 h2
  have:=tI (a:=a) (i:=i) (j:=j - i) (by omega)
  rwa [show i+(j - i)=j by omega]at this
 ·intro h
  by_cases hle:n≤zr a i
  ·exact hle
  ·exfalso
   have hz:=tJ a i;have h1:nv a (i+zr a i)=0:=h _ (by omega) (by omega)
   -- the row ends where something else stands
   have h2:zr a i=zr a i+1:=by
    have key:∀(l:List Nat),(l.takeWhile (fun v=>decide (v=0))).length<l.length→nv l (l.takeWhile (fun v=>decide (v=0))).length≠0:=by
     intro l
     induction l with
     | nil=>intro h;simp at h
     | cons v l ih =>
      intro hl
      by_cases hv:v=0
      ·rw[List.takeWhile_cons_of_pos (by simpa using hv)]at hl ⊢
       simp only[List.length_cons]at hl ⊢;have:=ih (by omega)
       simpa[nv]using this
      ·rw[List.takeWhile_cons_of_neg (by simpa using hv)]
       simpa[nv]using hv
    have h3:=key (a.drop i) (by rw[List.length_drop];unfold zr at hle;omega);rw[kU]at h3;exact absurd h1 h3
   omega
def up(a:List Nat)(i n:Nat):Nat×Nat:=if (st a i).2<n - 1∧2≤n - 1 then (i,n - 1) else st a i
theorem xD(a:List Nat)(i:Nat):up a i 2=st a i:=by unfold up;rw[if_neg (by omega)]
theorem By{a:List Nat}{i n:Nat}(hn:2≤n):up a i (n+1)=if (up a i n).2<n then (i,n) else up a i n:=by
 unfold up;simp only[Nat.add_sub_cancel];by_cases h:(st a i).2<n - 1∧2≤n - 1
 ·rw[if_pos h,if_pos ⟨by omega,hn⟩,if_pos (by show n - 1<n;omega)]
 ·rw[if_neg h]
  by_cases h2:(st a i).2<n
  ·rw[if_pos ⟨h2,hn⟩,if_pos h2]
  ·rw[if_neg (fun hh=>h2 hh.1),if_neg h2]
theorem xF{a:List Nat}{i n:Nat}(hn:2≤n)(h1:n=2∨n - 1≤zr a i)(h2:zr a i<n):up a i n=st a (i+1):=by
 rw[BG];unfold up;rcases h1 with rfl | h1
 ·rw[if_neg (by omega),if_neg (by omega)]
 ·have e:zr a i=n - 1:=by omega
  rw[e]
open Go.Proofs.YtkekkbciiohbkaaGreatDoor.F (hx bw vl bn aa aC av aq ar hid aj ab ah aR aK)
structure aE(w:World) where
 W:World
 h:Below w.heap.size w W
theorem ay{P:Program}{id:Nat}{Q:Exit→Act→World→Prop}{a:Act}{w:World}{l:List Oper}(hm:P.follows .mixedOrders=true)(hB:Region.lexB .any l.toArray=true)
  (h:wpQuiet P l.toArray (fun w'=>∃ x:aE w,w'=x.W) (fun a'=>∀ w',(∃ x:aE w,w'=x.W)→Q .normal a' w') l a):(Code.region id l.toArray true).wp P Q a w :=
 wp_region_quiet (C:=fun w'=>∃ x:aE w,w'=x.W) hm hB ⟨⟨{ w with drawn:=w.drawn+1 },⟨rfl,rfl,rfl,Nat.le_refl _,fun _ _=>rfl⟩⟩,rfl⟩ (by simpa using h)
theorem aE.call{w:World}{f:FuncId}{args:Array Value}{v:Value}(x:aE w)(h:Calls Tryz.prog f args x.W fun e w'=>e=.returned v∧Below x.W.heap.size x.W w'):Calls Tryz.prog f args x.W fun e w'=>e=.returned v∧∃ y:aE w,w'=y.W :=
 h.mono fun _ w' ⟨he,hb⟩=>⟨he,⟨w',x.h.trans (hb.mono x.h.size)⟩,rfl⟩
theorem aE.cell{w w3:World}{t:TypeId}{X:List Nat}(hB:Below (w.heap.size+1) (w.alloc (.cells (ak X).toArray t)) w3)(x:aE w3){j:Nat}(hj:j<X.length):x.W.cell? ⟨w.heap.size,j,none⟩=some (.int .u16 ((X[j]?.getD 0:Nat):Int)) :=
 DP w t X (hB.trans (x.h.mono (by have:=hB.size;simpa using this))) hj
def r8(A:List Nat)(f n:Nat):List Nat:=(List.range 8).map (fun j=>if f≤j∧j<f+n then 0 else A[j]?.getD 0)
theorem mV(A:List Nat)(f n:Nat):(r8 A f n).length=8:=by unfold r8;simp
theorem DL{A X:List Nat}{f n:Nat}(h:Clr A X f n):X=r8 A f n:=by
 refine Dp h.1 (mV A f n) (fun j hj=>?_);rw[h.2 j];unfold r8;rw[List.getElem?_map,List.getElem?_range hj];rfl
theorem AE(A:List Nat)(hA:A.length=8)(f n:Nat):Clr A (r8 A f n) f n:=by
 refine⟨mV A f n,fun j=>?_⟩;unfold r8;by_cases hj:j<8
 ·rw[List.getElem?_map,List.getElem?_range hj];rfl
 ·rw[List.getElem?_eq_none (by simp;omega),List.getElem?_eq_none (by omega)];simp
theorem AF(a0 a1 a2 a3 a4 a5 a6 a7 f n:Nat)(hn:f+n≤8)(w:World):
  Calls Tryz.prog 94 #[.agg #[.int .u16 a0,.int .u16 a1,.int .u16 a2,.int .u16 a3,.int .u16 a4,.int .u16 a5,.int .u16 a6,.int .u16 a7],.int .i64 (f:Int),.int .i64 (n:Int)] w fun e W'=>e=.returned (.agg (ak (r8 [a0,a1,a2,a3,a4,a5,a6,a7] f n)).toArray)∧Below w.heap.size w W' :=
 (r9 a0 a1 a2 a3 a4 a5 a6 a7 f n hn w).mono (by
   rintro e W' ⟨⟨X,h,rfl⟩,hB⟩
   rw[DL h];exact⟨rfl,hB⟩)
theorem uB{X Y:List Nat}(hX:X.length=8)(hY:Y.length=8)(b:Bool)(hb:decide (X=Y)=!b)(W:World):(binOp .neq 24 (.agg (ak X).toArray) (.agg (ak Y).toArray)).run Tryz.prog W=.ok (.bool b) W:=by
 rw[run_neq_struct,eq8 9998 _ _ (fun i=>((X[i]?.getD 0:Nat):Int)) (fun i=>((Y[i]?.getD 0:Nat):Int)) (xH hX) (xH hY)]
 have h:(List.range 8).all (fun i=>((X[i]?.getD 0:Nat):Int)==((Y[i]?.getD 0:Nat):Int))=decide (X=Y):=by
  rw[Bool.eq_iff_iff,List.all_eq_true,decide_eq_true_iff]
  constructor
  ·intro h
   exact Dp hX hY (fun j hj=>by
     have:=h j (List.mem_range.2 hj)
     exact Int.ofNat.inj (eq_of_beq this))
  ·intro h i _
   rw[h];simp
 rw[h,hb];cases b <;> rfl
def G2(a:List Nat)(e:Ending):Prop:=e=.returned (.tuple #[.int .i64 ((st a 8).1:Int),.int .i64 ((st a 8).2:Int)])
theorem qZ(a0 a1 a2 a3 a4 a5 a6 a7:Nat)(w:World):
  Calls Tryz.prog 54 #[.agg #[.int .u16 a0,.int .u16 a1,.int .u16 a2,.int .u16 a3,.int .u16 a4,.int .u16 a5,.int .u16 a6,.int .u16 a7]] w fun e W'=>G2 [a0,a1,a2,a3,a4,a5,a6,a7] e∧Below w.heap.size w W':=by
 have HB0:Hid (Below w.heap.size w (w.alloc (.cells #[.int .u16 a0,.int .u16 a1,.int .u16 a2,.int .u16 a3,.int .u16 a4,.int .u16 a5,.int .u16 a6,.int .u16 a7] 24))):=(Below.refl _ w).alloc (Nat.le_refl _) _;have HZ0:Hid ((w.alloc (.cells #[.int .u16 a0,.int .u16 a1,.int .u16 a2,.int .u16 a3,.int .u16 a4,.int .u16 a5,.int .u16 a6,.int .u16 a7] 24)).heap.size=w.heap.size+1):=by show _=_;simp
 have HCL:=hid (AF a0 a1 a2 a3 a4 a5 a6 a7);have HA0:Hid (∀ W,Below (w.heap.size+1) (w.alloc (.cells #[.int .u16 a0,.int .u16 a1,.int .u16 a2,.int .u16 a3,.int .u16 a4,.int .u16 a5,.int .u16 a6,.int .u16 a7] 24)) W→W.heap[w.heap.size]? = some (.cells (ak [a0,a1,a2,a3,a4,a5,a6,a7]).toArray 24 (0,0))):=fun W h=>(h.block _ (by omega)).trans (bY w _ _)
 have HL8:Hid ([a0,a1,a2,a3,a4,a5,a6,a7].length=8):=rfl;have hlen8:[a0,a1,a2,a3,a4,a5,a6,a7].length=8:=rfl;obtain⟨a,ha⟩:∃ a,[a0,a1,a2,a3,a4,a5,a6,a7]=a:=⟨_,rfl⟩;have HLIT:Hid ((ak a).toArray=#[.int .u16 a0,.int .u16 a1,.int .u16 a2,.int .u16 a3,.int .u16 a4,.int .u16 a5,.int .u16 a6,.int .u16 a7]):=by show _=_;rw[←ha];rfl
 have HGA:Hid (a[0]?.getD 0=a0∧a[1]?.getD 0=a1∧a[2]?.getD 0=a2∧a[3]?.getD 0=a3∧a[4]?.getD 0=a4∧a[5]?.getD 0=a5∧a[6]?.getD 0=a6∧a[7]?.getD 0=a7):=by rw[←ha];exact⟨rfl,rfl,rfl,rfl,rfl,rfl,rfl,rfl⟩
 rw[ha]at HCL HA0 HL8 ⊢;have HS0:Hid (st a 0=(0,0)):=rfl;have HSB:=hid (Hd a HL8.out);clear ha hlen8;go_enter Tryz.func54,Tryz.ntmps54
 go_wp2_with fail;obtain⟨w1,hw1⟩:∃ w1,w.alloc (.cells #[.int .u16 a0,.int .u16 a1,.int .u16 a2,.int .u16 a3,.int .u16 a4,.int .u16 a5,.int .u16 a6,.int .u16 a7] 24)=w1:=⟨_,rfl⟩;rw[hw1]at HB0 HZ0 HA0 ⊢;obtain⟨arg,harg⟩:∃ v:Value,Value.agg #[.int .u16 a0,.int .u16 a1,.int .u16 a2,.int .u16 a3,.int .u16 a4,.int .u16 a5,.int .u16 a6,.int .u16 a7]=v:=⟨_,rfl⟩;rw[harg];clear hw1 harg
 go_step3
 go_wp2_with fail
 go_step3
 go_wp2_with fail
 go_loopw [2,3,6] (fun v2 v3 v6 wr=>∃(i f m:Nat),i≤8∧f≤8∧m≤8∧v2=.int .i64 (f:Int)∧v3=.int .i64 (m:Int)∧v6=.int .i64 (i:Int)∧Hid (st a i=(f,m))∧Hid (Below w1.heap.size w1 wr)) (fun _ _ v6 _=>8 - (intOf v6).toNat)
 case atStart=>exact⟨0,0,0,by omega,by omega,by omega,rfl,rfl,rfl,HS0,Below.refl _ _⟩
 case round =>
  obtain⟨i,f,m,hi,hf,hm,rfl,rfl,rfl,HS,HB⟩:=hrel;by_cases hlt:i<8
  ·have hltz:(i:Int)<8:=by omega
   go_wp2_with fail;have HU0:Hid (up a i 2=(f,m)):=(xD a i).trans HS.out;have hzr:=tJ a i;rw[HL8.out]at hzr
   go_loopw [2,3,5] (fun v2 v3 v5 wq=>∃(n p q:Nat),2≤n∧i+n≤9∧p≤8∧q≤8∧v2=.int .i64 (p:Int)∧v3=.int .i64 (q:Int)∧v5=.int .i64 (n:Int)∧Hid (up a i n=(p,q))∧Hid (n=2∨n - 1≤zr a i)∧Hid (Below w1.heap.size w1 wq)) (fun _ _ v5 _=>10 - (intOf v5).toNat)
   case atStart=>exact⟨2,f,m,by omega,by omega,hf,hm,rfl,rfl,rfl,HU0,.inl rfl,HB⟩
   case round =>
    obtain⟨n,p,q,hn2,hn9,hp,hq,rfl,rfl,rfl,HU,HN,HBq⟩:=hrel;by_cases hr:i+n≤8
    ·have hrz:(i:Int)+(n:Int)≤8:=by omega
     have hne:Nonempty (aE wr):=⟨⟨wr,Below.refl _ _⟩⟩
     have HAx:Hid (∀ x:aE wr,x.W.heap[w.heap.size]? = some (.cells (ak a).toArray 24 (0,0))):=fun x=>HA0.out x.W (by
       have h1:=HBq.out
       have h2:=x.h
       have hz:=HZ0.out
       rw[hz]at h1
       exact h1.trans (h2.mono (by have:=h1.size;omega)))
     have cel:∀(j v:Nat),j<8→a[j]?.getD 0=v→∀ x:aE wr,x.W.cell? ⟨w.heap.size,j,none⟩=some (.int .u16 (v:Int)):=fun j v hj hv x=>by rw[cg (HAx.out x) (by rw[HL8.out];exact hj),hv]
     obtain⟨q0,q1,q2,q3,q4,q5,q6,q7⟩:=HGA.out;have ya0:=cel 0 a0 (by omega) q0;have ya1:=cel 1 a1 (by omega) q1;have ya2:=cel 2 a2 (by omega) q2;have ya3:=cel 3 a3 (by omega) q3;have ya4:=cel 4 a4 (by omega) q4;have ya5:=cel 5 a5 (by omega) q5;have ya6:=cel 6 a6 (by omega) q6;have ya7:=cel 7 a7 (by omega) q7;have HKC:=hid (fun W=>HCL.out i n hr W);have HCLR:=hid (AD HL8.out hr (AE a HL8.out i n));have HCLN:=hid (mV a i n);have HZA:=hid (EW (a:=a) (i:=i) (n:=n) HL8.out hr);obtain⟨X,hX⟩:∃ X,r8 a i n=X:=⟨_,rfl⟩;rw[hX]at HKC HCLR HCLN;have HKB:Hid (∀ x:aE wr,Below w1.heap.size w1 x.W):=fun x=>HBq.out.trans (x.h.mono HBq.out.size)
     clear cel q0 q1 q2 q3 q4 q5 q6 q7 hX HAx;by_cases hz:n≤zr a i
     ·have hXa:X=a:=HCLR.out.2 (HZA.out.1 hz)
      have hnq:∀ W,(binOp .neq 24 (.agg (ak X).toArray) (.agg #[.int .u16 a0,.int .u16 a1,.int .u16 a2,.int .u16 a3,.int .u16 a4,.int .u16 a5,.int .u16 a6,.int .u16 a7])).run Tryz.prog W=.ok (.bool false) W:=fun W=>by
       rw[←HLIT.out];exact uB HCLN.out HL8.out false (by rw[decide_eq_true hXa];rfl) W
      have HUM:=hid (By (a:=a) (i:=i) hn2);rw[HU.out]at HUM;have HN2:Hid (n+1=2∨n+1 - 1≤zr a i):=.inr hz;clear hXa HCLR HZA HU HN hz
      go_wp2_with fail;refine ay (by kernel_rfl) (by kernel_rfl) ?_
      repeat (go_big_quiet_step ((go_at_call 94;exact aE.call _ (HKC.out _))))
      refine wpQuiet_nil ?_;rintro _ ⟨x,rfl⟩
      have HBX:=hid (HKB.out x);obtain⟨w4,hw4⟩:∃ w4,w4=x.W:=⟨_,rfl⟩;rw[←hw4]at HBX ⊢;clear hw4 x hne HKC HKB ya0 ya1 ya2 ya3 ya4 ya5 ya6 ya7 hnq;by_cases hq:q<n
      ·have hqz:(q:Int)<(n:Int):=by omega
       have HU2:Hid (up a i (n+1)=(i,n)):=by show _=_;rw[HUM.out,if_pos hq]
       clear HUM
       go_wp2_with fail
       go_roundw
       case rel=>exact⟨n+1,i,n,by omega,by omega,by omega,by omega,rfl,rfl,by go_num,HU2,HN2,HBX⟩
       case measure=>simp[intOf];omega
      ·have hqz:¬ (q:Int)<(n:Int):=by omega
       have HU2:Hid (up a i (n+1)=(p,q)):=by show _=_;rw[HUM.out,if_neg hq]
       clear HUM
       go_wp2_with fail
       go_roundw
       case rel=>exact⟨n+1,p,q,by omega,by omega,by omega,by omega,rfl,rfl,by go_num,HU2,HN2,HBX⟩
       case measure=>simp[intOf];omega
     ·have hXa:X≠a:=fun e=>hz (HZA.out.2 (HCLR.out.1 e))
      have hnq:∀ W,(binOp .neq 24 (.agg (ak X).toArray) (.agg #[.int .u16 a0,.int .u16 a1,.int .u16 a2,.int .u16 a3,.int .u16 a4,.int .u16 a5,.int .u16 a6,.int .u16 a7])).run Tryz.prog W=.ok (.bool true) W:=fun W=>by
       rw[←HLIT.out];exact uB HCLN.out HL8.out true (by rw[decide_eq_false hXa];rfl) W
      have HS2:Hid (st a (i+1)=(p,q)):=by show _=_;rw[←xF hn2 HN.out (by omega)];exact HU.out
      clear hXa HCLR HZA HU HN hz
      go_wp2_with fail;refine ay (by kernel_rfl) (by kernel_rfl) ?_
      repeat (go_big_quiet_step ((go_at_call 94;exact aE.call _ (HKC.out _))))
      refine wpQuiet_nil ?_;rintro _ ⟨x,rfl⟩
      have HBX:=hid (HKB.out x);obtain⟨w4,hw4⟩:∃ w4,w4=x.W:=⟨_,rfl⟩;rw[←hw4]at HBX ⊢;clear hw4 x hne HKC HKB ya0 ya1 ya2 ya3 ya4 ya5 ya6 ya7 hnq
      go_wp2_with fail
      go_roundw
      case rel=>exact⟨i+1,p,q,by omega,hp,hq,rfl,rfl,by go_num,HS2,HBX⟩
      case measure=>simp[intOf];omega
    ·have hrz:¬ (i:Int)+(n:Int)≤8:=by omega
     have HS2:Hid (st a (i+1)=(p,q)):=by show _=_;rw[←xF hn2 HN.out (by omega)];exact HU.out
     clear HU HN
     go_wp2_with fail
     go_roundw
     case rel=>exact⟨i+1,p,q,by omega,hp,hq,rfl,rfl,by go_num,HS2,HBq⟩
     case measure=>simp[intOf];omega
  ·have hi8:i=8:=by omega
   have HR:Hid (G2 a (.returned (.tuple #[.int .i64 (f:Int),.int .i64 (m:Int)]))):=by
    show _=_
    have:=HS.out;rw[hi8]at this;rw[this]
   have HBF:=hid (HB0.out.trans (HB.out.mono HB0.out.size));have hltz:¬ (i:Int)<8:=by omega
   clear hi8 HS
   go_wp2_with fail
   go_ret2;exact⟨HR.out,HBF.out⟩
theorem ra(a:List Nat)(h8:a.length=8)(w:World):Calls Tryz.prog 54 #[.agg (ak a).toArray] w fun e W'=>G2 a e∧Below w.heap.size w W':=by
 obtain⟨a0,a1,a2,a3,a4,a5,a6,a7,rfl⟩:=wj h8;exact qZ a0 a1 a2 a3 a4 a5 a6 a7 w
theorem E5{a:List Nat}(h8:a.length=8):((st a 8).2=0∧txt a=tl a 0 8)∨(∃ p m:Nat,st a 8=(p,m)∧2≤m∧p+m≤8∧txt a=tl a 0 p++[58,58]++tl a (p+m) 8):=by
 rcases oO h8 with⟨h1,h2,_⟩ | ⟨p,m,h1,h2,h3,h4,_,h5⟩
 ·left
  refine⟨by unfold st;rw[h1,if_pos (by decide)],?_⟩;rw[h2];unfold tl;rw[List.take_of_length_le (by omega),List.drop_zero]
 ·right
  refine⟨p,m,by unfold st;rw[h1,h2,if_neg (by omega),Int.toNat_natCast],h3,h4,?_⟩;rw[h5];unfold tl;rw[List.drop_zero,List.take_of_length_le (by omega:a.length≤8)];simp
theorem xV{a:List Nat}(hs:Small a)(f n:Nat):∀ x∈tl a f n,0≤x∧x≤255:=by
 have key:∀ ps:List (List Int),(∀ p∈ps,∀ x∈p,0≤x∧x≤255)→∀ x∈aD 58 ps,0≤x∧x≤255:=by
  intro ps
  induction ps with
  | nil=>intro _ x hx;cases hx
  | cons p r ih =>
   intro h x hx
   cases r with
   | nil=>exact h p (by simp) x hx
   | cons q s =>
    have hx':x∈p++58::aD 58 (q::s):=hx;rcases List.mem_append.1 hx' with h1 | h1
    ·exact h p (by simp) x h1
    ·rcases List.mem_cons.1 h1 with rfl | h1
     ·decide
     ·exact ih (fun p hp=>h p (List.mem_cons_of_mem _ hp)) x h1
 refine key _ (fun p hp x hx=>?_);obtain⟨v,hv,rfl⟩:=List.mem_map.1 hp;exact iZ (hs v (List.mem_of_mem_take (List.mem_of_mem_drop hv))) x hx
theorem jg(a0 a1 a2 a3 a4 a5 a6 a7:Nat)(hs:Small [a0,a1,a2,a3,a4,a5,a6,a7])(w:World)(hT:Tab w):
  Calls Tryz.prog 30 #[.agg #[.int .u16 a0,.int .u16 a1,.int .u16 a2,.int .u16 a3,.int .u16 a4,.int .u16 a5,.int .u16 a6,.int .u16 a7]] w fun e W'=>ia [a0,a1,a2,a3,a4,a5,a6,a7] w e W':=by
 have HB0:Hid (Below w.heap.size w (w.alloc (.cells #[.int .u16 a0,.int .u16 a1,.int .u16 a2,.int .u16 a3,.int .u16 a4,.int .u16 a5,.int .u16 a6,.int .u16 a7] 24))):=(Below.refl _ w).alloc (Nat.le_refl _) _;have HZ0:Hid ((w.alloc (.cells #[.int .u16 a0,.int .u16 a1,.int .u16 a2,.int .u16 a3,.int .u16 a4,.int .u16 a5,.int .u16 a6,.int .u16 a7] 24)).heap.size=w.heap.size+1):=by show _=_;simp
 have HA0:Hid ((w.alloc (.cells #[.int .u16 a0,.int .u16 a1,.int .u16 a2,.int .u16 a3,.int .u16 a4,.int .u16 a5,.int .u16 a6,.int .u16 a7] 24)).heap[w.heap.size]? = some (.cells (ak [a0,a1,a2,a3,a4,a5,a6,a7]).toArray 24 (0,0))):=bY w _ _;have HL8:Hid ([a0,a1,a2,a3,a4,a5,a6,a7].length=8):=rfl;have hgT:=Lib.lt_of_cell (show w.cell? ⟨3,15,none⟩=some (.int .u8 4) from hT);have HT0:=hid (hT.below HB0.out (Nat.le_refl _));obtain⟨i0,hi0,hz0,hz1,hz2⟩:=info_parts zM;obtain⟨a,ha⟩:∃ a,[a0,a1,a2,a3,a4,a5,a6,a7]=a:=⟨_,rfl⟩;rw[ha]at HA0 HL8 hs ⊢;have HSM:=hid hs;have HTX:=hid (E5 HL8.out);have HLO:=hid (ra a HL8.out);have HMK:Hid (∀ t W,bn t=txt a→Below w.heap.size w W→ia a w (.returned (.string t)) W):=fun t W h hB=>⟨⟨t,rfl,h⟩,hB⟩
 have HTL:=hid (fun(base:Nat) (v:Value) (l:List Int) (f n:Nat) (hf:f≤n) (hn:n≤8)=>xX a HL8.out hs base v l f n hf hn);have HLN:=hid (xT HL8.out);have HBY:=hid (xV hs);have HT8:=hid (oP HL8.out);obtain⟨y,hy⟩:∃ y,txt a=y:=⟨_,rfl⟩;rw[hy]at HMK HTX HT8;clear ha hy hs;go_enter Tryz.func30,Tryz.ntmps30
 go_wp2_with((refine wpList_load_row rfl 24 (.tmp 1) rfl w.heap.size rfl 24 (ak a).toArray (0,0) _ HA0.out Tryz.underlying24 rfl (aH HL8.out) ?_))
 obtain⟨w1,hw1⟩:∃ w1,w.alloc (.cells #[.int .u16 a0,.int .u16 a1,.int .u16 a2,.int .u16 a3,.int .u16 a4,.int .u16 a5,.int .u16 a6,.int .u16 a7] 24)=w1:=⟨_,rfl⟩;rw[hw1]at HB0 HZ0 HA0 HT0 ⊢;obtain⟨arg,harg⟩:∃ v:Value,Value.agg #[.int .u16 a0,.int .u16 a1,.int .u16 a2,.int .u16 a3,.int .u16 a4,.int .u16 a5,.int .u16 a6,.int .u16 a7]=v:=⟨_,rfl⟩;rw[harg];clear hw1 harg;refine(HLO.out w1).mono ?_;rintro e w2 ⟨hlo,B2⟩
 have hlo2:e=.returned (.tuple #[.int .i64 ((st a 8).1:Int),.int .i64 ((st a 8).2:Int)]):=hlo;subst hlo2;have HB2:=hid (HB0.out.trans (B2.mono HB0.out.size));have HA2:Hid (w2.heap[w.heap.size]? = some (.cells (ak a).toArray 24 (0,0))):=(B2.block _ (by rw[HZ0.out];omega)).trans HA0.out;have HT2:=hid (HT0.out.below B2 (Nat.le_refl _));have hz2':w.heap.size+1≤w2.heap.size:=by have:=HZ0.out;have:=B2.size;omega
 clear B2 HLO hlo HA0 HB0 HT0 HZ0;rcases HTX.out with⟨hm0,hty⟩ | ⟨p,m,hst,hm2,hpm,hty⟩
 ·rw[hm0]
  obtain⟨k0,hk0⟩:∃ k0,(st a 8).1=k0:=⟨_,rfl⟩;rw[hk0];have HTY:=hid hty;have HTL8:=hid (HTL.out (w.heap.size+1) (.slice none 0 0) [] 0 8 (by omega) (by omega) w2 HT2.out (by omega) (by simp) (Bts.nilS _ _ _) hz2');clear hm0 hty hk0 HTL HTX
  go_wp2_with((refine wpList_load_row rfl 24 (.tmp 1) rfl w.heap.size rfl 24 (ak a).toArray (0,0) _ HA2.out Tryz.underlying24 rfl (aH HL8.out) ?_))
  refine HTL8.out.mono ?_;rintro e w3 ⟨v',rfl,h3,B3⟩
  rw[List.nil_append,←HTY.out]at h3;have hyne:y≠[]:=fun e=>by have:=HT8.out.1;rw[e]at this;simp at this
  obtain⟨g,c3,rfl,_,_,_,hcells⟩:=h3.there hyne;obtain⟨t,hcv3,ht⟩:=pV w3 g 0 y.length c3 y rfl (fun x hx=>HBY.out 0 8 x (by rw[←HTY.out];exact hx)) (fun j hj=>by rw[Nat.zero_add];exact hcells j hj);have HR:=hid (HMK.out t w3 ht (HB2.out.trans (B3.mono (by omega))));have hyl:=HT8.out.2;obtain⟨n3,hn3⟩:∃ n3,y.length=n3:=⟨_,rfl⟩;rw[hn3]at hcv3 hyl ⊢;clear hn3 h3 hcells ht B3 HTL8 HMK HTY hyne HT8;go_wp2;go_ret;exact HR.out
 ·rw[hst]
  have HTY:=hid hty;have hm0b:((m:Int)==0)=false:=by simp;omega
  have HTLp:=hid (HTL.out (w.heap.size+1) (.slice none 0 0) [] 0 p (by omega) (by omega) w2 HT2.out (by omega) (by simp) (Bts.nilS _ _ _) hz2');clear hst hty HTX
  go_wp2_with((refine wpList_load_row rfl 24 (.tmp 1) rfl w.heap.size rfl 24 (ak a).toArray (0,0) _ HA2.out Tryz.underlying24 rfl (aH HL8.out) ?_))
  refine HTLp.out.mono ?_;rintro e w3 ⟨v',rfl,h3,B3⟩
  rw[List.nil_append]at h3;have HB3:=hid (HB2.out.trans (B3.mono (by omega)));have HA3:Hid (w3.heap[w.heap.size]? = some (.cells (ak a).toArray 24 (0,0))):=(B3.block _ (by omega)).trans HA2.out;have HT3:=hid (HT2.out.at B3 (by omega));have hz3:w.heap.size+1≤w3.heap.size:=Nat.le_trans hz2' B3.size;have hlp:=HLN.out 0 p;have HO3:=hid h3;obtain⟨p3,n3,c3,rfl⟩:=h3.form;obtain⟨k,hk⟩:∃ k,p+m=k:=⟨_,rfl⟩;have hkz:(p:Int)+(m:Int)=(k:Int):=by omega
  rw[hk]at HTY hpm;clear B3 HTLp h3 HA2 HB2 HT2 hk
  go_wp2_with(first
    | (at_builtin;refine eS _ rfl _ _ 36 9 rfl (w.heap.size+1) 5 i0 Tryz.underlying36 Tryz.underlying9 hi0 hz0 hz1 hz2 _ (tl a 0 p) rfl HO3.out ⟨#[58,58]⟩ rfl (by have e:(⟨#[58,58]⟩:ByteArray).size=2:=rfl;omega) hz3 ?_;intro v4 w4 hown4 hgrow4;obtain⟨p4,n4,c4,rfl⟩:=hown4.form;have hA4:=(hgrow4.block _ (Nat.lt_of_lt_of_le (Nat.lt_succ_self _) hz3) (HO3.out.apart HA3.out (by decide))).trans HA3.out)
    | (refine wpList_load_row rfl 24 (.tmp 1) rfl w.heap.size rfl 24 (ak a).toArray (0,0) _ hA4 Tryz.underlying24 rfl (aH HL8.out) ?_))
  have hbz:bn ⟨#[58,58]⟩=[58,58]:=rfl;rw[hbz]at hown4;have HB4':=(Below.refl (w.heap.size+1) w3).grown hgrow4 hz3 (fun k hk=>(HO3.out.lt k hk).1);have HB4:=hid (HB3.out.trans (HB4'.mono (by omega)));have HT4:=hid (HT3.out.at HB4' (by omega));have hz4:w.heap.size+1≤w4.heap.size:=Nat.le_trans hz3 hgrow4.size;have HTLk:=hid (HTL.out (w.heap.size+1) _ (tl a 0 p++[58,58]) k 8 hpm (by omega) w4 HT4.out (by omega) (by rw[List.length_append];simp only[List.length_cons,List.length_nil];omega) hown4 hz4);clear hown4 hgrow4 HB4' HA3 HB3 HT3 HO3 HTL hA4;refine HTLk.out.mono ?_;rintro e w5 ⟨v5,rfl,h5,B5⟩
  rw[←HTY.out]at h5;have hyne:y≠[]:=fun e=>by have:=HT8.out.1;rw[e]at this;simp at this
  obtain⟨g,c5,rfl,_,_,_,hcells⟩:=h5.there hyne
  have hyb:∀ x∈y,0≤x∧x≤255:=fun x hx=>by
   rw[HTY.out]at hx;rcases List.mem_append.1 hx with hx | hx
   ·rcases List.mem_append.1 hx with hx | hx
    ·exact HBY.out _ _ x hx
    ·have:x=58:=by simpa using hx
     omega
   ·exact HBY.out _ _ x hx
  obtain⟨t,hcv3,ht⟩:=pV w5 g 0 y.length c5 y rfl hyb (fun j hj=>by rw[Nat.zero_add];exact hcells j hj);have HR:=hid (HMK.out t w5 ht (HB4.out.trans (B5.mono (by omega))));have hyl:=HT8.out.2;obtain⟨n5,hn5⟩:∃ n5,y.length=n5:=⟨_,rfl⟩;rw[hn5]at hcv3 hyl ⊢;clear hn5 h5 hcells ht B5 HTLk HMK HTY hyne HT8 hyb;go_wp2;go_ret;exact HR.out
theorem lI(a:List Nat)(h8:a.length=8)(hs:Small a)(w:World)(hT:Tab w):Calls Tryz.prog 30 #[.agg (ak a).toArray] w fun e W'=>ia a w e W':=by
 obtain⟨a0,a1,a2,a3,a4,a5,a6,a7,rfl⟩:=wj h8;exact jg a0 a1 a2 a3 a4 a5 a6 a7 hs w hT
end Go.Proofs.YtkekkbciiohbkaaGreatDoor.X
