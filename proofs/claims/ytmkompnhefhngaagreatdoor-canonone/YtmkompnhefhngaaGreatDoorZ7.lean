/- Contracts and plain facts. -/
import Derived.Test.YtmkompnhefhngaaGreatDoorZ6
import Derived.Deep.RegionHeld3
import Derived.Great.BuildSlice
import Derived.Laws.AppendOwn
import Derived.Lib.TrimUEq
import Derived.Shelf.Strings.MapGrows
import Derived.Shelf.Unicode.DecodeLast
import Derived.Shelf.Strings.AsciiSet
import Derived.Lib.TrimU
set_option maxRecDepth 100000
set_option maxHeartbeats 16000000
set_option linter.unusedVariables false
set_option linter.unnecessarySimpa false
open Nat (le_refl zero_le le_trans sub_zero zero_add)
open ByteArray (size_extract)
open List (getElem?_eq_getElem length_take drop_zero dropWhile_cons getElem?_map length_drop getElem?_eq_none mem_of_getElem? map_cons getElem?_cons_succ take_of_length_le map_take map_nil drop_drop)
open Bool (and_eq_true false_eq_true)
open Go.Lib (data_getElem?)
open Int (toNat_natCast)
open Go.World (cell?_of_block)
namespace Go.Proofs.YtmkompnhefhngaaGreatDoor
open Tryz Go.RowKit
namespace X
open F (hid)
def Clr(A X:List Nat)(f i:Nat):Prop:=X.length=8/\∀ j,X[j]?.getD 0=if f<=j/\j<f+i then 0 else A[j]?.getD 0
theorem Clr.start{A:List Nat}{f:Nat}(hA:A.length=8):Clr A A f 0:=⟨hA,fun j=>by rw[if_neg (by omega)]⟩
theorem Clr.step{A X:List Nat}{f i:Nat}(h:Clr A X f i)(hi:f+i<8):Clr A (X.set (f+i) 0) f (i+1):=by
 obtain⟨h8,h⟩:=h;refine⟨by rw[List.length_set];exact h8,fun j=>?_⟩;by_cases e:j=f+i
 ·rw[e,List.getElem?_set_self (by omega),if_pos (by omega)];rfl
 ·rw[List.getElem?_set_ne (by omega),h j];by_cases e2:f<=j/\j<f+i
  ·rw[if_pos e2,if_pos (by omega)]
  ·rw[if_neg e2,if_neg (by omega)]
theorem xe(a0 a1 a2 a3 a4 a5 a6 a7 f n:Nat)(hn:f+n<=8)(w:World):
  Calls prog 131 #[.agg #[.int .u16 a0,.int .u16 a1,.int .u16 a2,.int .u16 a3,.int .u16 a4,.int .u16 a5,.int .u16 a6,.int .u16 a7],.int .i64 (f:Int),.int .i64 (n:Int)] w fun e W'=>(∃ X,Clr [a0,a1,a2,a3,a4,a5,a6,a7] X f n/\e=.returned (.agg (av X).toArray))/\Below w.heap.size w W':=by
 obtain⟨w1,hw1⟩:=Ex' (w.alloc (.cells #[.int .u16 a0,.int .u16 a1,.int .u16 a2,.int .u16 a3,.int .u16 a4,.int .u16 a5,.int .u16 a6,.int .u16 a7] 25));obtain⟨w3,hw3⟩:=Ex' (w1.alloc (.cells #[.int .u16 0,.int .u16 0,.int .u16 0,.int .u16 0,.int .u16 0,.int .u16 0,.int .u16 0,.int .u16 0] 25));have hz1:w1.heap.size=w.heap.size+1:=by rw[<-hw1];simp
 have B1:Below w1.heap.size w1 w3:=by rw[<-hw3];exact(Below.refl _ _).alloc (le_refl _) _
 have HA:Hid (w3.heap[w.heap.size]? = some (.cells (av [a0,a1,a2,a3,a4,a5,a6,a7]).toArray 25 (0,0))):=by show _=_;rw[B1.block _ (by omega),<-hw1];exact ck w _ _
 have HR:Hid (w3.heap[w.heap.size+1]? = some (.cells (av z8).toArray 25 (0,0))):=by show _=_;rw[<-hw3,<-hz1];exact ck w1 _ _
 have HBW:Hid (Below w.heap.size w w3):=by
  have B0:Below w.heap.size w w1:=by rw[<-hw1];exact(Below.refl _ _).alloc (le_refl _) _
  exact B0.trans (B1.mono (by omega))
 have HW:Hid ((w.alloc (.cells #[.int .u16 a0,.int .u16 a1,.int .u16 a2,.int .u16 a3,.int .u16 a4,.int .u16 a5,.int .u16 a6,.int .u16 a7] 25)).alloc (.cells #[.int .u16 0,.int .u16 0,.int .u16 0,.int .u16 0,.int .u16 0,.int .u16 0,.int .u16 0,.int .u16 0] 25)=w3):=by show _=_;rw[hw1,hw3]
 clear hw1 hw3 B1 hz1;have hlA:[a0,a1,a2,a3,a4,a5,a6,a7].length=8:=rfl;obtain⟨A,hA⟩:=Ex' ([a0,a1,a2,a3,a4,a5,a6,a7]);rw[hA]at hlA HA ⊢;have HST:=hid (Clr.start (f:=f) hlA);clear hA hlA;go_enter func131,ntmps131;go_wp2_with fail;rw[HW.out];obtain⟨arg,harg⟩:=Ex' (Value.agg #[.int .u16 a0,.int .u16 a1,.int .u16 a2,.int .u16 a3,.int .u16 a4,.int .u16 a5,.int .u16 a6,.int .u16 a7]:Value);rw[harg];clear HW harg
 go_loopw [9] (fun v9 wr=>∃(i:Nat) (X:List Nat),i<=n/\v9=.int .i64 (i:Int)/\Hid (Clr A X f i)/\Hid (wr.heap[w.heap.size]? = some (.cells (av X).toArray 25 (0,0)))/\Hid (wr.heap[w.heap.size+1]? = some (.cells (av z8).toArray 25 (0,0)))/\Hid (Below w.heap.size w wr)) (fun v9 _=>n - (intOf v9).toNat)
 case atStart=>exact⟨0,A,by omega,rfl,HST,HA,HR,HBW⟩
 case round =>
  obtain⟨i,X,hi,rfl,HE,HA,HR,HBW⟩:=hrel;have HXL:=hid HE.out.1;by_cases hlt:i<n
  ·have hltz:(i:Int)<(n:Int):=by omega
   have HE2:=hid (HE.out.step (by omega));obtain⟨k,hk⟩:=Ex' (f+i);have hkz:(f:Int)+(i:Int)=(k:Int):=by omega
   have hk8:k<8:=by omega
   have hk8z:(k:Int)<8:=by omega
   rw[hk]at HE2;have hdst:=cD HA.out (j:=k) (by rw[HXL.out];exact hk8);have hfz:=frozen_of_row wr w.heap.size k _ _ HA.out;have HA2:Hid ((wr.setCell ⟨w.heap.size,k,none⟩ (.int .u16 ((0:Nat):Int))).heap[w.heap.size]? = some (.cells (av (X.set k 0)).toArray 25 (0,0))):=by show _=_;rw[heap_setCell_same wr _ k _ _ _ HA.out,nr]
   have HR2:Hid ((wr.setCell ⟨w.heap.size,k,none⟩ (.int .u16 ((0:Nat):Int))).heap[w.heap.size+1]? = some (.cells (av z8).toArray 25 (0,0))):=(heap_setCell_other wr _ _ _ (by simp)).trans HR.out;have HW2:=hid (HBW.out.setCell (p:=⟨w.heap.size,k,none⟩) (le_refl _) (.int .u16 ((0:Nat):Int)));clear HE hk;go_wp2_with fail
   go_roundw
   case rel=>exact⟨i+1,X.set k 0,by omega,by go_num,HE2,HA2,HR2,HW2⟩
   case measure=>simp[intOf];omega
  ·have hiq:i=n:=by omega
   have hltz:¬ (i:Int)<(n:Int):=by omega
   have HE2:Hid (Clr A X f n):=by rw[hiq]at HE;exact HE
   clear HE hiq
   go_wp2_with(first
     | (refine wpList_load_row rfl 25 (.tmp 3) rfl w.heap.size rfl 25 (av X).toArray (0,0) _ HA.out underlying25 rfl (aW HXL.out) ?_)
     | (refine wpList_store_row rfl 25 (.tmp 6) (.tmp 17) rfl (w.heap.size+1) (av X).toArray rfl rfl 25 (av z8).toArray HR.out (aW HXL.out) ((cq rfl).trans (cq HXL.out).symm) (ib X) ?_))
   exact bodyPost_ret (results_cell_row results131 _ _ (w.heap.size+1) 25 (av X).toArray (0,0) _ rfl (aA HR.out) underlying25 rfl (aW HXL.out)) rfl ⟨⟨X,HE2.out,rfl⟩,ai HBW.out (by omega) _⟩
theorem IX{A X:List Nat}{f n:Nat}(hA:A.length=8)(hn:f+n<=8)(h:Clr A X f n):X=A↔∀ j,f<=j->j<f+n->nv A j=0:=by
 have hv:∀ j,j<8->nv A j=A[j]?.getD 0:=fun j hj=>by unfold nv;rw[getElem?_eq_getElem (by omega)];rfl
 constructor
 ·intro e j h1 h2;have:=h.2 j;rw[e,if_pos ⟨h1,h2⟩]at this;rw[hv j (by omega)];exact this
 ·intro hz;refine MN h.1 hA (fun j hj=>?_);rw[h.2 j];split
  ·rename_i hj2;rw[<-hv j hj,hz j hj2.1 hj2.2]
  ·rfl
def st(a:List Nat)(i:Nat):Nat×Nat:=if (bs a i).1<0 then (0,0) else ((bs a i).1.toNat,(bs a i).2)
theorem Rc(a:List Nat)(h8:a.length=8)(i:Nat)(hi:i<=8):(st a i).1<=8/\(st a i).2<=8/\((st a i).2=0\/2<=(st a i).2)/\(st a i).1+(st a i).2<=8:=by
 unfold st;rcases tN a i with⟨h1,h2,_⟩ | ⟨p,h0,h1,h2,h3⟩
 ·rw[h1,if_pos (by decide)];simp
 ·have:=zv a p;rw[h1,h2,if_neg (by omega)];simp only[toNat_natCast];omega
theorem Kl(a:List Nat)(i:Nat):st a (i+1)=if (st a i).2<zr a i/\2<=zr a i then (i,zr a i) else st a i:=by
 unfold st;rw[bs];rcases tN a i with⟨h1,h2,h3⟩ | ⟨p,h0,h1,h2,h3⟩
 ·rw[h1,h2,if_pos (show(-1:Int)<0 by decide)];by_cases h:1<zr a i
  ·rw[if_pos h,if_neg (by simp),if_pos ⟨by simp;omega,by omega⟩];simp
  ·rw[if_neg h,h1,if_pos (by decide),if_neg (by omega)]
 ·rw[h1,h2,if_neg (show ¬ ((p:Int)<0) by omega)];by_cases h:zr a p<zr a i
  ·rw[if_pos h,if_neg (by simp),if_pos ⟨h,by omega⟩];simp
  ·rw[if_neg h,h1,h2,if_neg (by omega),if_neg (fun hh=>h hh.1)]
theorem Oh{a:List Nat}{i n:Nat}(h8:a.length=8)(hn:i+n<=8):n<=zr a i↔∀ j,i<=j->j<i+n->nv a j=0:=by
 constructor
 ·intro h j h1 h2;have:=zq (a:=a) (i:=i) (j:=j - i) (by omega)
  rwa [show i+(j - i)=j by omega]at this
 ·intro h;by_cases hle:n<=zr a i
  ·exact hle
  ·exfalso;have hz:=zv a i;have h1:nv a (i+zr a i)=0:=h _ (by omega) (by omega)
   -- the row ends where something else stands
   have h2:zr a i=zr a i+1:=by
    have key:∀(l:List Nat),(l.takeWhile (fun v=>decide (v=0))).length<l.length->nv l (l.takeWhile (fun v=>decide (v=0))).length≠0:=by
     intro l
     induction l with
     | nil=>intro h;simp at h
     | cons v l ih =>
      intro hl;by_cases hv:v=0
      ·rw[List.takeWhile_cons_of_pos (by simpa using hv)]at hl ⊢;simp only[List.length_cons]at hl ⊢;have:=ih (by omega);simpa[nv]using this
      ·rw[List.takeWhile_cons_of_neg (by simpa using hv)];simpa[nv]using hv
    have h3:=key (a.drop i) (by rw[length_drop];unfold zr at hle;omega);rw[mU]at h3;exact absurd h1 h3
   omega
def up(a:List Nat)(i n:Nat):Nat×Nat:=if (st a i).2<n - 1/\2<=n - 1 then (i,n - 1) else st a i
theorem Eb(a:List Nat)(i:Nat):up a i 2=st a i:=by unfold up;rw[if_neg (by omega)]
theorem JW{a:List Nat}{i n:Nat}(hn:2<=n):up a i (n+1)=if (up a i n).2<n then (i,n) else up a i n:=by
 unfold up;simp only[Nat.add_sub_cancel];by_cases h:(st a i).2<n - 1/\2<=n - 1
 ·rw[if_pos h,if_pos ⟨by omega,hn⟩,if_pos (by show n - 1<n;omega)]
 ·rw[if_neg h];by_cases h2:(st a i).2<n
  ·rw[if_pos ⟨h2,hn⟩,if_pos h2]
  ·rw[if_neg (fun hh=>h2 hh.1),if_neg h2]
theorem Ec{a:List Nat}{i n:Nat}(hn:2<=n)(h1:n=2\/n - 1<=zr a i)(h2:zr a i<n):up a i n=st a (i+1):=by
 rw[Kl];unfold up;rcases h1 with rfl | h1
 ·rw[if_neg (by omega),if_neg (by omega)]
 ·have e:zr a i=n - 1:=by omega
  rw[e]
structure aI(w:World) where
 W:World
 h:Below w.heap.size w W
theorem az{P:Program}{id:Nat}{Q:Exit->Act->World->Prop}{a:Act}{w:World}{l:List Oper}(hm:P.follows .mixedOrders=true)(hB:Region.lexB .any l.toArray=true)
  (h:wpQuiet P l.toArray (fun w'=>∃ x:aI w,w'=x.W) (fun a'=>∀ w',(∃ x:aI w,w'=x.W)->Q .normal a' w') l a):(Code.region id l.toArray true).wp P Q a w :=
 wp_region_quiet (C:=fun w'=>∃ x:aI w,w'=x.W) hm hB ⟨⟨{ w with drawn:=w.drawn+1 },⟨rfl,rfl,rfl,le_refl _,fun _ _=>rfl⟩⟩,rfl⟩ (by simpa using h)
theorem aI.call{w:World}{f:FuncId}{args:Array Value}{v:Value}(x:aI w)(h:Calls prog f args x.W fun e w'=>e=.returned v/\Below x.W.heap.size x.W w'):Calls prog f args x.W fun e w'=>e=.returned v/\∃ y:aI w,w'=y.W :=
 h.mono fun _ w' ⟨he,hb⟩=>⟨he,⟨w',x.h.trans (hb.mono x.h.size)⟩,rfl⟩
def xc(A:List Nat)(f n:Nat):List Nat:=(List.range 8).map (fun j=>if f<=j/\j<f+n then 0 else A[j]?.getD 0)
theorem qd(A:List Nat)(f n:Nat):(xc A f n).length=8:=by unfold xc;simp
theorem Nd{A X:List Nat}{f n:Nat}(h:Clr A X f n):X=xc A f n:=by refine MN h.1 (qd A f n) (fun j hj=>?_);rw[h.2 j];unfold xc;rw[getElem?_map,List.getElem?_range hj];rfl
theorem IY(A:List Nat)(hA:A.length=8)(f n:Nat):Clr A (xc A f n) f n:=by
 refine⟨qd A f n,fun j=>?_⟩;unfold xc;by_cases hj:j<8
 ·rw[getElem?_map,List.getElem?_range hj];rfl
 ·rw[getElem?_eq_none (by simp;omega),getElem?_eq_none (by omega)];simp
theorem Ja(a0 a1 a2 a3 a4 a5 a6 a7 f n:Nat)(hn:f+n<=8)(w:World):
  Calls prog 131 #[.agg #[.int .u16 a0,.int .u16 a1,.int .u16 a2,.int .u16 a3,.int .u16 a4,.int .u16 a5,.int .u16 a6,.int .u16 a7],.int .i64 (f:Int),.int .i64 (n:Int)] w fun e W'=>e=.returned (.agg (av (xc [a0,a1,a2,a3,a4,a5,a6,a7] f n)).toArray)/\Below w.heap.size w W' :=
 (xe a0 a1 a2 a3 a4 a5 a6 a7 f n hn w).mono (by
   rintro e W' ⟨⟨X,h,rfl⟩,hB⟩
   rw[Nd h];exact⟨rfl,hB⟩)
theorem Ah{X Y:List Nat}(hX:X.length=8)(hY:Y.length=8)(b:Bool)(hb:decide (X=Y)=!b)(W:World):(binOp .neq 25 (.agg (av X).toArray) (.agg (av Y).toArray)).run prog W=.ok (.bool b) W:=by
 rw[run_neq_struct,eq8 9998 _ _ (fun i=>((X[i]?.getD 0:Nat):Int)) (fun i=>((Y[i]?.getD 0:Nat):Int)) (Ed hX) (Ed hY)]
 have h:(List.range 8).all (fun i=>((X[i]?.getD 0:Nat):Int)==((Y[i]?.getD 0:Nat):Int))=decide (X=Y):=by
  rw[Bool.eq_iff_iff,List.all_eq_true,decide_eq_true_iff];constructor
  ·intro h
   exact MN hX hY (fun j hj=>by
     have:=h j (List.mem_range.2 hj)
     exact Int.ofNat.inj (eq_of_beq this))
  ·intro h i _;rw[h];simp
 rw[h,hb];cases b <;> rfl
def QK(a:List Nat)(e:Ending):Prop:=e=.returned (.tuple #[.int .i64 ((st a 8).1:Int),.int .i64 ((st a 8).2:Int)])
theorem vK(a0 a1 a2 a3 a4 a5 a6 a7:Nat)(w:World):
  Calls prog 71 #[.agg #[.int .u16 a0,.int .u16 a1,.int .u16 a2,.int .u16 a3,.int .u16 a4,.int .u16 a5,.int .u16 a6,.int .u16 a7]] w fun e W'=>QK [a0,a1,a2,a3,a4,a5,a6,a7] e/\Below w.heap.size w W':=by
 have HB0:Hid (Below w.heap.size w (w.alloc (.cells #[.int .u16 a0,.int .u16 a1,.int .u16 a2,.int .u16 a3,.int .u16 a4,.int .u16 a5,.int .u16 a6,.int .u16 a7] 25))):=(Below.refl _ w).alloc (le_refl _) _;have HZ0:Hid ((w.alloc (.cells #[.int .u16 a0,.int .u16 a1,.int .u16 a2,.int .u16 a3,.int .u16 a4,.int .u16 a5,.int .u16 a6,.int .u16 a7] 25)).heap.size=w.heap.size+1):=by show _=_;simp
 have HCL:=hid (Ja a0 a1 a2 a3 a4 a5 a6 a7);have HA0:Hid (∀ W,Below (w.heap.size+1) (w.alloc (.cells #[.int .u16 a0,.int .u16 a1,.int .u16 a2,.int .u16 a3,.int .u16 a4,.int .u16 a5,.int .u16 a6,.int .u16 a7] 25)) W->W.heap[w.heap.size]? = some (.cells (av [a0,a1,a2,a3,a4,a5,a6,a7]).toArray 25 (0,0))):=fun W h=>(h.block _ (by omega)).trans (ck w _ _);have HL8:Hid ([a0,a1,a2,a3,a4,a5,a6,a7].length=8):=rfl;have hlen8:[a0,a1,a2,a3,a4,a5,a6,a7].length=8:=rfl;obtain⟨a,ha⟩:=Ex' ([a0,a1,a2,a3,a4,a5,a6,a7]);have HLIT:Hid ((av a).toArray=#[.int .u16 a0,.int .u16 a1,.int .u16 a2,.int .u16 a3,.int .u16 a4,.int .u16 a5,.int .u16 a6,.int .u16 a7]):=by show _=_;rw[<-ha];rfl
 have HGA:Hid (a[0]?.getD 0=a0/\a[1]?.getD 0=a1/\a[2]?.getD 0=a2/\a[3]?.getD 0=a3/\a[4]?.getD 0=a4/\a[5]?.getD 0=a5/\a[6]?.getD 0=a6/\a[7]?.getD 0=a7):=by rw[<-ha];exact⟨rfl,rfl,rfl,rfl,rfl,rfl,rfl,rfl⟩
 rw[ha]at HCL HA0 HL8 ⊢;have HS0:Hid (st a 0=(0,0)):=rfl;have HSB:=hid (Rc a HL8.out);clear ha hlen8;go_enter func71,ntmps71;go_wp2_with fail;obtain⟨w1,hw1⟩:=Ex' (w.alloc (.cells #[.int .u16 a0,.int .u16 a1,.int .u16 a2,.int .u16 a3,.int .u16 a4,.int .u16 a5,.int .u16 a6,.int .u16 a7] 25));rw[hw1]at HB0 HZ0 HA0 ⊢;obtain⟨arg,harg⟩:=Ex' (Value.agg #[.int .u16 a0,.int .u16 a1,.int .u16 a2,.int .u16 a3,.int .u16 a4,.int .u16 a5,.int .u16 a6,.int .u16 a7]:Value);rw[harg];clear hw1 harg;go_step3;go_wp2_with fail;go_step3;go_wp2_with fail
 go_loopw [2,3,6] (fun v2 v3 v6 wr=>∃(i f m:Nat),i<=8/\f<=8/\m<=8/\v2=.int .i64 (f:Int)/\v3=.int .i64 (m:Int)/\v6=.int .i64 (i:Int)/\Hid (st a i=(f,m))/\Hid (Below w1.heap.size w1 wr)) (fun _ _ v6 _=>8 - (intOf v6).toNat)
 case atStart=>exact⟨0,0,0,by omega,by omega,by omega,rfl,rfl,rfl,HS0,Below.refl _ _⟩
 case round =>
  obtain⟨i,f,m,hi,hf,hm,rfl,rfl,rfl,HS,HB⟩:=hrel;by_cases hlt:i<8
  ·have hltz:(i:Int)<8:=by omega
   go_wp2_with fail;have HU0:Hid (up a i 2=(f,m)):=(Eb a i).trans HS.out;have hzr:=zv a i;rw[HL8.out]at hzr
   go_loopw [2,3,5] (fun v2 v3 v5 wq=>∃(n p q:Nat),2<=n/\i+n<=9/\p<=8/\q<=8/\v2=.int .i64 (p:Int)/\v3=.int .i64 (q:Int)/\v5=.int .i64 (n:Int)/\Hid (up a i n=(p,q))/\Hid (n=2\/n - 1<=zr a i)/\Hid (Below w1.heap.size w1 wq)) (fun _ _ v5 _=>10 - (intOf v5).toNat)
   case atStart=>exact⟨2,f,m,by omega,by omega,hf,hm,rfl,rfl,rfl,HU0,.inl rfl,HB⟩
   case round =>
    obtain⟨n,p,q,hn2,hn9,hp,hq,rfl,rfl,rfl,HU,HN,HBq⟩:=hrel;by_cases hr:i+n<=8
    ·have hrz:(i:Int)+(n:Int)<=8:=by omega
     have hne:Nonempty (aI wr):=⟨⟨wr,Below.refl _ _⟩⟩
     have HAx:Hid (∀ x:aI wr,x.W.heap[w.heap.size]? = some (.cells (av a).toArray 25 (0,0))):=fun x=>HA0.out x.W (by
       have h1:=HBq.out
       have h2:=x.h
       have hz:=HZ0.out
       rw[hz]at h1
       exact h1.trans (h2.mono (by have:=h1.size;omega)))
     have cel:∀(j v:Nat),j<8->a[j]?.getD 0=v->∀ x:aI wr,x.W.cell? ⟨w.heap.size,j,none⟩=some (.int .u16 (v:Int)):=fun j v hj hv x=>by rw[cD (HAx.out x) (by rw[HL8.out];exact hj),hv]
     obtain⟨q0,q1,q2,q3,q4,q5,q6,q7⟩:=HGA.out;have ya0:=cel 0 a0 (by omega) q0;have ya1:=cel 1 a1 (by omega) q1;have ya2:=cel 2 a2 (by omega) q2;have ya3:=cel 3 a3 (by omega) q3;have ya4:=cel 4 a4 (by omega) q4;have ya5:=cel 5 a5 (by omega) q5;have ya6:=cel 6 a6 (by omega) q6;have ya7:=cel 7 a7 (by omega) q7;have HKC:=hid (fun W=>HCL.out i n hr W);have HCLR:=hid (IX HL8.out hr (IY a HL8.out i n));have HCLN:=hid (qd a i n);have HZA:=hid (Oh (a:=a) (i:=i) (n:=n) HL8.out hr);obtain⟨X,hX⟩:=Ex' (xc a i n);rw[hX]at HKC HCLR HCLN;have HKB:Hid (∀ x:aI wr,Below w1.heap.size w1 x.W):=fun x=>HBq.out.trans (x.h.mono HBq.out.size);clear cel q0 q1 q2 q3 q4 q5 q6 q7 hX HAx;by_cases hz:n<=zr a i
     ·have hXa:X=a:=HCLR.out.2 (HZA.out.1 hz);have hnq:∀ W,(binOp .neq 25 (.agg (av X).toArray) (.agg #[.int .u16 a0,.int .u16 a1,.int .u16 a2,.int .u16 a3,.int .u16 a4,.int .u16 a5,.int .u16 a6,.int .u16 a7])).run prog W=.ok (.bool false) W:=fun W=>by rw[<-HLIT.out];exact Ah HCLN.out HL8.out false (by rw[decide_eq_true hXa];rfl) W
      have HUM:=hid (JW (a:=a) (i:=i) hn2);rw[HU.out]at HUM;have HN2:Hid (n+1=2\/n+1 - 1<=zr a i):=.inr hz;clear hXa HCLR HZA HU HN hz;go_wp2_with fail;refine az (by kernel_rfl) (by kernel_rfl) ?_;repeat (go_big_quiet_step ((go_at_call 131;exact aI.call _ (HKC.out _))))
      refine wpQuiet_nil ?_;rintro _ ⟨x,rfl⟩;have HBX:=hid (HKB.out x);obtain⟨w4,hw4⟩:∃ w4,w4=x.W:=⟨_,rfl⟩;rw[<-hw4]at HBX ⊢;clear hw4 x hne HKC HKB ya0 ya1 ya2 ya3 ya4 ya5 ya6 ya7 hnq;by_cases hq:q<n
      ·have hqz:(q:Int)<(n:Int):=by omega
       have HU2:Hid (up a i (n+1)=(i,n)):=by show _=_;rw[HUM.out,if_pos hq]
       clear HUM;go_wp2_with fail
       go_roundw
       case rel=>exact⟨n+1,i,n,by omega,by omega,by omega,by omega,rfl,rfl,by go_num,HU2,HN2,HBX⟩
       case measure=>simp[intOf];omega
      ·have hqz:¬ (q:Int)<(n:Int):=by omega
       have HU2:Hid (up a i (n+1)=(p,q)):=by show _=_;rw[HUM.out,if_neg hq]
       clear HUM;go_wp2_with fail
       go_roundw
       case rel=>exact⟨n+1,p,q,by omega,by omega,by omega,by omega,rfl,rfl,by go_num,HU2,HN2,HBX⟩
       case measure=>simp[intOf];omega
     ·have hXa:X≠a:=fun e=>hz (HZA.out.2 (HCLR.out.1 e));have hnq:∀ W,(binOp .neq 25 (.agg (av X).toArray) (.agg #[.int .u16 a0,.int .u16 a1,.int .u16 a2,.int .u16 a3,.int .u16 a4,.int .u16 a5,.int .u16 a6,.int .u16 a7])).run prog W=.ok (.bool true) W:=fun W=>by rw[<-HLIT.out];exact Ah HCLN.out HL8.out true (by rw[decide_eq_false hXa];rfl) W
      have HS2:Hid (st a (i+1)=(p,q)):=by show _=_;rw[<-Ec hn2 HN.out (by omega)];exact HU.out
      clear hXa HCLR HZA HU HN hz;go_wp2_with fail;refine az (by kernel_rfl) (by kernel_rfl) ?_;repeat (go_big_quiet_step ((go_at_call 131;exact aI.call _ (HKC.out _))))
      refine wpQuiet_nil ?_;rintro _ ⟨x,rfl⟩;have HBX:=hid (HKB.out x);obtain⟨w4,hw4⟩:∃ w4,w4=x.W:=⟨_,rfl⟩;rw[<-hw4]at HBX ⊢;clear hw4 x hne HKC HKB ya0 ya1 ya2 ya3 ya4 ya5 ya6 ya7 hnq;go_wp2_with fail
      go_roundw
      case rel=>exact⟨i+1,p,q,by omega,hp,hq,rfl,rfl,by go_num,HS2,HBX⟩
      case measure=>simp[intOf];omega
    ·have hrz:¬ (i:Int)+(n:Int)<=8:=by omega
     have HS2:Hid (st a (i+1)=(p,q)):=by show _=_;rw[<-Ec hn2 HN.out (by omega)];exact HU.out
     clear HU HN;go_wp2_with fail
     go_roundw
     case rel=>exact⟨i+1,p,q,by omega,hp,hq,rfl,rfl,by go_num,HS2,HBq⟩
     case measure=>simp[intOf];omega
  ·have hi8:i=8:=by omega
   have HR:Hid (QK a (.returned (.tuple #[.int .i64 (f:Int),.int .i64 (m:Int)]))):=by show _=_;have:=HS.out;rw[hi8]at this;rw[this]
   have HBF:=hid (HB0.out.trans (HB.out.mono HB0.out.size));have hltz:¬ (i:Int)<8:=by omega
   clear hi8 HS;go_wp2_with fail;go_ret2;exact⟨HR.out,HBF.out⟩
open F (hx bn hid)
theorem vL(a:List Nat)(h8:a.length=8)(w:World):Calls prog 71 #[.agg (av a).toArray] w fun e W'=>QK a e/\Below w.heap.size w W':=by obtain⟨a0,a1,a2,a3,a4,a5,a6,a7,rfl⟩:=BV h8;exact vK a0 a1 a2 a3 a4 a5 a6 a7 w
theorem Oq{a:List Nat}(h8:a.length=8):((st a 8).2=0/\txt a=tl a 0 8)\/(∃ p m:Nat,st a 8=(p,m)/\2<=m/\p+m<=8/\txt a=tl a 0 p++[58,58]++tl a (p+m) 8):=by
 rcases iS h8 with⟨h1,h2,_⟩ | ⟨p,m,h1,h2,h3,h4,_,h5⟩
 ·left;refine⟨by unfold st;rw[h1,if_pos (by decide)],?_⟩;rw[h2];unfold tl;rw[take_of_length_le (by omega),drop_zero]
 ·right;refine⟨p,m,by unfold st;rw[h1,h2,if_neg (by omega),toNat_natCast],h3,h4,?_⟩;rw[h5];unfold tl;rw[drop_zero,take_of_length_le (by omega:a.length<=8)];simp
theorem Eu{a:List Nat}(hs:Small a)(f n:Nat):∀ x∈tl a f n,0<=x/\x<=255:=by
 have key:∀ ps:List (List Int),(∀ p∈ps,∀ x∈p,0<=x/\x<=255)->∀ x∈ah 58 ps,0<=x/\x<=255:=by
  intro ps
  induction ps with
  | nil=>intro _ x hx;cases hx
  | cons p r ih =>
   intro h x hx;cases r with
   | nil=>exact h p (by simp) x hx
   | cons q s =>
    have hx':x∈p++58::ah 58 (q::s):=hx;rcases List.mem_append.1 hx' with h1 | h1
    ·exact h p (by simp) x h1
    ·rcases List.mem_cons.1 h1 with rfl | h1
     ·decide
     ·exact ih (fun p hp=>h p (List.mem_cons_of_mem _ hp)) x h1
 refine key _ (fun p hp x hx=>?_);obtain⟨v,hv,rfl⟩:=List.mem_map.1 hp;exact jS (hs v (List.mem_of_mem_take (List.mem_of_mem_drop hv))) x hx
theorem kh(a0 a1 a2 a3 a4 a5 a6 a7:Nat)(hs:Small [a0,a1,a2,a3,a4,a5,a6,a7])(w:World)(hT:Tab w):
  Calls prog 38 #[.agg #[.int .u16 a0,.int .u16 a1,.int .u16 a2,.int .u16 a3,.int .u16 a4,.int .u16 a5,.int .u16 a6,.int .u16 a7]] w fun e W'=>mK [a0,a1,a2,a3,a4,a5,a6,a7] w e W':=by
 have HB0:Hid (Below w.heap.size w (w.alloc (.cells #[.int .u16 a0,.int .u16 a1,.int .u16 a2,.int .u16 a3,.int .u16 a4,.int .u16 a5,.int .u16 a6,.int .u16 a7] 25))):=(Below.refl _ w).alloc (le_refl _) _;have HZ0:Hid ((w.alloc (.cells #[.int .u16 a0,.int .u16 a1,.int .u16 a2,.int .u16 a3,.int .u16 a4,.int .u16 a5,.int .u16 a6,.int .u16 a7] 25)).heap.size=w.heap.size+1):=by show _=_;simp
 have HA0:Hid ((w.alloc (.cells #[.int .u16 a0,.int .u16 a1,.int .u16 a2,.int .u16 a3,.int .u16 a4,.int .u16 a5,.int .u16 a6,.int .u16 a7] 25)).heap[w.heap.size]? = some (.cells (av [a0,a1,a2,a3,a4,a5,a6,a7]).toArray 25 (0,0))):=ck w _ _;have HL8:Hid ([a0,a1,a2,a3,a4,a5,a6,a7].length=8):=rfl;have hgT:=Lib.lt_of_cell (show w.cell? ⟨8,15,none⟩=some (.int .u8 4) from hT);have HT0:=hid (hT.below HB0.out (le_refl _));obtain⟨i0,hi0,hz0,hz1,hz2⟩:=info_parts Ia;obtain⟨a,ha⟩:=Ex' ([a0,a1,a2,a3,a4,a5,a6,a7]);rw[ha]at HA0 HL8 hs ⊢;have HSM:=hid hs;have HTX:=hid (Oq HL8.out);have HLO:=hid (vL a HL8.out);have HMK:Hid (∀ t W,bn t=txt a->Below w.heap.size w W->mK a w (.returned (.string t)) W):=fun t W h hB=>⟨⟨t,rfl,h⟩,hB⟩;have HTL:=hid (fun(base:Nat) (v:Value) (l:List Int) (f n:Nat) (hf:f<=n) (hn:n<=8)=>Ew a HL8.out hs base v l f n hf hn);have HLN:=hid (Ep HL8.out);have HBY:=hid (Eu hs);have HT8:=hid (iT HL8.out);obtain⟨y,hy⟩:=Ex' (txt a);rw[hy]at HMK HTX HT8;clear ha hy hs;go_enter func38,ntmps38;go_wp2_with((refine wpList_load_row rfl 25 (.tmp 1) rfl w.heap.size rfl 25 (av a).toArray (0,0) _ HA0.out underlying25 rfl (aW HL8.out) ?_));obtain⟨w1,hw1⟩:=Ex' (w.alloc (.cells #[.int .u16 a0,.int .u16 a1,.int .u16 a2,.int .u16 a3,.int .u16 a4,.int .u16 a5,.int .u16 a6,.int .u16 a7] 25));rw[hw1]at HB0 HZ0 HA0 HT0 ⊢;obtain⟨arg,harg⟩:=Ex' (Value.agg #[.int .u16 a0,.int .u16 a1,.int .u16 a2,.int .u16 a3,.int .u16 a4,.int .u16 a5,.int .u16 a6,.int .u16 a7]:Value);rw[harg];clear hw1 harg;refine(HLO.out w1).mono ?_;rintro e w2 ⟨hlo,B2⟩;have hlo2:e=.returned (.tuple #[.int .i64 ((st a 8).1:Int),.int .i64 ((st a 8).2:Int)]):=hlo;subst hlo2;have HB2:=Bt' HB0 B2;have HA2:Hid (w2.heap[w.heap.size]? = some (.cells (av a).toArray 25 (0,0))):=(B2.block _ (by rw[HZ0.out];omega)).trans HA0.out;have HT2:=hid (HT0.out.below B2 (le_refl _));have hz2':w.heap.size+1<=w2.heap.size:=by have:=HZ0.out;have:=B2.size;omega
 clear B2 HLO hlo HA0 HB0 HT0 HZ0;rcases HTX.out with⟨hm0,hty⟩ | ⟨p,m,hst,hm2,hpm,hty⟩
 ·rw[hm0];obtain⟨k0,hk0⟩:=Ex' ((st a 8).1);rw[hk0];have HTY:=hid hty;have HTL8:=hid (HTL.out (w.heap.size+1) (.slice none 0 0) [] 0 8 (by omega) (by omega) w2 HT2.out (by omega) (by simp) (Bts.nilS _ _ _) hz2');clear hm0 hty hk0 HTL HTX;go_wp2_with((refine wpList_load_row rfl 25 (.tmp 1) rfl w.heap.size rfl 25 (av a).toArray (0,0) _ HA2.out underlying25 rfl (aW HL8.out) ?_));refine HTL8.out.mono ?_;rintro e w3 ⟨v',rfl,h3,B3⟩;rw[List.nil_append,<-HTY.out]at h3;have hyne:y≠[]:=fun e=>by have:=HT8.out.1;rw[e]at this;simp at this
  obtain⟨g,c3,rfl,_,_,_,aY⟩:=h3.there hyne;obtain⟨t,hcv3,ht⟩:=tI w3 g 0 y.length c3 y rfl (fun x hx=>HBY.out 0 8 x (by rw[<-HTY.out];exact hx)) (fun j hj=>by rw[zero_add];exact aY j hj);have HR:=hid (HMK.out t w3 ht (HB2.out.trans (B3.mono (by omega))));have hyl:=HT8.out.2;obtain⟨n3,hn3⟩:=Ex' y.length;rw[hn3]at hcv3 hyl ⊢;clear hn3 h3 aY ht B3 HTL8 HMK HTY hyne HT8;go_wp2;go_ret;exact HR.out
 ·rw[hst];have HTY:=hid hty;have hm0b:((m:Int)==0)=false:=by simp;omega
  have HTLp:=hid (HTL.out (w.heap.size+1) (.slice none 0 0) [] 0 p (by omega) (by omega) w2 HT2.out (by omega) (by simp) (Bts.nilS _ _ _) hz2');clear hst hty HTX;go_wp2_with((refine wpList_load_row rfl 25 (.tmp 1) rfl w.heap.size rfl 25 (av a).toArray (0,0) _ HA2.out underlying25 rfl (aW HL8.out) ?_));refine HTLp.out.mono ?_;rintro e w3 ⟨v',rfl,h3,B3⟩;rw[List.nil_append]at h3;have HB3:=hid (HB2.out.trans (B3.mono (by omega)));have HA3:Hid (w3.heap[w.heap.size]? = some (.cells (av a).toArray 25 (0,0))):=(B3.block _ (by omega)).trans HA2.out;have HT3:=hid (HT2.out.at B3 (by omega));have hz3:w.heap.size+1<=w3.heap.size:=le_trans hz2' B3.size;have hlp:=HLN.out 0 p;have HO3:=hid h3;obtain⟨p3,n3,c3,rfl⟩:=h3.form;obtain⟨k,hk⟩:=Ex' (p+m);have hkz:(p:Int)+(m:Int)=(k:Int):=by omega
  rw[hk]at HTY hpm;clear B3 HTLp h3 HA2 HB2 HT2 hk
  go_wp2_with(first
    | (at_builtin;refine fD _ rfl _ _ 36 9 rfl (w.heap.size+1) 5 i0 underlying36 underlying9 hi0 hz0 hz1 hz2 _ (tl a 0 p) rfl HO3.out ⟨#[58,58]⟩ rfl (by have e:(⟨#[58,58]⟩:ByteArray).size=2:=rfl;omega) hz3 ?_;intro v4 w4 hown4 hgrow4;obtain⟨p4,n4,c4,rfl⟩:=hown4.form;have hA4:=(hgrow4.block _ (Nat.lt_of_lt_of_le (Nat.lt_succ_self _) hz3) (HO3.out.apart HA3.out (by decide))).trans HA3.out)
    | (refine wpList_load_row rfl 25 (.tmp 1) rfl w.heap.size rfl 25 (av a).toArray (0,0) _ hA4 underlying25 rfl (aW HL8.out) ?_))
  have hbz:bn ⟨#[58,58]⟩=[58,58]:=rfl;rw[hbz]at hown4;have HB4':=(Below.refl (w.heap.size+1) w3).grown hgrow4 hz3 (fun k hk=>(HO3.out.lt k hk).1);have HB4:=hid (HB3.out.trans (HB4'.mono (by omega)));have HT4:=hid (HT3.out.at HB4' (by omega));have hz4:w.heap.size+1<=w4.heap.size:=le_trans hz3 hgrow4.size;have HTLk:=hid (HTL.out (w.heap.size+1) _ (tl a 0 p++[58,58]) k 8 hpm (by omega) w4 HT4.out (by omega) (by rw[List.length_append];simp only[List.length_cons,List.length_nil];omega) hown4 hz4);clear hown4 hgrow4 HB4' HA3 HB3 HT3 HO3 HTL hA4;refine HTLk.out.mono ?_;rintro e w5 ⟨v5,rfl,h5,B5⟩;rw[<-HTY.out]at h5;have hyne:y≠[]:=fun e=>by have:=HT8.out.1;rw[e]at this;simp at this
  obtain⟨g,c5,rfl,_,_,_,aY⟩:=h5.there hyne
  have hyb:∀ x∈y,0<=x/\x<=255:=fun x hx=>by
   rw[HTY.out]at hx;rcases List.mem_append.1 hx with hx | hx
   ·rcases List.mem_append.1 hx with hx | hx
    ·exact HBY.out _ _ x hx
    ·have:x=58:=by simpa using hx
     omega
   ·exact HBY.out _ _ x hx
  obtain⟨t,hcv3,ht⟩:=tI w5 g 0 y.length c5 y rfl hyb (fun j hj=>by rw[zero_add];exact aY j hj);have HR:=hid (HMK.out t w5 ht (HB4.out.trans (B5.mono (by omega))));have hyl:=HT8.out.2;obtain⟨n5,hn5⟩:=Ex' y.length;rw[hn5]at hcv3 hyl ⊢;clear hn5 h5 aY ht B5 HTLk HMK HTY hyne HT8 hyb;go_wp2;go_ret;exact HR.out
theorem iu(a:List Nat)(h8:a.length=8)(hs:Small a)(w:World)(hT:Tab w):Calls prog 38 #[.agg (av a).toArray] w fun e W'=>mK a w e W':=by obtain⟨a0,a1,a2,a3,a4,a5,a6,a7,rfl⟩:=BV h8;exact kh a0 a1 a2 a3 a4 a5 a6 a7 hs w hT
end X
namespace H
open F (bn aa hid lE)
theorem aY{W:World}{g:Nat}{k f a0 a1 a2 a3 a4 a5 a6 a7:Int}{n:ByteArray}(h:W.heap[g]? = some (.cells (hcs k n f a0 a1 a2 a3 a4 a5 a6 a7) 27 (0,0))):W.cell? ⟨g,0,none⟩=some (.int .u8 k)/\W.cell? ⟨g,1,none⟩=some (.string n)/\W.cell? ⟨g,2,none⟩=some (.int .u32 f)/\W.cell? ⟨g,3,none⟩=some (.int .u16 a0)/\W.cell? ⟨g,4,none⟩=some (.int .u16 a1)/\W.cell? ⟨g,5,none⟩=some (.int .u16 a2)/\W.cell? ⟨g,6,none⟩=some (.int .u16 a3)/\W.cell? ⟨g,7,none⟩=some (.int .u16 a4)/\W.cell? ⟨g,8,none⟩=some (.int .u16 a5)/\W.cell? ⟨g,9,none⟩=some (.int .u16 a6)/\W.cell? ⟨g,10,none⟩=some (.int .u16 a7):=by refine⟨?_,?_,?_,?_,?_,?_,?_,?_,?_,?_,?_⟩ <;> exact cell_of_row _ _ _ _ _ _ h
theorem kh(k:Nat)(n:ByteArray)(f:Nat)(a0 a1 a2 a3 a4 a5 a6 a7:Nat)(hz:n.size<=400000000)(hk:k<256)(hf:f<4294967296)(hs:X.Small [a0,a1,a2,a3,a4,a5,a6,a7])(w:World)(hG:GH w):Calls prog 22 #[hvl k n f [a0,a1,a2,a3,a4,a5,a6,a7]] w fun e W'=>mK (k,bn n,f,[a0,a1,a2,a3,a4,a5,a6,a7],0) w e W':=by
 have A0:=X.ck w #[.int .u8 (k:Nat),.string n,.int .u32 (f:Nat),.int .u16 (a0:Nat),.int .u16 (a1:Nat),.int .u16 (a2:Nat),.int .u16 (a3:Nat),.int .u16 (a4:Nat),.int .u16 (a5:Nat),.int .u16 (a6:Nat),.int .u16 (a7:Nat)] 27;have HB:=hid ((Below.refl _ w).alloc (le_refl _) (.cells #[.int .u8 (k:Nat),.string n,.int .u32 (f:Nat),.int .u16 (a0:Nat),.int .u16 (a1:Nat),.int .u16 (a2:Nat),.int .u16 (a3:Nat),.int .u16 (a4:Nat),.int .u16 (a5:Nat),.int .u16 (a6:Nat),.int .u16 (a7:Nat)] 27));have HG:=hid (hG.below HB.out);have HT1:=hid (fun W=>rN n hz W);have HT2:=hid (fun W h=>F.iu f hf W h);have HT3:Hid (∀ W,X.Tab W->Calls prog 38 #[.agg #[.int .u16 (a0:Nat),.int .u16 (a1:Nat),.int .u16 (a2:Nat),.int .u16 (a3:Nat),.int .u16 (a4:Nat),.int .u16 (a5:Nat),.int .u16 (a6:Nat),.int .u16 (a7:Nat)]] W fun e W'=>X.mK [a0,a1,a2,a3,a4,a5,a6,a7] W e W'):=fun W h=>X.iu [a0,a1,a2,a3,a4,a5,a6,a7] rfl hs W h;obtain⟨F0,F1,F2,F3,F4,F5,F6,F7,F8,F9,F10⟩:=aY A0;clear A0 hG hs hz;have HK:Hid (∀ t W',bn t=txt (k,bn n,f,[a0,a1,a2,a3,a4,a5,a6,a7],0)->Below w.heap.size w W'->mK (k,bn n,f,[a0,a1,a2,a3,a4,a5,a6,a7],0) w (.returned (.string t)) W'):=fun t W' h hb=>⟨⟨t,rfl,h⟩,hb⟩
 have HX:Hid (((k=1\/k=4)->txt (k,bn n,f,[a0,a1,a2,a3,a4,a5,a6,a7],0)=bn n)/\(k=2->txt (k,bn n,f,[a0,a1,a2,a3,a4,a5,a6,a7],0)=F.txt f)/\(k=3->txt (k,bn n,f,[a0,a1,a2,a3,a4,a5,a6,a7],0)=91::(X.txt [a0,a1,a2,a3,a4,a5,a6,a7]++[93]))/\(¬ (k=1\/k=4)->k≠2->k≠3->txt (k,bn n,f,[a0,a1,a2,a3,a4,a5,a6,a7],0)=[])):=by
  refine⟨fun h=>?_,fun h=>?_,fun h=>?_,fun h1 h2 h3=>?_⟩
  ·unfold txt;rw[if_pos h]
  ·subst h;rfl
  ·subst h;rfl
  ·unfold txt;rw[if_neg h1,if_neg h2,if_neg h3]
 show Calls prog _ #[hv (k:Nat) n (f:Nat) (a0:Nat) (a1:Nat) (a2:Nat) (a3:Nat) (a4:Nat) (a5:Nat) (a6:Nat) (a7:Nat)] w _;by_cases k1:k=1\/k=4
 ·have hq:(((k:Int)==1)=true)\/(((k:Int)==1)=false/\((k:Int)==4)=true):=by
   rcases k1 with h | h
   ·subst h;exact .inl rfl
   ·subst h;exact .inr ⟨rfl,rfl⟩
  have HE:=hid (HX.out.1 k1);clear k1 HX HT2 HT3;rcases hq with q1 | ⟨q1,q4⟩
  all_goals (
    go_enter func22,ntmps22
    go_wp2_with fail
    refine(HT1.out _).mono ?_
    rintro e w2 ⟨rfl,B⟩
    replace HB:=Bt' HB B
    clear B F0 F1 F2 F3 F4 F5 F6 F7 F8 F9 F10
    go_wp2
    go_ret
    exact HK.out _ _ HE.out.symm HB.out)
 ·have q1:((k:Int)==1)=false:=by simp;omega
  have q4:((k:Int)==4)=false:=by simp;omega
  by_cases k2:k=2
  ·have q2:((k:Int)==2)=true:=by subst k2;rfl
   have HE:=hid (HX.out.2.1 k2);clear k1 k2 HX HT1 HT3;go_enter func22,ntmps22;go_wp2_with fail;refine(HT2.out _ HG.out.1).mono ?_;rintro e w2 ⟨⟨t,rfl,ht⟩,B⟩;have HTX:=hid ht;replace HB:=Bt' HB B;clear B ht F0 F1 F2 F3 F4 F5 F6 F7 F8 F9 F10;go_wp2;go_ret;exact HK.out _ _ (HTX.out.trans HE.out.symm) HB.out
  ·have q2:((k:Int)==2)=false:=by simp;omega
   by_cases k3:k=3
   ·have q3:((k:Int)==3)=true:=by subst k3;rfl
    have HE:=hid (HX.out.2.2.1 k3);clear k1 k2 k3 HX HT1 HT2;go_enter func22,ntmps22;go_wp2_with fail;refine(HT3.out _ HG.out.2.2.1).mono ?_;rintro e w2 ⟨⟨t,rfl,ht⟩,B⟩;have hts:t.size<=300:=by rw[<-aa,ht];have:=X.iT (a:=[a0,a1,a2,a3,a4,a5,a6,a7]) rfl;omega
    have HTX:Hid (bn (⟨#[91]⟩++t++⟨#[93]⟩)=91::(X.txt [a0,a1,a2,a3,a4,a5,a6,a7]++[93])):=by show bn _=_;rw[<-ht,F.aO,F.aO];rfl
    replace HB:=Bt' HB B;clear B ht F0 F1 F2 F3 F4 F5 F6 F7 F8 F9 F10;go_wp2;go_ret;exact HK.out _ _ (HTX.out.trans HE.out.symm) HB.out
   ·have q3:((k:Int)==3)=false:=by simp;omega
    have HE:=hid (HX.out.2.2.2 k1 k2 k3);clear k1 k2 k3 HX HT1 HT2 HT3;go_enter func22,ntmps22;go_wp2;go_ret;exact HK.out _ _ HE.out.symm HB.out
theorem tq(k k' f f':Nat)(n n':ByteArray)(a0 a1 a2 a3 a4 a5 a6 a7 b0 b1 b2 b3 b4 b5 b6 b7:Nat):eqh (k:Nat) n (f:Nat) [(a0:Int),(a1:Int),(a2:Int),(a3:Int),(a4:Int),(a5:Int),(a6:Int),(a7:Int)] (k':Nat) n' (f':Nat) [(b0:Int),(b1:Int),(b2:Int),(b3:Int),(b4:Int),(b5:Int),(b6:Int),(b7:Int)]=decide ((k,bn n,f,[a0,a1,a2,a3,a4,a5,a6,a7])=(k',bn n',f',[b0,b1,b2,b3,b4,b5,b6,b7])):=by unfold eqh;rw[lE];have e:List.range 8=[0,1,2,3,4,5,6,7]:=rfl;rw[e,Bool.eq_iff_iff];simp only[and_eq_true,beq_iff_eq,decide_eq_true_iff,List.all_cons,List.all_nil,Prod.mk.injEq,List.cons.injEq,and_true,Int.natCast_inj];simp[Int.natCast_inj]
theorem wm{k:Nat}{n:List Int}{f:Nat}{a:List Nat}(hn:n.length<=400000000)(hf:f<4294967296)(ha:a.length=8):(txt (k,n,f,a,0)).length<=400000000:=by
 unfold txt;split
 ·show n.length<=_;omega
 split
 ·have:=kf hf;show(F.txt f).length<=_;omega
 split
 ·have:=X.iT ha;show(91::(X.txt a++[93])).length<=_;simp;omega
 ·simp
theorem lQ{h x:Hst}{b:Bool}(hne:h≠non 0)(h0:h.2.2.2.2=0)(hp:HP IA (txt h) (decide (h.1≠4)) x)(hb:b=(decide (x.2.2.2.2=0)&&decide ((x.1,x.2.1,x.2.2.1,x.2.2.2.1)=(h.1,h.2.1,h.2.2.1,h.2.2.2.1)))):May IA h b:=by
 unfold May;rw[if_neg hne];by_cases hl:4096<(txt h).length
 ·rw[if_pos hl];unfold HP at hp;rw[if_pos hl]at hp;rw[hb,hp];rfl
 ·rw[if_neg hl];refine⟨x,hp,?_⟩;rw[hb,Bool.eq_iff_iff,and_eq_true,decide_eq_true_iff,decide_eq_true_iff,decide_eq_true_iff];refine⟨fun q=>⟨q.1,q.2,fun hk=>hne ?_⟩,fun q=>⟨q.1,q.2.1⟩⟩;have hx:=Ci hp q.1 hk;have q2:=q.2;rw[hx]at q2;obtain⟨k,n,f,a,e⟩:=h;simp only[non,Prod.mk.injEq]at q2 h0 ⊢;obtain⟨c1,c2,c3,c4⟩:=q2;exact⟨c1.symm,c2.symm,c3.symm,c4.symm,h0⟩
theorem LX(k:Nat)(n:ByteArray)(f:Nat)(a0 a1 a2 a3 a4 a5 a6 a7:Nat)(hz:n.size<=400000000)(hk:k<256)(hf:f<4294967296)(hs:X.Small [a0,a1,a2,a3,a4,a5,a6,a7])(w:World)(hG:GH w):Calls prog 26 #[hvl k n f [a0,a1,a2,a3,a4,a5,a6,a7]] w fun e W'=>(∃ b,May IA (k,bn n,f,[a0,a1,a2,a3,a4,a5,a6,a7],0) b/\e=.returned (.bool b))/\Below w.heap.size w W':=by
 have A0:=oT (X.ck w #[.int .u8 (k:Nat),.string n,.int .u32 (f:Nat),.int .u16 (a0:Nat),.int .u16 (a1:Nat),.int .u16 (a2:Nat),.int .u16 (a3:Nat),.int .u16 (a4:Nat),.int .u16 (a5:Nat),.int .u16 (a6:Nat),.int .u16 (a7:Nat)] 27) (.cells #[.int .u8 0,.string ⟨#[]⟩,.int .u32 0,.int .u16 0,.int .u16 0,.int .u16 0,.int .u16 0,.int .u16 0,.int .u16 0,.int .u16 0,.int .u16 0] 27);have A1:=X.ck (w.alloc (.cells #[.int .u8 (k:Nat),.string n,.int .u32 (f:Nat),.int .u16 (a0:Nat),.int .u16 (a1:Nat),.int .u16 (a2:Nat),.int .u16 (a3:Nat),.int .u16 (a4:Nat),.int .u16 (a5:Nat),.int .u16 (a6:Nat),.int .u16 (a7:Nat)] 27)) #[.int .u8 0,.string ⟨#[]⟩,.int .u32 0,.int .u16 0,.int .u16 0,.int .u16 0,.int .u16 0,.int .u16 0,.int .u16 0,.int .u16 0,.int .u16 0] 27;rw[show(w.alloc (.cells #[.int .u8 (k:Nat),.string n,.int .u32 (f:Nat),.int .u16 (a0:Nat),.int .u16 (a1:Nat),.int .u16 (a2:Nat),.int .u16 (a3:Nat),.int .u16 (a4:Nat),.int .u16 (a5:Nat),.int .u16 (a6:Nat),.int .u16 (a7:Nat)] 27)).heap.size=w.heap.size+1 by simp]at A1;have HB:=hid (((Below.refl _ w).alloc (le_refl _) (.cells #[.int .u8 (k:Nat),.string n,.int .u32 (f:Nat),.int .u16 (a0:Nat),.int .u16 (a1:Nat),.int .u16 (a2:Nat),.int .u16 (a3:Nat),.int .u16 (a4:Nat),.int .u16 (a5:Nat),.int .u16 (a6:Nat),.int .u16 (a7:Nat)] 27)).alloc (by simp) (.cells #[.int .u8 0,.string ⟨#[]⟩,.int .u32 0,.int .u16 0,.int .u16 0,.int .u16 0,.int .u16 0,.int .u16 0,.int .u16 0,.int .u16 0,.int .u16 0] 27));have HGK:Hid (∀ W,Below w.heap.size w W->GH W):=fun W h=>hG.below h;have HT:=hid (fun W h=>kh k n f a0 a1 a2 a3 a4 a5 a6 a7 (by omega) hk hf hs W h);have HEQ:Hid (∀ W,(binOp .eql 27 (hv (k:Nat) n (f:Nat) (a0:Nat) (a1:Nat) (a2:Nat) (a3:Nat) (a4:Nat) (a5:Nat) (a6:Nat) (a7:Nat)) (hv 0 ⟨#[]⟩ 0 0 0 0 0 0 0 0 0)).run prog W=.ok (.bool (decide ((k,bn n,f,[a0,a1,a2,a3,a4,a5,a6,a7])=(0,bn ⟨#[]⟩,0,[0,0,0,0,0,0,0,0])))) W):=fun W=>by rw[wM];exact congrArg (fun b=>Result.ok (Value.bool b) W) (tq k 0 f 0 n ⟨#[]⟩ a0 a1 a2 a3 a4 a5 a6 a7 0 0 0 0 0 0 0 0)
 obtain⟨F0,F1,F2,F3,F4,F5,F6,F7,F8,F9,F10⟩:=aY A0;obtain⟨D0,D1,D2,D3,D4,D5,D6,D7,D8,D9,D10⟩:=aY A1;clear A1 hG;show Calls prog _ #[hv (k:Nat) n (f:Nat) (a0:Nat) (a1:Nat) (a2:Nat) (a3:Nat) (a4:Nat) (a5:Nat) (a6:Nat) (a7:Nat)] w _;by_cases h0:(k,bn n,f,[a0,a1,a2,a3,a4,a5,a6,a7])=(0,bn ⟨#[]⟩,0,[0,0,0,0,0,0,0,0])
 ·rw[decide_eq_true h0]at HEQ
  have HM:Hid (May IA (k,bn n,f,[a0,a1,a2,a3,a4,a5,a6,a7],0) true):=by
   show May _ _ _;have e:((k,bn n,f,[a0,a1,a2,a3,a4,a5,a6,a7],0):Hst)=non 0:=by simp only[Prod.mk.injEq]at h0;obtain⟨h1,h2,h3,h4⟩:=h0;rw[h1,h2,h3,h4];rfl
   unfold May;rw[if_pos e]
  have hE:=HEQ.out;clear h0 HEQ HT HGK A0;go_enter func26,ntmps26;go_wp2;go_ret;exact⟨⟨true,HM.out,rfl⟩,HB.out⟩
 ·rw[decide_eq_false h0]at HEQ;have hE:=HEQ.out;clear HEQ;have HSM:Sm w (hcs (k:Nat) n (f:Nat) (a0:Nat) (a1:Nat) (a2:Nat) (a3:Nat) (a4:Nat) (a5:Nat) (a6:Nat) (a7:Nat)) _:=⟨A0,HB.out⟩;have HCP:∀ t W,bn t=txt (k,bn n,f,[a0,a1,a2,a3,a4,a5,a6,a7],0)->Below w.heap.size w W->Calls prog 20 #[.string t,.bool (decide (k≠4))] W fun e W'=>qw IA (bn t) (decide (k≠4)) W e W':=fun t W ht hb=>py t _ (by rw[<-aa,ht];exact wm (by rw[aa];omega) hf rfl) W (HGK.out W hb);have HTX:∀ W,Below w.heap.size w W->Calls prog 22 #[hv (k:Nat) n (f:Nat) (a0:Nat) (a1:Nat) (a2:Nat) (a3:Nat) (a4:Nat) (a5:Nat) (a6:Nat) (a7:Nat)] W fun e W'=>mK (k,bn n,f,[a0,a1,a2,a3,a4,a5,a6,a7],0) W e W':=fun W hb=>HT.out W (HGK.out W hb);have hsp:((k:Int) != 4)=decide (k≠4):=by rw[Bool.eq_iff_iff,bne_iff_ne,decide_eq_true_iff];omega
  have HMO:Hid (∀(x:Hst) (b:Bool),HP IA (txt (k,bn n,f,[a0,a1,a2,a3,a4,a5,a6,a7],0)) (decide (k≠4)) x->b=(decide (x.2.2.2.2=0)&&decide ((x.1,x.2.1,x.2.2.1,x.2.2.2.1)=(k,bn n,f,[a0,a1,a2,a3,a4,a5,a6,a7])))->May IA (k,bn n,f,[a0,a1,a2,a3,a4,a5,a6,a7],0) b):=fun x b hp hb=>lQ (fun e=>h0 (by
    have e1:=congrArg (fun h:Hst=>(h.1,h.2.1,h.2.2.1,h.2.2.2.1)) e
    exact e1)) rfl hp hb
  have HH:=hid HCP;have HI:=hid HTX;have HJ:=hid HSM;have HQ:=hid hsp;clear h0 A0 HB HT HGK hz hk hf hs HCP HTX HSM hsp;go_enter func26,ntmps26
  go_upto_region 4 with fail
  clear F0 F1 F2 F3 F4 F5 F6 F7 F8 F9 F10 D0 D1 D2 D3 D4 D5 D6 D7 D8 D9 D10 hE;refine yk _ k (hcs (k:Nat) n (f:Nat) (a0:Nat) (a1:Nat) (a2:Nat) (a3:Nat) (a4:Nat) (a5:Nat) (a6:Nat) (a7:Nat)) (txt (k,bn n,f,[a0,a1,a2,a3,a4,a5,a6,a7],0)) (aD ..) rfl (decide (k≠4)) HQ.out _ _ _ _ _ _ _ _ w _ rfl (fun _ _ d _ _ h=>by cases d <;> exact h) HJ.out HI.out HH.out ?_;intro t x n' g W h1 h2 h3 hg hS;clear HH HI HJ HQ;have hfi:=h2.fine;obtain⟨k',nm,f',a',er⟩:=x;obtain⟨b0,b1,b2,b3,b4,b5,b6,b7,rfl⟩:=eight hfi.a;have hnm:bn n'=nm:=h3;subst hnm;rw[h1]at h2;have HR:=hid (fun b=>HMO.out _ b h2);have HEQ:∀ W,(binOp .eql 27 (hv (k':Nat) n' (f':Nat) (b0:Nat) (b1:Nat) (b2:Nat) (b3:Nat) (b4:Nat) (b5:Nat) (b6:Nat) (b7:Nat)) (hv (k:Nat) n (f:Nat) (a0:Nat) (a1:Nat) (a2:Nat) (a3:Nat) (a4:Nat) (a5:Nat) (a6:Nat) (a7:Nat))).run prog W=.ok (.bool (decide ((k',bn n',f',[b0,b1,b2,b3,b4,b5,b6,b7])=(k,bn n,f,[a0,a1,a2,a3,a4,a5,a6,a7])))) W:=fun W=>by rw[wM];exact congrArg (fun b=>Result.ok (Value.bool b) W) (tq k' k f' f n' n b0 b1 b2 b3 b4 b5 b6 b7 a0 a1 a2 a3 a4 a5 a6 a7)
  have HB:=hid hS.2;obtain⟨F0,F1,F2,F3,F4,F5,F6,F7,F8,F9,F10⟩:=aY hS.1;have hg:W.heap[g]? = some (.cells (hcs (k':Nat) n' (f':Nat) (b0:Nat) (b1:Nat) (b2:Nat) (b3:Nat) (b4:Nat) (b5:Nat) (b6:Nat) (b7:Nat)) 27 (0,0)):=hg;obtain⟨D0,D1,D2,D3,D4,D5,D6,D7,D8,D9,D10⟩:=aY hg;clear hg hS h1 h2 h3 hfi HMO;generalize hE2:decide ((k',bn n',f',[b0,b1,b2,b3,b4,b5,b6,b7])=(k,bn n,f,[a0,a1,a2,a3,a4,a5,a6,a7]))=eb at *;by_cases he:er=0
  ·subst he;have HM:Hid (May IA (k,bn n,f,[a0,a1,a2,a3,a4,a5,a6,a7],0) eb):=HR.out eb (by simp only[decide_true,Bool.true_and]);clear HR hE2;show Exit.then _ _ .normal _ _;go_wp2;go_ret;exact⟨⟨eb,HM.out,rfl⟩,HB.out⟩
  ·have hen:(er==0)=false:=by simpa using he
   have HM:Hid (May IA (k,bn n,f,[a0,a1,a2,a3,a4,a5,a6,a7],0) false):=HR.out false (by rw[decide_eq_false he,Bool.false_and]);clear HR hE2 he;show Exit.then _ _ .normal _ _;go_wp2;go_ret;exact⟨⟨false,HM.out,rfl⟩,HB.out⟩
end H
namespace Cn
open F (bn aa hid)
open H (Hst non bZ z8 HP May)
theorem Mw{A:List Int->List Int->Int->Prop}{s:List Int}{sp:Bool}{x:Hst}(h:HP A s sp x):x.1<=4/\(x.1=1->x.2.2.1=0/\x.2.2.2.1=z8):=by
 unfold H.HP at h;split at h
 ·rw[h];exact⟨by first | decide | (show 3<=4;decide) | (show 4<=4;decide) | (show 2<=4;decide),fun e=>by cases e⟩
 split at h
 ·rw[h];unfold H.six;split
  ·split
   ·exact⟨by first | decide | (show 3<=4;decide) | (show 4<=4;decide) | (show 2<=4;decide),fun e=>by cases e⟩
   ·exact⟨by first | decide | (show 3<=4;decide) | (show 4<=4;decide) | (show 2<=4;decide),fun e=>by cases e⟩
  ·exact⟨by first | decide | (show 3<=4;decide) | (show 4<=4;decide) | (show 2<=4;decide),fun e=>by cases e⟩
 split at h
 ·rw[h];unfold H.opq;split
  ·exact⟨by first | decide | (show 3<=4;decide) | (show 4<=4;decide) | (show 2<=4;decide),fun e=>by cases e⟩
  split
  ·exact⟨by first | decide | (show 3<=4;decide) | (show 4<=4;decide) | (show 2<=4;decide),fun e=>by cases e⟩
  ·exact⟨by first | decide | (show 3<=4;decide) | (show 4<=4;decide) | (show 2<=4;decide),fun e=>by cases e⟩
 ·obtain⟨d,r,_,rfl⟩:=h;unfold H.dom;split
  ·exact⟨by first | decide | (show 3<=4;decide) | (show 4<=4;decide) | (show 2<=4;decide),fun e=>by cases e⟩
  split
  ·split
   ·exact⟨by first | decide | (show 3<=4;decide) | (show 4<=4;decide) | (show 2<=4;decide),fun e=>by cases e⟩
   ·exact⟨by first | decide | (show 3<=4;decide) | (show 4<=4;decide) | (show 2<=4;decide),fun e=>by cases e⟩
  ·exact⟨by show 1<=4;decide,fun _=>⟨rfl,rfl⟩⟩
theorem Hc{A:List Int->List Int->Int->Prop}{h:Hst}(m:May A h true):h.1<=4/\(h.1=1->h.2.2.1=0/\h.2.2.2.1=z8):=by
 unfold H.May at m;split at m
 ·rename_i e;rw[e];exact⟨by first | decide | (show 3<=4;decide) | (show 4<=4;decide) | (show 2<=4;decide),fun e=>by cases e⟩
 split at m
 ·cases m
 ·obtain⟨x,hx,hb⟩:=m;have h2:=(of_decide_eq_true hb.symm).2.1;have h3:=Mw hx;simp only[Prod.mk.injEq]at h2;obtain⟨e1,e2,e3,e4⟩:=h2;rw[<-e1,<-e3,<-e4];exact h3
def zg:Tg:=⟨0,⟨#[]⟩,0,0,0,0,0,0,0,0,0,0⟩
theorem gZ(e:Int):Tv zg (non e) 0:=⟨rfl,rfl,rfl,rfl,rfl⟩
theorem fh:Lm zg:=⟨by decide,by decide,by decide,by decide,by unfold X.Small;decide⟩
def HoR(h:Hst)(w:World)(e:Ending)(W':World):Prop:=(∃ b r,CH H.IA (wo h) r/\Tv b r 0/\Lm b/\e=.returned (.tuple #[.agg (Tg.hs b),.int .i64 r.2.2.2.2]))/\Below w.heap.size w W'
theorem Qk{l:List Int}{e:Ending}(h:bZ (dmn l) e)(hl:l.length<=400000000):∃ b,Tv b (dmn l) 0/\Lm b/\e=.returned (.tuple #[.agg (Tg.hs b),.int .i64 (dmn l).2.2.2.2]):=by
 obtain⟨n,hn,rfl⟩:=h
 have hu:(und l).length<=l.length:=by
  unfold und;split
  ·rw[List.length_dropLast];omega
  ·exact le_refl _
 have hz:=aa n;rw[hn]at hz;unfold dmn at hn hz ⊢;by_cases ho:okn (und l)=true
 ·rw[if_pos ho]at hn hz ⊢;have hz2:(und l).length=n.size:=hz;exact⟨⟨1,n,0,0,0,0,0,0,0,0,0,0⟩,⟨rfl,hn,rfl,rfl,rfl⟩,⟨by show n.size<=_;omega,zero_le _,by show 1<256;decide,by show 0<4294967296;decide,fh.2.2.2.2⟩,rfl⟩
 ·rw[if_neg ho]at hn hz ⊢;have hz2:0=n.size:=hz;exact⟨⟨0,n,0,0,0,0,0,0,0,0,0,0⟩,⟨rfl,hn,rfl,rfl,rfl⟩,⟨by show n.size<=_;omega,zero_le _,by show 0<256;decide,by show 0<4294967296;decide,fh.2.2.2.2⟩,rfl⟩
theorem Nh{k:Nat}{n:List Int}{f:Nat}{x:List Nat}(h:k=2\/k=3):(k,n,f,x,0)=ch (k,n,f,x,0) true:=by rcases h with rfl | rfl <;> simp[ch]
theorem Qw{k:Nat}{n:List Int}{f:Nat}{x:List Nat}(h:k=1)(e1:f=0)(e2:x=z8):dmn n=ch (k,n,f,x,0) true:=by subst h e1 e2;simp[ch,dmn]
theorem RV{k:Nat}{n:List Int}{f:Nat}{x:List Nat}(h:k=0\/k=4):non 70=ch (k,n,f,x,0) true:=by rcases h with rfl | rfl <;> simp[ch]
theorem eV(a:Tg)(h:Hst)(p:Nat)(w:World)(ht:Tv a h p)(hl:Lm a)(hG:H.GH w):Calls prog 12 #[.agg (Tg.hs a)] w fun e W'=>HoR h w e W':=by
 have hwo:wo h=(a.k,bn a.nm,a.f,[a.x0,a.x1,a.x2,a.x3,a.x4,a.x5,a.x6,a.x7],0):=by unfold wo;rw[<-ht.k,<-ht.n,<-ht.f,<-ht.x]
 obtain⟨l1,l2,l3,l4,l5⟩:=hl;have HMK:Hid (∀(b:Tg) (m:Bool) (r:Hst) (W':World),H.May H.IA (wo h) m->r=ch (wo h) m->Tv b r 0->Lm b->Below w.heap.size w W'->HoR h w (.returned (.tuple #[.agg (Tg.hs b),.int .i64 r.2.2.2.2])) W'):=fun b m r W' h1 h2 h3 h4 h5=>⟨⟨b,r,⟨m,h1,h2⟩,h3,h4,rfl⟩,h5⟩;rw[hwo]at HMK;have hsz:(w.alloc (.cells (Tg.hs a) 27)).heap.size=w.heap.size+1:=by simp
 obtain⟨V,hV⟩:=Ex' ((w.alloc (.cells (Tg.hs a) 27)).alloc (.cells zh 27));have R0:Hid (V.heap[w.heap.size]? = some (.cells (Tg.hs a) 27 (0,0))):=by show _=_;rw[<-hV];exact kept (aK w _ _) ((Below.refl _ _).alloc (le_refl _) _)
 have R1:Hid (V.heap[w.heap.size+1]? = some (.cells zh 27 (0,0))):=by show _=_;rw[<-hV,<-hsz];exact aK _ _ _
 have HB:Hid (Below w.heap.size w V):=by show Below _ _ _;rw[<-hV];exact((Below.refl _ w).alloc (le_refl _) _).alloc (by rw[hsz];omega) _
 have HMY:Hid (Calls prog 26 #[.agg (Tg.hs a)] V fun e W'=>(∃ b,May H.IA (a.k,bn a.nm,a.f,[a.x0,a.x1,a.x2,a.x3,a.x4,a.x5,a.x6,a.x7],0) b/\e=.returned (.bool b))/\Below V.heap.size V W') :=
  H.LX a.k a.nm a.f a.x0 a.x1 a.x2 a.x3 a.x4 a.x5 a.x6 a.x7 l1 l3 l4 l5 V (hG.below HB.out)
 have HGG:Hid (∀ W,Below w.heap.size w W->H.GH W):=fun W h=>hG.below h;have HDM:=hid (fun W hM=>yN a.nm l1 W hM);have HSELF:Hid (Lm { a with p:=0 }):=⟨l1,zero_le _,l3,l4,l5⟩;clear l1 l2 l3 l4 l5 ht hG hwo;go_enter func12,ntmps12;go_wp2_with(refine wpList_load_row rfl 27 (.tmp 1) rfl w.heap.size rfl 27 (Tg.hs a) (0,0) _ R0.out underlying27 rfl (aD a) ?_);clear hV;refine HMY.out.mono ?_;rintro e w1 ⟨⟨m,hm,rfl⟩,B⟩;have HM:=hid hm;replace R0:=hid (kept R0.out B);replace R1:=hid (kept R1.out B);replace HB:=Bt' HB B;clear B HMY hm;cases m with
 | false =>
  clear HDM HGG HSELF;go_wp2_with(refine wpList_store_row rfl 27 (.tmp 2) (.tmp 7) rfl (w.heap.size+1) (Tg.hs zg) rfl rfl 27 zh R1.out (aD zg) rfl (bW zg) ?_);exact bodyPost_ret (H.ag results12 _ _ (w.heap.size+1) 27 (Tg.hs zg) (0,0) _ rfl (X.aA R1.out) underlying27 (aD zg)) rfl (HMK.out zg false (non 70) _ HM.out rfl (gZ 70) fh (X.ai HB.out (by omega) _))
 | true =>
  have hk:=Hc HM.out;have HK:=hid hk;have C0:w1.cell? ⟨w.heap.size,0,none⟩=some (.int .u8 (a.k:Nat)):=cell_of_row _ _ 0 _ _ _ R0.out;have C1:w1.cell? ⟨w.heap.size,1,none⟩=some (.string a.nm):=cell_of_row _ _ 1 _ _ _ R0.out;by_cases h23:a.k=2\/a.k=3
  ·have HCH:=hid (Nh (n:=bn a.nm) (f:=a.f) (x:=[a.x0,a.x1,a.x2,a.x3,a.x4,a.x5,a.x6,a.x7]) h23);clear HDM HGG hk HK C1;rcases h23 with h2 | h2
   ·have q2:(((a.k:Nat):Int)==2)=true:=by rw[h2];rfl
    clear h2;go_wp2_with(first | (refine wpList_load_row rfl 27 (.tmp 1) rfl w.heap.size rfl 27 (Tg.hs a) (0,0) _ R0.out underlying27 rfl (aD a) ?_) | (refine wpList_store_row rfl 27 (.tmp 2) (.tmp 13) rfl (w.heap.size+1) (Tg.hs a) rfl rfl 27 zh R1.out (aD a) rfl (bW a) ?_));exact bodyPost_ret (H.ag results12 _ _ (w.heap.size+1) 27 (Tg.hs a) (0,0) _ rfl (X.aA R1.out) underlying27 (aD a)) rfl (HMK.out { a with p:=0 } true _ _ HM.out HCH.out ⟨rfl,rfl,rfl,rfl,rfl⟩ HSELF.out (X.ai HB.out (by omega) _))
   ·have q2:(((a.k:Nat):Int)==2)=false:=by rw[h2];rfl
    have q3:(((a.k:Nat):Int)==3)=true:=by rw[h2];rfl
    clear h2;go_wp2_with(first | (refine wpList_load_row rfl 27 (.tmp 1) rfl w.heap.size rfl 27 (Tg.hs a) (0,0) _ R0.out underlying27 rfl (aD a) ?_) | (refine wpList_store_row rfl 27 (.tmp 2) (.tmp 13) rfl (w.heap.size+1) (Tg.hs a) rfl rfl 27 zh R1.out (aD a) rfl (bW a) ?_));exact bodyPost_ret (H.ag results12 _ _ (w.heap.size+1) 27 (Tg.hs a) (0,0) _ rfl (X.aA R1.out) underlying27 (aD a)) rfl (HMK.out { a with p:=0 } true _ _ HM.out HCH.out ⟨rfl,rfl,rfl,rfl,rfl⟩ HSELF.out (X.ai HB.out (by omega) _))
  ·have q2:(((a.k:Nat):Int)==2)=false:=by simp;omega
   have q3:(((a.k:Nat):Int)==3)=false:=by simp;omega
   by_cases h1:a.k=1
   ·have q1:(((a.k:Nat):Int)==1)=true:=by rw[h1];rfl
    have HCH:=hid (Qw (n:=bn a.nm) (f:=a.f) (x:=[a.x0,a.x1,a.x2,a.x3,a.x4,a.x5,a.x6,a.x7]) h1 (hk.2 h1).1 (hk.2 h1).2);have HD:=hid (HDM.out w1 (HGG.out w1 HB.out).2.1);have HLZ:Hid ((bn a.nm).length<=400000000):=by show _<=_;rw[aa];exact HSELF.out.1
    clear HDM HGG hk HK h1 h23 HSELF;go_wp2_with fail;refine HD.out.mono ?_;rintro e w2 ⟨hr,B⟩;obtain⟨b,hb,hlb,rfl⟩:=Qk hr HLZ.out;have HBB:=hid hb;have HLB:=hid hlb;replace R0:=hid (kept R0.out B);replace R1:=hid (kept R1.out B);replace HB:=Bt' HB B;clear B HD hr hb hlb;go_wp2_with(refine wpList_store_row rfl 27 (.tmp 2) (.tmp 19) rfl (w.heap.size+1) (Tg.hs b) rfl rfl 27 zh R1.out (aD b) rfl (bW b) ?_);exact bodyPost_ret (H.ag results12 _ _ (w.heap.size+1) 27 (Tg.hs b) (0,0) _ rfl (X.aA R1.out) underlying27 (aD b)) rfl (HMK.out b true _ _ HM.out HCH.out HBB.out HLB.out (X.ai HB.out (by omega) _))
   ·have q1:(((a.k:Nat):Int)==1)=false:=by simp;omega
    have h04:a.k=0\/a.k=4:=by have:=hk.1;simp only at this;omega
    have HCH:=hid (RV (n:=bn a.nm) (f:=a.f) (x:=[a.x0,a.x1,a.x2,a.x3,a.x4,a.x5,a.x6,a.x7]) h04);clear h04;clear HDM HGG hk HK C1 h1 h23 HSELF;go_wp2_with(refine wpList_store_row rfl 27 (.tmp 2) (.tmp 21) rfl (w.heap.size+1) (Tg.hs zg) rfl rfl 27 zh R1.out (aD zg) rfl (bW zg) ?_);exact bodyPost_ret (H.ag results12 _ _ (w.heap.size+1) 27 (Tg.hs zg) (0,0) _ rfl (X.aA R1.out) underlying27 (aD zg)) rfl (HMK.out zg true (non 70) _ HM.out HCH.out (gZ 70) fh (X.ai HB.out (by omega) _))
def tgR(b:Tg)(q:Nat)(er:Int)(e:Ending):Prop:=e=.returned (if q=0 then .tuple #[.agg (Tg.cs zg),.int .i64 er] else .tuple #[.agg (Tg.cs { b with p:=q }),.int .i64 0])
theorem fC{P:Program}{ops:Array Oper}{rest:List Oper}{o:Oper}{a:Act}{w:World}{Q:Exit->Act->World->Prop}(hg:o.guard=none)(t:TypeId)(i j:Nat)(x y:Operand)(ho:o.op=.build t #[(i,x),(j,y)])
  (d:Option Tmp) (hd:o.dst=d) (u v:Value) (hx:a.eval x=u) (hy:a.eval y=v) (cells:Array Value) (hf:P.built t [(i,u),(j,v)]=some cells)
  (h:wpList P ops Q rest (a.put d (.agg cells)) w):wpList P ops Q (o::rest) a w:=by
 refine wpList_buildTo hg t _ ho d hd cells ?_ h;subst hx hy;rw[<-hf];simp
theorem xG(b:Tg)(q:Nat):prog.built 29 [(0,.agg (Tg.hs b)),(1,.int .u16 (q:Nat))]=some (Tg.cs { b with p:=q }):=by kernel_rfl
theorem jG(b:Tg)(q:Nat)(er:Int)(w:World):Calls prog 14 #[.agg (Tg.hs b),.int .u16 (q:Nat),.int .i64 er] w fun e W'=>tgR b q er e/\Below w.heap.size w W':=by
 have hsz:(w.alloc (.cells (Tg.hs b) 27)).heap.size=w.heap.size+1:=by simp
 obtain⟨V,hV⟩:=Ex' ((w.alloc (.cells (Tg.hs b) 27)).alloc (.cells zt 29));have R0:Hid (V.heap[w.heap.size]? = some (.cells (Tg.hs b) 27 (0,0))):=by show _=_;rw[<-hV];exact kept (aK w _ _) ((Below.refl _ _).alloc (le_refl _) _)
 have R1:Hid (V.heap[w.heap.size+1]? = some (.cells zt 29 (0,0))):=by show _=_;rw[<-hV,<-hsz];exact aK _ _ _
 have HB:Hid (Below w.heap.size w V):=by show Below _ _ _;rw[<-hV];exact((Below.refl _ w).alloc (le_refl _) _).alloc (by rw[hsz];omega) _
 by_cases h0:q=0
 ·have HR:Hid (tgR b q er (.returned (.tuple #[.agg (Tg.cs zg),.int .i64 er]))):=by show tgR _ _ _ _;unfold tgR;rw[if_pos h0]
  have q0:(((q:Nat):Int)==0)=true:=by rw[h0];rfl
  clear h0;go_enter func14,ntmps14;go_wp2_with(refine wpList_store_row rfl 29 (.tmp 6) (.tmp 10) rfl (w.heap.size+1) (Tg.cs zg) rfl rfl 29 zt R1.out (aG zg) rfl (cT zg) ?_);exact bodyPost_ret (H.ag results14 _ _ (w.heap.size+1) 29 (Tg.cs zg) (0,0) _ rfl (X.aA R1.out) underlying29 (aG zg)) rfl ⟨HR.out,X.ai HB.out (by omega) _⟩
 ·have HR:Hid (tgR b q er (.returned (.tuple #[.agg (Tg.cs { b with p:=q }),.int .i64 0]))):=by show tgR _ _ _ _;unfold tgR;rw[if_neg h0]
  have q0:(((q:Nat):Int)==0)=false:=by simp;omega
  clear h0;go_enter func14,ntmps14
  go_wp2_with(first
    | (refine wpList_load_row rfl 27 (.tmp 3) rfl w.heap.size rfl 27 (Tg.hs b) (0,0) _ R0.out underlying27 rfl (aD _) ?_)
    | (refine fC rfl 29 0 1 (.tmp 12) (.tmp 13) rfl (some 14) rfl (.agg (Tg.hs b)) (.int .u16 (q:Nat)) rfl rfl (Tg.cs { b with p:=q }) (xG b q) ?_)
    | (refine wpList_store_row rfl 29 (.tmp 6) (.tmp 14) rfl (w.heap.size+1) (Tg.cs { b with p:=q }) rfl rfl 29 zt R1.out (aG _) rfl (cT _) ?_))
  exact bodyPost_ret (H.ag results14 _ _ (w.heap.size+1) 29 (Tg.cs { b with p:=q }) (0,0) _ rfl (X.aA R1.out) underlying29 (aG _)) rfl ⟨HR.out,X.ai HB.out (by omega) _⟩
end Cn
namespace Y
open F (bn bC)
structure Us where
 sc:ByteArray
 us:ByteArray
 pa:ByteArray
 hh:Bool
 k:Nat
 nm:ByteArray
 f:Nat
 x0:Nat
 x1:Nat
 x2:Nat
 x3:Nat
 x4:Nat
 x5:Nat
 x6:Nat
 x7:Nat
 hp:Bool
 pr:Nat
 op:Bool
 pv:Value
 bo:ByteArray
 hq:Bool
 qu:ByteArray
 hf:Bool
 fg:ByteArray
def Us.cs(a:Us):Array Value:=#[.string a.sc,.string a.us,.string a.pa,.bool a.hh,.int .u8 (a.k:Nat),.string a.nm,.int .u32 (a.f:Nat),.int .u16 (a.x0:Nat),.int .u16 (a.x1:Nat),.int .u16 (a.x2:Nat),.int .u16 (a.x3:Nat),.int .u16 (a.x4:Nat),.int .u16 (a.x5:Nat),.int .u16 (a.x6:Nat),.int .u16 (a.x7:Nat),.bool a.hp,.int .u16 (a.pr:Nat),.bool a.op,a.pv,.string a.bo,.bool a.hq,.string a.qu,.bool a.hf,.string a.fg]
def Strs(w:World)(v:Value)(ps:List ByteArray):Prop:=(ps=[]/\v=.slice none 0 0)\/∃ b off c,v=.slice (some ⟨b,off,none⟩) ps.length c/\ps.length<=c/\∀ i,i<ps.length->w.cell? ⟨b,off+i,none⟩=some (.string (ps[i]?.getD ⟨#[]⟩))
theorem Strs.form{w:World}{v:Value}{ps:List ByteArray}(h:Strs w v ps):∃(ad:Option Addr) (c:Nat),v=.slice ad ps.length c/\ps.length<=c/\(ps=[]\/∃ b off,ad=some ⟨b,off,none⟩/\∀ i,i<ps.length->w.cell? ⟨b,off+i,none⟩=some (.string (ps[i]?.getD ⟨#[]⟩))):=by
 rcases h with⟨rfl,rfl⟩ | ⟨b,off,c,rfl,hc,hi⟩
 ·exact⟨none,0,rfl,le_refl _,.inl rfl⟩
 ·exact⟨_,c,rfl,hc,.inr ⟨b,off,rfl,hi⟩⟩
structure At(w:World)(a:Us)(u:Ur):Prop where
 sc:bn a.sc=u.sch
 us:bn a.us=u.usr
 pa:bn a.pa=u.pas
 hh:a.hh=u.hh
 ho:(a.k,bn a.nm,a.f,[a.x0,a.x1,a.x2,a.x3,a.x4,a.x5,a.x6,a.x7])=u.hst
 hp:a.hp=u.hp
 pr:a.pr=u.prt
 op:a.op=u.opq
 bo:bn a.bo=u.bod
 hq:a.hq=u.hq
 qu:bn a.qu=u.qry
 hf:a.hf=u.hf
 fg:bn a.fg=u.frg
 pv:∃ ps,ps.map bn=u.pth/\Strs w a.pv ps
theorem ug(a:Us):(prog.info? 42).map (·.size)=some a.cs.size:=by kernel_rfl
theorem aK(w:World)(cs:Array Value)(t:TypeId):(w.alloc (.cells cs t)).heap[w.heap.size]? = some (.cells cs t (0,0)):=heap_alloc_new w _
theorem xJ{w W:World}{B:Nat}{v:Value}{ps:List ByteArray}(h:w.ownsRow B 9 1 v ps.length (ps.map Value.string))(hW:∀ k,B<=k->W.heap[k]? = w.heap[k]?):Strs W v ps:=by
 rcases h.2 with⟨rfl,h0⟩ | ⟨g,cap,cur,rfl,hb,hg,hn,hc,hs,hx⟩
 ·exact .inl ⟨List.length_eq_zero_iff.1 h0,rfl⟩
 ·refine .inr ⟨g,0,cap,rfl,hn,fun i hi=>?_⟩;rw[zero_add,cell_of_row W g i cur _ _ ((hW g hb).trans hg)];have e:=congrArg (fun l:List Value=>l[i]?) hx;simp only[Nat.mul_one]at e;rw[List.getElem?_take_of_lt hi,getElem?_map,getElem?_eq_getElem hi]at e;rw[getElem?_eq_getElem hi,<-Array.getElem?_toList,e];rfl
theorem QR(a:Us)(ad:Option Addr)(n c:Nat):(Us.cs { a with pv:=.slice ad n c }).all (·.oneCell')=true:=by simp[Us.cs,Value.oneCell']
theorem dC{B:Nat}{a w:World}(h:Below B a w){g:Nat}(hg:B<=g)(cs:Array Value):Below B a (w.setRow g cs):=by
 refine⟨h.os,h.tape,h.output,?_,fun k hk=>?_⟩
 ·rw[setRow_size];exact h.size
 ·rw[setRow_other w g k cs (by omega)];exact h.block k hk
theorem Lq(ps:List ByteArray):∀ u∈ps.map Value.string,u.oneCell'=true:=fun u hu=>by obtain⟨p,_,rfl⟩:=List.mem_map.1 hu;rfl
theorem Re:(prog.info? 9).map (fun i=>(i.zero,i.size,i.bytes))=some (some (.string ⟨#[]⟩),1,16):=by kernel_rfl
theorem cX{w:World}{ops:Array Oper}{rest:List Oper}{o:Oper}{a:Act}{Q:Exit->Act->World->Prop}(hgd:o.guard=none)(s x:Operand)
  (ho:o.op=.call { callee:=.builtin .append,args:=#[s,x],argTypes:=#[40,40] }) (base:Nat) (v:Value) (n:Nat) (ys:List ByteArray) (hs:a.eval s=v) (hown:w.ownsRow base 9 1 v n (ys.map Value.string))
  (u:Value) (zs:List ByteArray) (hx:a.eval x=u) (hu:Strs w u zs) (hbd:n+zs.length<=1000000000) (hbase:base<=w.heap.size)
  (h:∀ v' w',w'.ownsRow base 9 1 v' (n+zs.length) ((ys++zs).map Value.string)->w.grownBy w' v.ownBlock->wpList prog ops Q rest (a.put o.dst v') w'):wpList prog ops Q (o::rest) a w:=by
 obtain⟨i0,hi,hz0,hz1,hz2⟩:=info_parts Re;rcases hu with⟨rfl,rfl⟩ | ⟨b,off,c,rfl,hc,hcell⟩
 ·exact wpList_append_own_none hgd s x 40 ho base 9 i0 1 underlying40 hi v n _ hs hown hx (h v w (by simpa using hown) ⟨rfl,rfl,rfl,le_refl _,fun _ _ _=>rfl⟩)
 ·refine wpList_append_own w hgd s x 40 ho base 9 i0 (.string ⟨#[]⟩) 1 16 underlying40 hi hz0 hz1 hz2 rfl (by decide) v n _ hs hown ⟨b,off,none⟩ zs.length c (zs.map Value.string) hx (by simp) ?_ (Lq zs) (by unfold maxLen;omega) (by omega) hbase (fun v' w' h1 h2 _=>h v' w' (by simpa using h1) h2);intro j y hj;rw[getElem?_map]at hj;obtain⟨c',hc',rfl⟩:=Option.map_eq_some_iff.1 hj;have hj':=(List.getElem?_eq_some_iff.1 hc').1;have:=hcell j hj';rw[hc']at this;rw[Addr.add_lit];exact this
abbrev zc:Array Value:=#[.string ⟨#[]⟩,.string ⟨#[]⟩,.string ⟨#[]⟩,.bool false,.int .u8 0,.string ⟨#[]⟩,.int .u32 0,.int .u16 0,.int .u16 0,.int .u16 0,.int .u16 0,.int .u16 0,.int .u16 0,.int .u16 0,.int .u16 0,.bool false,.int .u16 0,.bool false,.slice none 0 0,.string ⟨#[]⟩,.bool false,.string ⟨#[]⟩,.bool false,.string ⟨#[]⟩]
open F (aa bC hid ay)
theorem Mt(s C:ByteArray)(h1:1<=C.size)(hz:C.size<=1000)(hA:E.Asc C)(hs:s.size<=400000000)(w:World):Calls prog 120 #[.string s,.string C] w fun e W'=>e=.returned (.int .i64 (Lib.indexAny s.data.toList C.data.toList))/\Below w.heap.size w W':=by
 have hf:Tryz.laysAny_ren.f 153=120:=by kernel_rfl
 have hac:∀(j:Nat) b,C.data.toList[j]? = some b->b.toNat<128:=fun j b hb=>hA b (mem_of_getElem? hb);by_cases h2:C.size=1
 ·have h:=Any.strings_IndexAny_one Tryz.laysAny s C w h2 hac;rw[hf]at h;exact h.mono (fun e W' ⟨h,h'⟩=>⟨h,h' ▸ Below.refl _ _⟩)
 by_cases h8:s.size<=8
 ·exact H.rR s C (by omega) hz hA h8 w
 ·have h:=Any.strings_IndexAny_long Tryz.laysAny (fun w=>by kernel_rfl) (by kernel_rfl) s C w (by omega) (by omega) (by omega) (by omega) hac;rw[hf]at h;refine h.mono ?_;rintro e W' ⟨rfl,rfl⟩;exact⟨rfl,((Below.refl _ _).alloc (le_refl _) _).alloc (by simp) _⟩
theorem Cz(C:ByteArray)(w:World):Calls prog 87 #[.string C] w fun e W'=>e=.returned (.func (.func 144) #[] #[.pointer (some ⟨w.heap.size,0,none⟩)])/\W'=w.alloc (.cells #[.string C] 9):=by go_enter func87,ntmps87;go_wp2;go_ret;exact⟨rfl,rfl⟩
theorem pN(s C:ByteArray)(h1:1<=C.size)(hz:C.size<=1000)(hA:E.Asc C)(hs:s.size<=400000000)(k:Nat)(w:World)(hk:w.cell? ⟨k,0,none⟩=some (.string C)):Calls prog 144 #[.string s,.pointer (some ⟨k,0,none⟩)] w fun e W'=>e=.returned (.int .i64 (Lib.indexAny s.data.toList C.data.toList))/\Below w.heap.size w W':=by have HI:=hid (Mt s C h1 hz hA hs w);obtain⟨z,hz⟩:=Ex' (Lib.indexAny s.data.toList C.data.toList);rw[hz]at HI ⊢;clear hz;go_enter func144,ntmps144;go_wp2_with(go_at_call 120;refine HI.out.mono ?_;rintro e w1 ⟨rfl,B1⟩);have HB:=hid B1;clear B1;go_wp2;go_ret;exact⟨rfl,HB.out⟩
def DM(s:ByteArray)(n:Int)(a r:ByteArray):Prop:=(n=-1/\a=s/\r=⟨#[]⟩)\/∃ k:Nat,n=k/\k<s.size/\a=s.extract 0 k/\r=s.extract k s.size
theorem dp(g:Nat)(lb:Array Value)(eg:∀ args w,(callFunc g args).run prog w=.ok (.enter g args) w)(s a r:ByteArray)(n:Int)(hs:s.size<=400000000)(hc:DM s n a r)(w:World)(hp:Calls prog g (#[.string s]++lb) w fun e W'=>e=.returned (.int .i64 n)/\Below w.heap.size w W'):Calls prog 143 #[.string s,.func (.func g) #[] lb] w fun e W'=>e=.returned (.tuple #[.string a,.string r])/\Below w.heap.size w W':=by
 rcases hc with⟨rfl,rfl,rfl⟩ | ⟨k,rfl,hk,rfl,rfl⟩
 ·go_enter func143,ntmps143;go_wp2_with(go_at_fn g;refine hp.mono ?_;rintro e w1 ⟨rfl,B1⟩);have HB:=hid B1;clear B1;go_wp2;go_ret2;exact⟨rfl,HB.out⟩
 ·have hkz:(k:Int)<(s.size:Int):=by omega
  go_enter func143,ntmps143;go_wp2_with(go_at_fn g;refine hp.mono ?_;rintro e w1 ⟨rfl,B1⟩);have HB:=hid B1;clear B1
  go_region
  all_goals (
    go_wp2
    go_ret2
    exact⟨rfl,HB.out.drew⟩)
theorem jW(g:Nat)(lb:Array Value)(eg:∀ args w,(callFunc g args).run prog w=.ok (.enter g args) w)(s a r:ByteArray)(n:Int)(hs:s.size<=400000000)(hc:DM s n a r)(w:World)(hp:Calls prog g (#[.string s]++lb) w fun e W'=>e=.returned (.int .i64 n)/\Below w.heap.size w W'):Calls prog 86 #[.string s,.func (.func g) #[] lb] w fun e W'=>e=.returned (.tuple #[.string a,.string (r.extract 1 r.size),.bool (decide (0<r.size))])/\Below w.heap.size w W':=by
 have HC:=hid (dp g lb eg s a r n hs hc w hp)
 have hrs:r.size<=400000000:=by
  rcases hc with⟨_,_,rfl⟩ | ⟨k,_,hk,_,rfl⟩
  ·decide
  ·rw[size_extract];omega
 clear hp;by_cases hr:r=⟨#[]⟩
 ·have ha:a=s:=by
   rcases hc with⟨_,h,_⟩ | ⟨k,_,hk,_,rfl⟩
   ·exact h
   ·have:=congrArg ByteArray.size hr;rw[size_extract]at this;have h0:(⟨#[]⟩:ByteArray).size=0:=rfl;omega
  subst ha hr;have e1:((⟨#[]⟩:ByteArray).extract 1 (⟨#[]⟩:ByteArray).size)=⟨#[]⟩:=by decide
  have e2:decide (0<(⟨#[]⟩:ByteArray).size)=false:=by decide
  rw[e1,e2];clear hc e1 e2;go_enter func86,ntmps86;go_wp2_with(go_at_call 143;refine HC.out.mono ?_;rintro e w1 ⟨rfl,B1⟩);have HB:=hid B1;clear B1;go_wp2;go_ret3;exact⟨rfl,HB.out⟩
 ·have hr0:0<r.size:=Nat.pos_of_ne_zero (fun h=>hr (by
    apply bC
    have:=aa r
    rw[h]at this
    rw[List.length_eq_zero_iff.1 this];rfl))
  have hrz:(1:Int)<=(r.size:Int):=by omega
  have he:r.toList.isEmpty=false:=ay r hr0;rw[decide_eq_true hr0];clear hc hr;go_enter func86,ntmps86;go_wp2_with(go_at_call 143;refine HC.out.mono ?_;rintro e w1 ⟨rfl,B1⟩);have HB:=hid B1;clear B1
  go_region
  all_goals (
    go_wp2
    go_ret3
    exact⟨rfl,HB.out.drew⟩)
open F (bn aa hid aw)
structure Rd where
 u:Us
 re:ByteArray
 sp:Bool
 sl:ByteArray
 po:ByteArray
def Rd.cs(r:Rd):Array Value:=#[.string r.u.sc,.string r.u.us,.string r.u.pa,.bool r.u.hh,.int .u8 (r.u.k:Nat),.string r.u.nm,.int .u32 (r.u.f:Nat),.int .u16 (r.u.x0:Nat),.int .u16 (r.u.x1:Nat),.int .u16 (r.u.x2:Nat),.int .u16 (r.u.x3:Nat),.int .u16 (r.u.x4:Nat),.int .u16 (r.u.x5:Nat),.int .u16 (r.u.x6:Nat),.int .u16 (r.u.x7:Nat),.bool r.u.hp,.int .u16 (r.u.pr:Nat),.bool r.u.op,r.u.pv,.string r.u.bo,.bool r.u.hq,.string r.u.qu,.bool r.u.hf,.string r.u.fg,.string r.re,.bool r.sp,.string r.sl,.string r.po]
def fns(b:Nat):Array Value:=#[.func (.func 45) #[.pointer (some ⟨b,0,none⟩)] #[],.func (.func 46) #[.pointer (some ⟨b,0,none⟩)] #[],.func (.func 47) #[.pointer (some ⟨b,0,none⟩)] #[],.func (.func 48) #[.pointer (some ⟨b,0,none⟩)] #[],.func (.func 49) #[.pointer (some ⟨b,0,none⟩)] #[],.func (.func 50) #[.pointer (some ⟨b,0,none⟩)] #[],.func (.func 51) #[.pointer (some ⟨b,0,none⟩)] #[],.func (.func 52) #[.pointer (some ⟨b,0,none⟩)] #[]]
structure St(w0:World)(b:Nat)(W:World)(r:Rd)(ps:List ByteArray):Prop where
 row:W.heap[b]? = some (.cells (Rd.cs r) 63 (0,0))
 lo:Below w0.heap.size w0 W
 hb:w0.heap.size<=b
 ks:∃ T,W.heap[b+1]? = some (.cells (fns b) T (0,0))
 ow:W.ownsRow (b+2) 9 1 r.u.pv ps.length (ps.map Value.string)
theorem St.lt{w0 W:World}{b:Nat}{r:Rd}{ps:List ByteArray}(h:St w0 b W r ps):b<W.heap.size:=(Array.getElem?_eq_some_iff.1 h.row).1
theorem St.below{w0 W W':World}{b:Nat}{r:Rd}{ps:List ByteArray}(h:St w0 b W r ps)(hb:Below W.heap.size W W'):St w0 b W' r ps :=
 ⟨(hb.block b h.lt).trans h.row,h.lo.trans (hb.mono h.lo.size),h.hb,h.ks.imp (fun T k=>(hb.block (b+1) (Array.getElem?_eq_some_iff.1 k).1).trans k),U.ax h.ow hb (le_refl _)⟩
theorem St.put{w0 W:World}{b:Nat}{r:Rd}{ps:List ByteArray}(h:St w0 b W r ps)(i:Nat)(v:Value)(r':Rd)(he:(Rd.cs r).setIfInBounds i v=Rd.cs r')(hp:r'.u.pv=r.u.pv):St w0 b (W.setCell ⟨b,i,none⟩ v) r' ps:=by refine⟨(heap_setCell_same W b i _ _ v h.row).trans (by rw[he]),h.lo.setCell (p:=⟨b,i,none⟩) h.hb v,h.hb,h.ks.imp (fun T k=>(heap_setCell_other W ⟨b,i,none⟩ (b+1) v (by show b+1≠b;omega)).trans k),?_⟩;rw[hp];exact ownsRow_setCell_below h.ow (a:=⟨b,i,none⟩) (by show b<b+2;omega) v
theorem St.cell{w0 W:World}{b:Nat}{r:Rd}{ps:List ByteArray}(h:St w0 b W r ps)(i:Nat)(v:Value)(e:(Rd.cs r)[i]? = some v):W.cell? ⟨b,i,none⟩=some v/\W.frozen? ⟨b,i,none⟩=false:=⟨(cell_of_row _ _ i _ _ _ h.row).trans e,frozen_of_row _ _ i _ _ h.row⟩
theorem pZ(s C:ByteArray)(f:Int->Bool)(hC:∀ x:UInt8,C.data.toList.contains x=f (x.toNat:Int)):∃ a r,DM s (Lib.indexAny s.data.toList C.data.toList) a r/\bn a=(bn s).takeWhile (fun c=>!f c)/\bn r=(bn s).dropWhile (fun c=>!f c):=by
 have key:∀ l:List UInt8,(Lib.indexAny l C.data.toList=-1/\(l.map fun c:UInt8=>(c.toNat:Int)).takeWhile (fun c=>!f c)=l.map (fun c:UInt8=>(c.toNat:Int))/\(l.map fun c:UInt8=>(c.toNat:Int)).dropWhile (fun c=>!f c)=[])\/∃ k:Nat,Lib.indexAny l C.data.toList=k/\k<l.length/\(l.map fun c:UInt8=>(c.toNat:Int)).takeWhile (fun c=>!f c)=(l.map fun c:UInt8=>(c.toNat:Int)).take k/\(l.map fun c:UInt8=>(c.toNat:Int)).dropWhile (fun c=>!f c)=(l.map fun c:UInt8=>(c.toNat:Int)).drop k:=by
  intro l
  induction l with
  | nil=>exact .inl ⟨rfl,rfl,rfl⟩
  | cons x l ih =>
   rw[map_cons,List.takeWhile_cons,dropWhile_cons];unfold Lib.indexAny;rw[hC];cases hx:f (x.toNat:Int)
   ·simp only[Bool.not_false,if_true,false_eq_true,if_false];rcases ih with⟨h1,h2,h3⟩ | ⟨k,h1,h2,h3,h4⟩
    ·rw[h1,h2,h3];exact .inl ⟨rfl,rfl,rfl⟩
    ·rw[h1,h3,h4];refine .inr ⟨k+1,?_,by simp;omega,rfl,rfl⟩;rw[if_neg (by simp <;> omega)];omega
   ·simp only[Bool.not_true,if_true,false_eq_true,if_false];exact .inr ⟨0,rfl,by simp,rfl,rfl⟩
 have hl:s.size=s.data.toList.length:=Lib.size_eq s;rcases key s.data.toList with⟨h1,h2,h3⟩ | ⟨k,h1,h2,h3,h4⟩
 ·exact⟨s,⟨#[]⟩,.inl ⟨h1,rfl,rfl⟩,h2.symm,h3.symm⟩
 ·refine⟨s.extract 0 k,s.extract k s.size,.inr ⟨k,h1,by omega,rfl,rfl⟩,?_,?_⟩
  ·rw[show bn (s.extract 0 k)=(bn s).take k from by unfold bn;rw[Lib.extract_data,drop_zero,sub_zero,map_take]];exact h3.symm
  ·rw[aw];exact h4.symm
theorem Ey(g:Nat)(lb:Array Value)(eg:∀ args w,(callFunc g args).run prog w=.ok (.enter g args) w)(a t:ByteArray)(n:Int)(w0 W:World)(b:Nat)(r:Rd)(ps:List ByteArray)(hS:St w0 b W r ps)(hs:r.re.size<=400000000)(hc:DM r.re n a t)
  (hp:Calls prog g (#[.string r.re]++lb) W fun e W'=>e=.returned (.int .i64 n)/\Below W.heap.size W W') :
  Calls prog 92 #[.pointer (some ⟨b,0,none⟩),.func (.func g) #[] lb] W fun e W'=>e=.returned (.string a)/\St w0 b W' { r with re:=t } ps/\∀ j,j<W.heap.size->j≠b->W'.heap[j]? = W.heap[j]? := by
 have HC:=hid (dp g lb eg r.re a t n hs hc W hp);obtain⟨F24,_⟩:=hS.cell 24 (.string r.re) rfl;have HS:=hid hS;obtain⟨x,hx⟩:=Ex' r.re;rw[hx]at HC F24;clear hp hc hS hx;go_enter func92,ntmps92;go_wp2_with fail;refine HC.out.mono ?_;rintro e w1 ⟨rfl,B1⟩;have S1:=HS.out.below B1;obtain⟨G24,Z24⟩:=S1.cell 24 (.string r.re) rfl;have HB:=hid B1;have HS1:=hid S1;clear F24 B1 S1;go_wp2;go_ret;refine⟨rfl,HS1.out.put 24 _ _ rfl rfl,fun j hj hn=>?_⟩;rw[heap_setCell_other _ _ _ _ (by exact hn)];exact HB.out.block j hj
def Fst(C:ByteArray)(f:Int->Bool):Prop:=1<=C.size/\C.size<=1000/\E.Asc C/\∀ x:UInt8,C.data.toList.contains x=f (x.toNat:Int)
theorem jT{C:ByteArray}{f:Int->Bool}(h1:decide (1<=C.size/\C.size<=1000)=true)(h2:∀ n:Fin 256,C.data.toList.contains (UInt8.ofNat n.val)=f (n.val:Int))(h3:∀ n:Fin 256,128<=n.val->f (n.val:Int)=false):Fst C f:=by
 have hx:∀ x:UInt8,C.data.toList.contains x=f (x.toNat:Int):=fun x=>by have:=h2 ⟨x.toNat,x.toNat_lt⟩;simpa using this
 refine⟨(of_decide_eq_true h1).1,(of_decide_eq_true h1).2,fun b hb=>?_,hx⟩;rcases Nat.lt_or_ge b.toNat 128 with h | h
 ·exact h
 ·have e:=h3 ⟨b.toNat,b.toNat_lt⟩ h;rw[<-hx,Bool.eq_false_iff]at e;exact absurd (List.contains_iff_mem.2 hb) e
def Hy(c:Int):Bool:=decide (c=58)
def PQ(c:Int):Bool:=decide (c=35)
theorem f58:Fst ⟨#[58]⟩ Hy:=jT (by decide) (by decide +kernel) (by decide +kernel)
theorem f35:Fst ⟨#[35]⟩ PQ:=jT (by decide) (by decide +kernel) (by decide +kernel)
theorem fqm:Fst ⟨#[63,35]⟩ qm:=jT (by decide) (by decide +kernel) (by decide +kernel)
def ia(sp:Bool):ByteArray:=if sp=true then ⟨#[47,92]⟩ else ⟨#[47]⟩
theorem fsl(sp:Bool):Fst (ia sp) (Y.sl sp):=by
 cases sp
 ·exact jT (by decide) (by decide +kernel) (by decide +kernel)
 ·exact jT (by decide) (by decide +kernel) (by decide +kernel)
theorem fau(sp:Bool):Fst (ia sp++⟨#[63,35]⟩) (fun c=>Y.sl sp c||qm c):=by
 cases sp
 ·exact jT (by decide) (by decide +kernel) (by decide +kernel)
 ·exact jT (by decide) (by decide +kernel) (by decide +kernel)
theorem dz(C:ByteArray)(w:World):Calls prog 87 #[.string C] w fun e W'=>(∃ k,e=.returned (.func (.func 144) #[] #[.pointer (some ⟨k,0,none⟩)])/\W'.cell? ⟨k,0,none⟩=some (.string C))/\Below w.heap.size w W' :=
 (Cz C w).mono (by
   rintro e W' ⟨rfl,rfl⟩
   exact⟨⟨_,rfl,cell_of_row _ _ 0 _ _ _ (aK w _ _)⟩,(Below.refl _ w).alloc (le_refl _) _⟩)
theorem jg{C:ByteArray}{f:Int->Bool}(hF:Fst C f)(s:ByteArray)(hs:s.size<=400000000):∃(a d:ByteArray) (y:Bool),bn a=(bn s).takeWhile (fun c=>!f c)/\bn d=((bn s).dropWhile (fun c=>!f c)).drop 1/\y=decide ((bn s).dropWhile (fun c=>!f c)≠[])/\∀(W:World) (k:Nat),W.cell? ⟨k,0,none⟩=some (.string C)->Calls prog 86 #[.string s,.func (.func 144) #[] #[.pointer (some ⟨k,0,none⟩)]] W fun e W'=>e=.returned (.tuple #[.string a,.string d,.bool y])/\Below W.heap.size W W':=by
 obtain⟨a,r,hc,h1,h2⟩:=pZ s C f hF.2.2.2;refine⟨a,r.extract 1 r.size,decide (0<r.size),h1,by rw[aw,h2],?_,fun W k hk=>?_⟩
 ·rw[<-h2,Bool.eq_iff_iff,decide_eq_true_iff,decide_eq_true_iff,<-aa r];exact List.length_pos_iff
 ·exact jW 144 #[.pointer (some ⟨k,0,none⟩)] (enters_of func144 (by kernel_rfl) rfl) s a r _ hs hc W (pN s C hF.1 hF.2.1 hF.2.2.1 hs k W hk)
theorem gC{C:ByteArray}{f:Int->Bool}(hF:Fst C f)(s:ByteArray)(hs:s.size<=400000000):∃(a t:ByteArray),bn a=(bn s).takeWhile (fun c=>!f c)/\bn t=(bn s).dropWhile (fun c=>!f c)/\∀(w0 W:World) (b:Nat) (r:Rd) (ps:List ByteArray) (k:Nat),r.re=s->St w0 b W r ps->W.cell? ⟨k,0,none⟩=some (.string C)->Calls prog 92 #[.pointer (some ⟨b,0,none⟩),.func (.func 144) #[] #[.pointer (some ⟨k,0,none⟩)]] W fun e W'=>e=.returned (.string a)/\St w0 b W' { r with re:=t } ps/\∀ j,j<W.heap.size->j≠b->W'.heap[j]? = W.heap[j]? := by obtain⟨a,t,hc,h1,h2⟩:=pZ s C f hF.2.2.2;refine⟨a,t,h1,h2,fun w0 W b r ps k he hS hk=>?_⟩;subst he;exact Ey 144 #[.pointer (some ⟨k,0,none⟩)] (enters_of func144 (by kernel_rfl) rfl) a t _ w0 W b r ps hS hs hc (pN r.re C hF.1 hF.2.1 hF.2.2.1 hs k W hk)
end Y
end Go.Proofs.YtmkompnhefhngaaGreatDoor
namespace Go.Proofs
open Go.Shelf Go.RowKit
shelf_lay Lays.n161 Nm 161 at Tryz as Tryz.laysTrL
shelf_lay Lays.n159 Nm 159 at Tryz as Tryz.laysLow
end Go.Proofs
namespace Go.Proofs.YtmkompnhefhngaaGreatDoor
open Tryz Go.RowKit
namespace Y
open Go.RowKit Go.Shelf
open F (bn aa hid aw)
def hpr(s p:ByteArray):Bool:=Lib.hasPrefix s.data.toList p.data.toList
theorem ph{a b:UInt8}(h:(a.toNat:Int)=(b.toNat:Int)):a=b:=UInt8.toNat_inj.1 (by omega)
theorem px(s p:ByteArray):hpr s p=decide ((bn s).take p.size=bn p):=by
 unfold hpr Lib.hasPrefix;rw[Bool.eq_iff_iff,decide_eq_true_iff,List.isPrefixOf_iff_prefix];have hl:p.size=p.data.toList.length:=Lib.size_eq p;unfold bn;rw[<-map_take,hl];constructor
 ·rintro⟨t,e⟩;rw[<-e,List.take_left]
 ·intro h
  have hi:∀ {a b:List UInt8},a.map (fun c:UInt8=>(c.toNat:Int))=b.map (fun c:UInt8=>(c.toNat:Int))->a=b:=by
   intro a
   induction a with
   | nil=>intro b h;cases b with
    | nil=>rfl
    | cons _ _=>cases h
   | cons x a ih=>intro b h;cases b with
    | nil=>cases h
    | cons y b =>
     simp only[map_cons,List.cons.injEq]at h;rw[ph h.1,ih h.2]
  rw[<-hi h];exact List.take_prefix _ _
theorem Ii{s p:ByteArray}(h:hpr s p=true):p.size<=s.size:=by rw[px]at h;have:=congrArg List.length (of_decide_eq_true h);rw[length_take,aa,aa]at this;omega
theorem vI(s p:ByteArray)(w:World):Calls prog 105 #[.string s,.string p] w fun e W'=>e=.returned (.bool (hpr s p))/\W'=w:=by
 have hf:Tryz.laysPre_ren.f 206=105:=by kernel_rfl
 have h:=Any.stringslite_HasPrefix Tryz.laysPre s p w;rw[hf]at h;exact h
theorem mS(s p:ByteArray)(w:World):Calls prog 91 #[.string s,.string p] w fun e W'=>e=.returned (.bool (hpr s p))/\W'=w:=by have HL:=hid (vI s p w);obtain⟨z,hz⟩:=Ex' (hpr s p);rw[hz]at HL ⊢;clear hz;go_enter func91,ntmps91;go_wp2_with(go_at_call 105;refine HL.out.mono ?_;rintro e w' ⟨rfl,hw⟩;obtain rfl:=hw.symm);go_ret;exact⟨rfl,rfl⟩
def cpx(s p:ByteArray):ByteArray:=if hpr s p=true then s.extract p.size s.size else s
theorem qc(s p:ByteArray)(hs:s.size<=400000000)(w:World):Calls prog 31 #[.string s,.string p] w fun e W'=>e=.returned (.tuple #[.string (cpx s p),.bool (hpr s p)])/\W'=w:=by
 have HL:Hid (Calls prog 59 #[.string s,.string p] w fun e W'=>e=.returned (.tuple #[.string (cpx s p),.bool (hpr s p)])/\W'=w):=by
  have HP:=hid (vI s p w);unfold cpx;cases hz:hpr s p
  ·rw[hz]at HP;rw[if_neg (by simp)];clear hz;go_enter func59,ntmps59;go_wp2_with(go_at_call 105;refine HP.out.mono ?_;rintro e w' ⟨rfl,hw⟩;obtain rfl:=hw.symm);go_ret2;exact⟨rfl,rfl⟩
  ·have hzz:(p.size:Int)<=(s.size:Int):=by have:=Ii hz;omega
   rw[hz]at HP;rw[if_pos rfl];clear hz;go_enter func59,ntmps59;go_wp2_with(go_at_call 105;refine HP.out.mono ?_;rintro e w' ⟨rfl,hw⟩;obtain rfl:=hw.symm);go_ret2;exact⟨rfl,rfl⟩
 obtain⟨y,hy⟩:=Ex' (cpx s p);obtain⟨z,hz⟩:=Ex' (hpr s p);rw[hy,hz]at HL ⊢;clear hz hy;go_enter func31,ntmps31;go_wp2_with(go_at_call 59;refine HL.out.mono ?_;rintro e w' ⟨rfl,hw⟩;obtain rfl:=hw.symm);go_ret2;exact⟨rfl,rfl⟩
theorem mX(s:ByteArray)(c:UInt8):hpr s ⟨#[c]⟩=decide ((bn s).head? = some (c.toNat:Int)):=by
 rw[px];show decide ((bn s).take 1=[(c.toNat:Int)])=_;cases bn s with
 | nil=>rfl
 | cons d l=>rw[Bool.eq_iff_iff,decide_eq_true_iff,decide_eq_true_iff];simp
theorem yV(s p:ByteArray):bn (cpx s p)=if hpr s p=true then (bn s).drop p.size else bn s:=by
 unfold cpx;split
 ·exact aw s _
 ·rfl
def Bc:ByteArray:=⟨#[47,92]⟩
theorem sb(s:ByteArray)(w:World):Calls prog 90 #[.string s,.string Bc] w fun e W'=>(∃ t,e=.returned (.string t)/\bn t=(bn s).dropWhile (sl true))/\Below w.heap.size w W':=by
 have hf:Tryz.laysTrL_ren.f 161=90:=by kernel_rfl
 have hT:bn ⟨(Lib.trimLeftS s.data.toList Bc.data.toList).toArray⟩=(bn s).dropWhile (sl true):=by
  show(Lib.trimLeftS s.data.toList [47,92]).map (fun c:UInt8=>(c.toNat:Int))=(s.data.toList.map (fun c:UInt8=>(c.toNat:Int))).dropWhile (sl true);unfold Lib.trimLeftS;rw[List.dropWhile_map];congr 2;funext c;show([47,92]:List UInt8).contains c=sl true (c.toNat:Int);unfold sl;rw[Bool.eq_iff_iff,List.contains_iff_mem];simp only[List.mem_cons,List.not_mem_nil,or_false,Bool.true_and,Bool.or_eq_true,decide_eq_true_eq];constructor
  ·rintro(rfl | rfl)
   ·left;rfl
   ·right;rfl
  ·rintro(h | h)
   ·left;exact ph h
   ·right;exact ph h
 by_cases h0:s.size=0
 ·have h:=Any.strings_TrimLeft_empty Tryz.laysTrL s Bc w (.inl h0);rw[hf]at h;refine h.mono ?_;rintro e W' ⟨rfl,rfl⟩;refine⟨⟨_,rfl,?_⟩,Below.refl _ _⟩;have hb:bn s=[]:=List.length_eq_zero_iff.1 ((aa s).trans h0);rw[hb];rfl
 ·have h:=Any.strings_TrimLeft_set Tryz.laysTrL (fun w=>by kernel_rfl) (by kernel_rfl) s Bc w (by decide) (by omega) (by decide) (fun j b hb=>by
    have:=mem_of_getElem? hb
    have h2:b=47\/b=92:=by simpa[Bc]using this
    rcases h2 with rfl | rfl <;> decide)
  rw[hf]at h;refine h.mono ?_;rintro e W' ⟨rfl,rfl⟩;exact⟨⟨_,rfl,hT⟩,((Below.refl _ _).alloc (le_refl _) _).alloc (by simp) _⟩
theorem Sp:Builder.Extra prog Tryz.laysLow_ren where
 sizeBuilder:=by kernel_rfl
 liesBuilder:=by kernel_rfl
 t5:=by kernel_rfl
 a5:=fun w=>by kernel_rfl
 z5:=fun w=>by kernel_rfl
 v5:=fun w=>by kernel_rfl
 infoByte:=by kernel_rfl
 cellsByte:=by kernel_rfl
 sizeByte:=by kernel_rfl
 neB5:=by decide
theorem sX:∀ n:Fin 256,n.val<128->((Lib.lowerB (UInt8.ofNat n.val)).toNat:Int)=low (n.val:Int):=by decide +kernel
theorem PH(c:UInt8)(h:c.toNat<128):((Lib.lowerB c).toNat:Int)=low (c.toNat:Int):=by have:=sX ⟨c.toNat,by have:=c.toNat_lt;omega⟩ h;simpa using this
theorem BT(s:ByteArray)(hs:s.size<=400000000)(ha:∀ c∈bn s,c<128)(w:World):Calls prog 89 #[.string s] w fun e W'=>(∃ t,e=.returned (.string t)/\bn t=(bn s).map low)/\Below w.heap.size w W':=by
 have hf:Tryz.laysLow_ren.f 159=89:=by kernel_rfl
 have hb:∀ b∈s.data.toList,b.toNat<128:=fun b hb=>by have:=ha (b.toNat:Int) (List.mem_map.2 ⟨b,hb,rfl⟩);omega
 have h:=Any.strings_ToLower_ascii Tryz.laysLow Sp s w (by omega) (fun j b h=>hb b (mem_of_getElem? h));rw[hf]at h;refine h.mono ?_;rintro e W' ⟨rfl,hB⟩;refine⟨⟨_,rfl,?_⟩,hB⟩;show(Lib.toLowerA s.data.toList).map (fun c:UInt8=>(c.toNat:Int))=(s.data.toList.map (fun c:UInt8=>(c.toNat:Int))).map low;unfold Lib.toLowerA;rw[List.map_map,List.map_map];exact List.map_congr_left (fun c hc=>PH c (hb c hc))
open F (bn lE)
set_option linter.unusedSimpArgs false
theorem yo(c:Nat)(w:World):Calls prog 145 #[.int .u8 (c:Int)] w fun e W'=>e=.returned (.bool (ltr (c:Int)))/\W'=w:=by
 have hl:ltr (c:Int)=((decide ((97:Int)<=c)&&decide ((c:Int)<=122))||(decide ((65:Int)<=c)&&decide ((c:Int)<=90))):=by unfold ltr;rw[Bool.eq_iff_iff];simp only[decide_eq_true_eq,Bool.or_eq_true,and_eq_true];omega
 rw[hl];clear hl;by_cases h1:(97:Int)<=c
 ·by_cases h2:(c:Int)<=122
  ·have d1:=decide_eq_true h1;have d2:=decide_eq_true h2;go_enter func145,ntmps145;go_wp2;go_ret;exact⟨by simp[d1,d2],rfl⟩
  ·have d1:=decide_eq_true h1;have d2:=decide_eq_false h2;have h3:(65:Int)<=c:=by omega
   have h4:¬ (c:Int)<=90:=by omega
   have d3:=decide_eq_true h3;have d4:=decide_eq_false h4;go_enter func145,ntmps145;go_wp2;go_ret;exact⟨by simp[d1,d2,d3,d4],rfl⟩
 ·have d1:=decide_eq_false h1;by_cases h3:(65:Int)<=c
  ·have d3:=decide_eq_true h3;go_enter func145,ntmps145;go_wp2;go_ret;exact⟨by simp[d1,d3],rfl⟩
  ·have d3:=decide_eq_false h3;go_enter func145,ntmps145;go_wp2;go_ret;exact⟨by simp[d1,d3],rfl⟩
theorem Di(c:Nat)(w:World):Calls prog 146 #[.int .u8 (c:Int)] w fun e W'=>e=.returned (.bool (decide ((48:Int)<=c/\(c:Int)<=57)))/\W'=w:=by
 by_cases h1:(48:Int)<=c
 ·have d1:=decide_eq_true h1;go_enter func146,ntmps146;go_wp2;go_ret;exact⟨by simp[h1],rfl⟩
 ·have d1:=decide_eq_false h1;go_enter func146,ntmps146;go_wp2;go_ret;exact⟨by simp[h1],rfl⟩
theorem BQ:∀ n:Fin 256,decide (firstIdx ⟨#[43,45,46]⟩ (UInt8.ofNat n.val)<0)=!decide ((n.val:Int)=43\/(n.val:Int)=45\/(n.val:Int)=46):=by decide +kernel
theorem lR(c:Nat)(hc:c<256)(w:World):∃ z:Int,decide (z<0)=(!decide ((c:Int)=43\/(c:Int)=45\/(c:Int)=46))/\Calls prog 147 #[.string ⟨#[43,45,46]⟩,.int .u8 (c:Int)] w fun e W'=>e=.returned (.int .i64 z)/\W'=w :=
 ⟨firstIdx ⟨#[43,45,46]⟩ (UInt8.ofNat c),BQ ⟨c,hc⟩,E.fP ⟨#[43,45,46]⟩ (c:Int) w⟩
theorem fM(s:ByteArray)(l:List UInt8):(s.toList==l)=decide (bn s=l.map fun c:UInt8=>(c.toNat:Int)):=by
 have h:=lE s ⟨l.toArray⟩;have e:(⟨l.toArray⟩:ByteArray).toList=l:=by rw[Lib.toList_data]
 rw[e]at h;exact h
theorem oB(s:ByteArray)(w:World):Calls prog 13 #[.string s] w fun e W'=>e=.returned (.tuple #[.int .u16 (((own (bn s)).getD 0:Nat):Int),.bool (own (bn s)).isSome])/\W'=w:=by
 have q1:(s.toList==[104,116,116,112])=decide (bn s=aN):=fM s _;have q2:(s.toList==[119,115])=decide (bn s=nWs):=fM s _;have q3:(s.toList==[104,116,116,112,115])=decide (bn s=bG):=fM s _;have q4:(s.toList==[119,115,115])=decide (bn s=PA):=fM s _;have q5:(s.toList==[102,116,112])=decide (bn s=PB):=fM s _;unfold own;by_cases h1:bn s=aN
 ·rw[if_pos (.inl h1)];rw[decide_eq_true h1]at q1;clear q2 q3 q4 q5 h1;go_enter func13,ntmps13;go_wp2;go_ret2;exact⟨rfl,rfl⟩
 rw[decide_eq_false h1]at q1;by_cases h2:bn s=nWs
 ·rw[if_pos (.inr h2)];rw[decide_eq_true h2]at q2;clear q3 q4 q5 h1 h2;go_enter func13,ntmps13;go_wp2;go_ret2;exact⟨rfl,rfl⟩
 rw[if_neg (fun h=>h.elim h1 h2)];rw[decide_eq_false h2]at q2;by_cases h3:bn s=bG
 ·rw[if_pos (.inl h3)];rw[decide_eq_true h3]at q3;clear q4 q5 h1 h2 h3;go_enter func13,ntmps13;go_wp2;go_ret2;exact⟨rfl,rfl⟩
 rw[decide_eq_false h3]at q3;by_cases h4:bn s=PA
 ·rw[if_pos (.inr h4)];rw[decide_eq_true h4]at q4;clear q5 h1 h2 h3 h4;go_enter func13,ntmps13;go_wp2;go_ret2;exact⟨rfl,rfl⟩
 rw[if_neg (fun h=>h.elim h3 h4)];rw[decide_eq_false h4]at q4;by_cases h5:bn s=PB
 ·rw[if_pos h5];rw[decide_eq_true h5]at q5;clear h1 h2 h3 h4 h5;go_enter func13,ntmps13;go_wp2;go_ret2;exact⟨rfl,rfl⟩
 ·rw[if_neg h5];rw[decide_eq_false h5]at q5;clear h1 h2 h3 h4 h5;go_enter func13,ntmps13;go_wp2;go_ret2;exact⟨rfl,rfl⟩
open F (bn aa hid ay aC)
set_option linter.unusedSimpArgs false
def isS:List Int->Bool
 | []=>false
 | c::t=>ltr c&&t.all sgs
theorem iF(c:Int)(t:List Int):isS (c::t)=(ltr c&&t.all sgs):=rfl
def gd(i:Nat)(c:Int):Bool:=if i=0 then ltr c else sgs c
theorem Mn{l:List Int}(hne:l≠[])(h:∀ i c,l[i]? = some c->gd i c=true):isS l=true:=by
 cases l with
 | nil=>exact absurd rfl hne
 | cons c t =>
  have h0:=h 0 c rfl
  have:t.all sgs=true:=List.all_eq_true.2 (fun x hx=>by
    obtain⟨j,hj,rfl⟩:=List.mem_iff_getElem.1 hx
    exact h (j+1) _ (by rw[getElem?_cons_succ,getElem?_eq_getElem hj]))
  rw[iF,this];have:ltr c=true:=h0;rw[this];rfl
theorem Ml{l:List Int}{i:Nat}{c:Int}(h:l[i]? = some c)(hg:gd i c=false):isS l=false:=by
 cases l with
 | nil=>rfl
 | cons d t =>
  rw[iF];cases i with
  | zero =>
   have:d=c:=by simpa using h
   subst this;have:ltr d=false:=hg;rw[this];rfl
  | succ j =>
   rw[getElem?_cons_succ]at h;have:t.all sgs=false:=by rw[List.all_eq_false];exact⟨c,mem_of_getElem? h,by have:sgs c=false:=hg;rw[this];simp⟩
   rw[this,Bool.and_false]
theorem sZ(s:ByteArray)(hs:s.size<=400000000)(w:World):Calls prog 88 #[.string s] w fun e W'=>e=.returned (.bool (isS (bn s)))/\W'=w:=by
 have HT:Hid (∀ i c,(bn s)[i]? = some c->gd i c=false->isS (bn s)=false):=fun i c=>Ml
 have HF:Hid ((∀ i c,i<s.size->(bn s)[i]? = some c->gd i c=true)->isS (bn s)=decide (0<s.size)):=fun h=>by
  by_cases h0:0<s.size
  ·rw[decide_eq_true h0];refine Mn (fun e=>?_) (fun i c hc=>h i c ?_ hc)
   ·have:=aa s;rw[e]at this;simp at this;omega
   ·have:=(List.getElem?_eq_some_iff.1 hc).1;rwa [aa]at this
  ·rw[decide_eq_false h0];have:bn s=[]:=List.length_eq_zero_iff.1 (by rw[aa];omega);rw[this];rfl
 have HG:Hid (∀(i:Nat) (h:i<s.size),(bn s)[i]? = some ((s[i]'h).toNat:Int)):=fun i h=>by unfold bn;rw[getElem?_map,data_getElem? s i h];rfl
 obtain⟨R,hR⟩:=Ex' (isS (bn s));rw[hR]at HT HF ⊢;clear hR;go_enter func88,ntmps88;go_wp2_with fail
 go_loopw [3,4,7] (fun _ _ v7 wr=>∃ i:Nat,i<=s.size/\v7=.int .i64 i/\wr=w/\Hid (∀ j c,j<i->(bn s)[j]? = some c->gd j c=true)) (fun _ _ v7 _=>s.size - (intOf v7).toNat)
 case atStart=>exact⟨0,zero_le _,rfl,rfl,fun j c hj=>by omega⟩
 case round =>
  obtain⟨i,hi,rfl,rfl,HN⟩:=hrel;by_cases hlt:i<s.size
  ·have hltz:(i:Int)<(s.size:Int):=by omega
   have HE:=hid (HG.out i hlt);obtain⟨x,hx⟩:=Ex' (s[i]'hlt:UInt8);have hx256:=x.toNat_lt;rw[hx]at HE;have HL:=hid (yo x.toNat wr);have HD:=hid (Di x.toNat wr);obtain⟨z,hz,hM⟩:=lR x.toNat hx256 wr;have HM:=hid hM;have HZ:=hid hz
   have HN2:Hid (gd i (x.toNat:Int)=true->∀ j d,j<i+1->(bn s)[j]? = some d->gd j d=true):=fun h j d hj hd=>by
    by_cases e:j=i
    ·rw[e,HE.out]at hd;rw[<-Option.some.inj hd,e];exact h
    ·exact HN.out j d (by omega) hd
   clear hM hz HG HN;cases hl:ltr (x.toNat:Int)
   ·rw[hl]at HL;by_cases h0:i=0
    ·have hb:((i:Int)==0)=true:=by subst h0;rfl
     have hR:=HT.out i x.toNat HE.out (by unfold gd;rw[if_pos h0];exact hl);have HR:=hid hR;clear h0 hl hR HD HM HZ HF HT HN2;go_wp2_with(go_at_call 145;refine HL.out.mono ?_;rintro e w1 ⟨rfl,rfl⟩);go_ret;exact⟨by rw[HR.out] <;> rfl,rfl⟩
    ·have hb:((i:Int)==0)=false:=beq_eq_false_iff_ne.2 (by omega);cases hd:decide ((48:Int)<=(x.toNat:Int)/\(x.toNat:Int)<=57)
     ·rw[hd]at HD;cases hm:decide ((x.toNat:Int)=43\/(x.toNat:Int)=45\/(x.toNat:Int)=46)
      ·have hz2:decide (z<0)=true:=by rw[HZ.out,hm];rfl
       have hR:=HT.out i x.toNat HE.out (by
         unfold gd
         rw[if_neg h0]
         unfold sgs
         rw[hl,Bool.false_or]
         have h1:=of_decide_eq_false hd
         have h2:=of_decide_eq_false hm
         exact decide_eq_false (by omega))
       have HR:=hid hR;clear h0 hl hR HZ HF HT HN2 hd hm
       go_wp2_with(first
         | (go_at_call 145;refine HL.out.mono ?_;rintro e w1 ⟨rfl,rfl⟩)
         | (go_at_call 146;refine HD.out.mono ?_;rintro e w1 ⟨rfl,rfl⟩)
         | (go_at_call 147;refine HM.out.mono ?_;rintro e w1 ⟨rfl,rfl⟩))
       go_ret;exact⟨by rw[HR.out] <;> rfl,rfl⟩
      ·have hz2:decide (z<0)=false:=by rw[HZ.out,hm];rfl
       have HG2:=hid (HN2.out (by
         unfold gd
         rw[if_neg h0]
         unfold sgs
         have h2:=of_decide_eq_true hm
         rw[decide_eq_true (by omega),Bool.or_true]))
       clear h0 hl HZ HF HT HN2 hd hm
       go_wp2_with(first
         | (go_at_call 145;refine HL.out.mono ?_;rintro e w1 ⟨rfl,rfl⟩)
         | (go_at_call 146;refine HD.out.mono ?_;rintro e w1 ⟨rfl,rfl⟩)
         | (go_at_call 147;refine HM.out.mono ?_;rintro e w1 ⟨rfl,rfl⟩))
       go_roundw
       case rel=>exact⟨i+1,by omega,by go_num,by first | rfl | trivial,HG2.out⟩
       case measure=>simp[intOf];omega
     ·rw[hd]at HD
      have HG2:=hid (HN2.out (by
        unfold gd
        rw[if_neg h0]
        unfold sgs
        have h2:=of_decide_eq_true hd
        rw[decide_eq_true (by omega),Bool.or_true]))
      clear h0 hl HZ HF HT HN2 hd HM
      go_wp2_with(first
        | (go_at_call 145;refine HL.out.mono ?_;rintro e w1 ⟨rfl,rfl⟩)
        | (go_at_call 146;refine HD.out.mono ?_;rintro e w1 ⟨rfl,rfl⟩))
      go_roundw
      case rel=>exact⟨i+1,by omega,by go_num,by first | rfl | trivial,HG2.out⟩
      case measure=>simp[intOf];omega
   ·rw[hl]at HL;have HG2:=hid (HN2.out (by unfold gd;split;exact hl;unfold sgs;rw[hl];rfl));clear hl;go_wp2_with(go_at_call 145;refine HL.out.mono ?_;rintro e w1 ⟨rfl,rfl⟩)
    go_roundw
    case rel=>exact⟨i+1,by omega,by go_num,by first | rfl | trivial,HG2.out⟩
    case measure=>simp[intOf];omega
  ·have hltz:¬ (i:Int)<(s.size:Int):=by omega
   have hR:=HF.out (fun j c hj hc=>HN.out j c (by omega) hc);have HR:=hid hR;by_cases h0:0<s.size
   ·have he:=ay s h0;have HR2:Hid (R=true):=by rw[HR.out];exact decide_eq_true h0
    clear h0 hR HR HF HT HN;go_wp2;go_ret;exact⟨by rw[HR2.out] <;> rfl,rfl⟩
   ·have he:=aC s (by omega);have HR2:Hid (R=false):=by rw[HR.out];exact decide_eq_false h0
    clear h0 hR HR HF HT HN;go_wp2;go_ret;exact⟨by rw[HR2.out] <;> rfl,rfl⟩
open F (bn aa hid)
theorem n58(c:Int):(!Hy c)=fL c:=by unfold Hy fL;by_cases h:c=58 <;> simp[h]
theorem NN{c:Int}(h:sgs c=true\/ltr c=true):fL c=true:=by refine decide_eq_true (fun e=>?_);subst e;rcases h with h | h <;> exact absurd h (by decide)
theorem uH(c:Int)(t:List Int):sch (c::t)=if ltr c=true then (match t.dropWhile sgs with | d::r=>if d=58 then some ((c::t.takeWhile sgs).map low,r) else none | []=>none) else none:=rfl
theorem Kz{a r:List Int}(h:isS a=true):sch (a++58::r)=some (a.map low,r):=by
 cases a with
 | nil=>cases h
 | cons c t =>
  rw[iF,and_eq_true]at h;obtain⟨q1,q2⟩:=fG (f:=sgs) (p:=t) (q:=58::r) (List.all_eq_true.1 h.2) (.inr ⟨58,r,rfl,by decide⟩);show sch (c::(t++58::r))=_;rw[uH,if_pos h.1,q1,q2];rfl
theorem OA{l:List Int}(h:∀ r,l.dropWhile fL=58::r->isS (l.takeWhile fL)=false):sch l=none:=by
 cases l with
 | nil=>rfl
 | cons c t =>
  rw[uH];by_cases hc:ltr c=true
  ·rw[if_pos hc];cases hd:t.dropWhile sgs with
   | nil=>rfl
   | cons d r =>
    show(if d=58 then _ else none)=none;by_cases hd58:d=58
    ·exfalso;subst hd58;have e:c::t=(c::t.takeWhile sgs)++58::r:=by rw[List.cons_append,<-hd,List.takeWhile_append_dropWhile]
     obtain⟨q1,q2⟩:=fG (f:=fL) (p:=c::t.takeWhile sgs) (q:=58::r) (fun x hx=>by
       rcases List.mem_cons.1 hx with rfl | hx
       · exact NN (.inr hc)
       · exact NN (.inl (gB hx).1)) (.inr ⟨58,r,rfl,by decide⟩)
     rw[<-e]at q1 q2;have:=h r q2;rw[q1,iF,hc,Bool.true_and]at this;have h2:(t.takeWhile sgs).all sgs=true:=List.all_eq_true.2 (fun x hx=>(gB hx).1);rw[h2]at this;cases this
    ·rw[if_neg hd58]
  ·rw[if_neg hc]
theorem Mm{l:List Int}(h:isS l=true):∀ c∈l,c<128:=by
 cases l with
 | nil=>cases h
 | cons d t =>
  rw[iF,and_eq_true]at h;intro c hc;rcases List.mem_cons.1 hc with rfl | hc
  ·have:=of_decide_eq_true h.1;omega
  ·have:=zK (List.all_eq_true.1 h.2 c hc);have h3:=this.2.2;unfold low at h3;split at h3 <;> omega
theorem fe{w W W1 w':World}(h:Below w.heap.size w W)(hb:Below W1.heap.size W1 w')(e:W1.heap=W.heap:=by rfl)(o:W1.os=W.os:=by rfl)(t:W1.tape=W.tape:=by rfl)(p:W1.output=W.output:=by rfl):Below w.heap.size w w':=by have h1:Below w.heap.size w W1:=⟨by rw[o];exact h.os,by rw[t];exact h.tape,by rw[p];exact h.output,by rw[e];exact h.size,fun i hi=>by rw[e];exact h.block i hi⟩;exact h1.trans (hb.mono h1.size)
theorem xR(w0 W:World)(b:Nat)(r:Rd)(ps:List ByteArray)(hS:St w0 b W r ps)(hs:r.re.size<=100000):Calls prog 45 #[.pointer (some ⟨b,0,none⟩)] W fun e W' =>
  (e=.returned (.int .i64 130)/\(sch (bn r.re)=none\/∃ t,sch (bn r.re)=some (di,t))/\Below w0.heap.size w0 W')\/(∃(m t:ByteArray),e=.returned (.int .i64 0)/\sch (bn r.re)=some (bn m,bn t)/\bn m≠di/\St w0 b W' { r with u:={ r.u with sc:=m },re:=t,sp:=(own (bn m)).isSome,sl:=ia (own (bn m)).isSome } ps):=by
 obtain⟨a,d,y,ha,hd,hy,HDV⟩:=jg f58 r.re (by omega);have en:(fun c=>!Hy c)=fL:=funext n58;rw[en]at ha hd hy;have HS:=hid hS;obtain⟨F24,_⟩:=hS.cell 24 (.string r.re) rfl;have hasz:a.size<=100000:=by rw[<-aa,ha];exact le_trans (List.takeWhile_prefix _).length_le (by rw[aa];exact hs)
 have HDD:=hid HDV;have HIS:=hid (fun W=>sZ a (by omega) W)
 -- the scheme,plainly
 have HNO:Hid (y=false\/isS (bn a)=false->sch (bn r.re)=none):=fun h=>OA (fun t ht=>by
   rcases h with h | h
   · rw[h,ht]at hy
     exact absurd hy.symm (by simp)
   · rw[<-ha];exact h)
 have HYE:Hid (y=true->isS (bn a)=true->∀ m:ByteArray,bn m=(bn a).map low->sch (bn r.re)=some (bn m,bn d)):=fun h1 h2 m hm=>by
  rw[h1]at hy;have hne:(bn r.re).dropWhile fL≠[]:=of_decide_eq_true hy.symm;cases hq:(bn r.re).dropWhile fL with
  | nil=>exact absurd hq hne
  | cons c t =>
   have hc:c=58:=by have:=List.head_dropWhile_not fL hne;simp only[hq,List.head_cons]at this;unfold fL at this;simpa using this
   subst hc;have e:bn r.re=bn a++58::t:=by rw[ha,<-hq,List.takeWhile_append_dropWhile]
   rw[e,Kz h2,hm,hd,hq];rfl
 obtain⟨x,hx⟩:=Ex' r.re;have HX:=hid hx;rw[hx]at F24 HDD;clear hS ha hd hy HDV en hs hx;go_enter func45,ntmps45;go_wp2_with fail;have hBB:Below W.heap.size W W:=Below.refl _ _
 go_region_held3 (fun w'=>w'.cell? ⟨b,24,none⟩=some (.string x))
  (first | go_keep | exact(hb.cell (World.block_lt_of_cell? _ _ (by assumption))).trans (by assumption))
  ((first
    | (go_at_call 87;refine(dz _ _).mono ?_;rintro e w' ⟨⟨k,rfl,hk⟩,hb⟩;replace hBB:=fe hBB hb)
    | (go_at_call 86;refine(HDD.out _ _ hk).mono ?_;rintro e w' ⟨rfl,hb⟩;replace hBB:=fe hBB hb)))
 have S1:=HS.out.below hBB;have HS1:=hid S1;have HLO:=hid S1.lo;clear hBB hb hk S1 HDD F24 HS;cases y
 ·have HE:=hid (HNO.out (.inl rfl));clear HNO HYE HIS;go_wp2;go_ret;exact .inl ⟨rfl,.inl HE.out,HLO.out⟩
 ·obtain⟨z,hz⟩:=Ex' (isS (bn a));rw[hz]at HIS;cases z
  ·have HE:=hid (HNO.out (.inr hz));clear HNO HYE hz;go_wp2_with(go_at_call 88;refine(HIS.out _).mono ?_;rintro e w2 ⟨rfl,hw⟩;obtain rfl:=hw.symm);go_ret;exact .inl ⟨rfl,.inl HE.out,HLO.out⟩
  ·have HLW:=hid (fun W=>BT a (by omega) (Mm hz) W);have HY:=hid (HYE.out rfl hz);clear HNO HYE hz
   go_wp2_with(first
     | (go_at_call 88;refine(HIS.out _).mono ?_;rintro e w2 ⟨rfl,hw⟩;obtain rfl:=hw.symm)
     | fail)
   refine(HLW.out _).mono ?_;rintro e w2 ⟨⟨m,rfl,hm⟩,B2⟩;have HSC:=hid (HY.out m hm);have S2:=HS1.out.below B2;have q:=fM m [102,105,108,101];have q':(m.toList==[102,105,108,101])=decide (bn m=di):=q;by_cases hf:bn m=di
   ·rw[decide_eq_true hf]at q';have HE:Hid (∃ t,sch (bn r.re)=some (di,t)):=⟨bn d,by rw[HSC.out,hf]⟩;have HLO2:=hid S2.lo;clear q hf HSC HY HLW HS1 S2 B2 hm;go_wp2;go_ret;exact .inl ⟨rfl,.inr HE.out,HLO2.out⟩
   ·rw[decide_eq_false hf]at q';have HNF:=hid hf;have HP:=hid (fun W=>oB m W);obtain⟨F0,Z0⟩:=S2.cell 0 (.string r.u.sc) rfl;obtain⟨V1,hV1⟩:=Ex' (w2.setCell ⟨b,0,none⟩ (.string m));have S3:=S2.put 0 (.string m) { r with u:={ r.u with sc:=m } } rfl rfl;rw[hV1]at S3;obtain⟨F1,Z1⟩:=S3.cell 24 (.string r.re) rfl;obtain⟨V2,hV2⟩:=Ex' (V1.setCell ⟨b,24,none⟩ (.string d));have S4:=S3.put 24 (.string d) { r with u:={ r.u with sc:=m },re:=d } rfl rfl;rw[hV2]at S4;obtain⟨F2,Z2⟩:=S4.cell 26 (.string r.sl) rfl;obtain⟨V3,hV3⟩:=Ex' (V2.setCell ⟨b,26,none⟩ (.string ⟨#[47]⟩));have S5:=S4.put 26 (.string ⟨#[47]⟩) { r with u:={ r.u with sc:=m },re:=d,sl:=⟨#[47]⟩ } rfl rfl;rw[hV3]at S5;obtain⟨F3,Z3⟩:=S5.cell 25 (.bool r.sp) rfl;have HS5:=hid S5;obtain⟨o,ho⟩:=Ex' ((own (bn m)).isSome);obtain⟨p,hp⟩:=Ex' ((own (bn m)).getD 0:Nat);rw[ho,hp]at HP;have HO:=hid ho;clear q hf HY HLW HS1 S2 S3 S4 S5 B2 hm hp ho HLO HIS;obtain⟨V4,hV4⟩:=Ex' (V3.setCell ⟨b,25,none⟩ (.bool o));have S6:=HS5.out.put 25 (.bool o) { r with u:={ r.u with sc:=m },re:=d,sl:=⟨#[47]⟩,sp:=o } rfl rfl;rw[hV4]at S6;obtain⟨F4,Z4⟩:=S6.cell 25 (.bool o) rfl;cases o
    ·have HS6:=hid S6;clear S6 HS5;go_wp2_with(go_at_call 13;refine(HP.out _).mono ?_;rintro e w3 ⟨rfl,hw⟩;obtain rfl:=hw.symm);go_ret;exact .inr ⟨m,d,rfl,HSC.out,HNF.out,by rw[HO.out];exact HS6.out⟩
    ·obtain⟨F5,Z5⟩:=S6.cell 26 (.string ⟨#[47]⟩) rfl;obtain⟨V5,hV5⟩:=Ex' (V4.setCell ⟨b,26,none⟩ (.string ⟨#[47,92]⟩));have S7:=S6.put 26 (.string ⟨#[47,92]⟩) { r with u:={ r.u with sc:=m },re:=d,sl:=⟨#[47,92]⟩,sp:=true } rfl rfl;rw[hV5]at S7;have HS7:=hid S7;clear S6 S7 HS5;go_wp2_with(go_at_call 13;refine(HP.out _).mono ?_;rintro e w3 ⟨rfl,hw⟩;obtain rfl:=hw.symm);go_ret;exact .inr ⟨m,d,rfl,HSC.out,HNF.out,by rw[HO.out];exact HS7.out⟩
theorem Fg{l:List Int}(h:hqy l=none)(a b:H.Hst):rdc l a=rdc l b:=by
 unfold hqy at h;unfold rdc;cases hs:sch l with
 | none=>rfl
 | some mr =>
  obtain⟨m,r⟩:=mr;rw[hs]at h;simp only at h ⊢;by_cases hf:m=di
  ·rw[if_pos hf,if_pos hf]
  ·rw[if_neg hf]at h ⊢;rw[if_neg hf];cases ha:aus m r with
   | none=>rfl
   | some q =>
    rw[ha]at h;simp only at h ⊢;have hn:ask (own m).isSome (q.takeWhile (nau (own m).isSome))=none:=by simpa using h
    have e:∀ z:H.Hst,ath m (q.takeWhile (nau (own m).isSome)) z=(zu,70):=fun z=>by unfold ath;rw[if_pos hn]
    rw[e a,e b]
theorem UP.one{A:List Int->List Int->Int->Prop}(hA:H.Asc A){s:List Int}{r q:Ur×Int}(x:UP A s r)(y:UP A s q):r=q:=by
 unfold UP at x y;split at x
 ·rename_i c;rw[if_pos c]at y;rw[x,y]
 ·rename_i c;rw[if_neg c]at y;obtain⟨h,h1,rfl⟩:=x;obtain⟨k,k1,rfl⟩:=y;cases hq:hqy (cln s) with
  | none=>exact Fg hq h k
  | some z =>
   obtain⟨t,sp⟩:=z;rw[H.HP.one hA (h1 t sp hq) (k1 t sp hq)]
open Go.Lib
def bp(x:Nat):Bool:=decide (x<=32)
def bq(b:UInt8):Bool:=decide (b.toNat<=32)
theorem ja{n b0 b1 b2 b3:Nat}(h:128<=b0\/(decodeN n b0 b1 b2 b3).2≠1):128<=(decodeN n b0 b1 b2 b3).1:=by
 by_cases h0:b0<128
 ·rw[decodeN_ascii _ _ _ _ _ h0]at h;simp only[ne_eq,not_true_eq_false,or_false]at h;omega
 ·clear h;unfold decodeN;rw[if_neg h0];repeat' split
  all_goals (simp only;omega)
theorem Qm(s:ByteArray)(pos:Nat)(h:(s.data.toList.getD pos 0).toNat<128):Utf8.decode s pos=((s.data.toList.getD pos 0).toNat,1):=by rw[decode_N,decodeN_ascii _ _ _ _ _ h]
theorem Qn(s:ByteArray)(pos:Nat)(h:128<=(s.data.toList.getD pos 0).toNat):bp (Utf8.decode s pos).1=false:=by rw[decode_N];have:=ja (n:=s.data.toList.length - pos) (b0:=(s.data.toList.getD pos 0).toNat) (b1:=(s.data.toList.getD (pos+1) 0).toNat) (b2:=(s.data.toList.getD (pos+2) 0).toNat) (b3:=(s.data.toList.getD (pos+3) 0).toNat) (.inl h);unfold bp;exact decide_eq_false (by omega)
theorem drop_cons'{l:List UInt8}{pos:Nat}(h:pos<l.length):l.drop pos=l.getD pos 0::l.drop (pos+1):=by rw[List.drop_eq_getElem_cons h];simp[List.getD,h]
theorem rl(s:ByteArray):∀(f pos:Nat),s.size<=pos+f->(if idxFuncFrom bp false s f pos=-1 then [] else s.data.toList.drop (idxFuncFrom bp false s f pos).toNat)=(s.data.toList.drop pos).dropWhile bq
 | 0,pos,h=>by
  have e:s.data.toList.drop pos=[]:=List.drop_eq_nil_of_le (by rw[<-size_eq];omega);rw[show idxFuncFrom bp false s 0 pos=-1 from rfl,if_pos rfl,e];rfl
 | f+1,pos,h=>by
  unfold idxFuncFrom;by_cases hp:pos<s.size
  ·rw[if_pos hp];have hp':pos<s.data.toList.length:=by rw[<-size_eq];exact hp
   rw[drop_cons' hp',dropWhile_cons];by_cases hl:(s.data.toList.getD pos 0).toNat<128
   ·rw[Qm s pos hl];by_cases hb:(s.data.toList.getD pos 0).toNat<=32
    ·have e1:bp (s.data.toList.getD pos 0).toNat=true:=decide_eq_true hb;have e2:bq (s.data.toList.getD pos 0)=true:=decide_eq_true hb;simp only[e1,e2,if_true,Bool.true_eq_false,if_false];exact rl s f (pos+1) (by omega)
    ·have e1:bp (s.data.toList.getD pos 0).toNat=false:=decide_eq_false hb;have e2:bq (s.data.toList.getD pos 0)=false:=decide_eq_false hb;simp only[e1,e2,if_true,false_eq_true,if_false];rw[if_neg (by omega),toNat_natCast,drop_cons' hp']
   ·have e1:=Qn s pos (by omega);have e2:bq (s.data.toList.getD pos 0)=false:=decide_eq_false (by omega);simp only[e1,e2,if_true,false_eq_true,if_false];rw[if_neg (by omega),toNat_natCast,drop_cons' hp']
  ·rw[if_neg hp,if_pos rfl,List.drop_eq_nil_of_le (by rw[<-size_eq];omega)];rfl
theorem AS(s:ByteArray):(trimLeftF bp s).data.toList=s.data.toList.dropWhile bq:=by
 have h:=rl s s.size 0 (by omega);rw[drop_zero]at h;rw[<-h];unfold trimLeftF idxFunc;split
 ·rfl
 ·rw[extract_data,take_of_length_le (by rw[length_drop,<-size_eq];exact le_refl _)]
def tr(l:List UInt8):List UInt8:=(l.reverse.dropWhile bq).reverse
theorem zB(l:List UInt8)(b:UInt8):tr (l++[b])=if bq b=true then tr l else l++[b]:=by
 unfold tr;rw[List.reverse_append,List.reverse_singleton,List.singleton_append,dropWhile_cons];split
 ·rfl
 ·simp
theorem take_snoc'{l:List UInt8}{i:Nat}(hi:0<i)(hil:i<=l.length):l.take i=l.take (i - 1)++[l.getD (i - 1) 0]:=by obtain⟨k,rfl⟩:∃ k,i=k+1:=⟨i - 1,by omega⟩;rw[Nat.add_sub_cancel,List.take_succ_eq_append_getElem (by omega)];simp[List.getD,show k<l.length by omega]
theorem Me(l:List UInt8)(i:Nat)(hi:0<i)(hil:i<=l.length)(h:128<=(l.getD (i - 1) 0).toNat):bp (decodeLastL (l.take i)).1=false:=by
 rcases last_cases l i hi hil with⟨ha,_⟩ | ⟨_,hd⟩ | ⟨_,st,hst,hd,hsum⟩
 ·omega
 ·rw[hd];decide
 ·have hk:128<=(decodeL ((l.take i).drop st)).1:=by
   rw[decodeL_N]at hsum ⊢;refine ja ?_;by_cases h1:st=i - 1
   ·left;rw[getD_dropU,Nat.add_zero,getD_takeU l i st hst,h1];exact h
   ·right;omega
  rw[hd];unfold bp;exact decide_eq_false (by omega)
theorem ot(s:ByteArray):∀(f i:Nat),i<=f->i<=s.data.toList.length->OpenAt s.data.toList i ->
  tr (s.data.toList.take i)=s.data.toList.take (if 0<=lastIdxFuncFrom bp false s f i then (lastIdxFuncFrom bp false s f i).toNat+(decodeL (s.data.toList.drop (lastIdxFuncFrom bp false s f i).toNat)).2 else 0)
 | 0,i,hf,_,_=>by
  obtain rfl:i=0:=by omega
  simp[tr,lastIdxFuncFrom]
 | f+1,i,hf,hil,ho=>by
  by_cases hi:0<i
  ·have hw:=decodeLastL_width (s.data.toList.take i) (by rw[length_take];omega);rw[length_take,Nat.min_eq_left hil]at hw;unfold lastIdxFuncFrom;rw[if_pos hi];have hin:∀(hb:bp (decodeLastL (s.data.toList.take i)).1=false) (hq:bq (s.data.toList.getD (i - 1) 0)=false),tr (s.data.toList.take i)=s.data.toList.take (if 0<=(if bp (decodeLastL (s.data.toList.take i)).1=false then ((i - (decodeLastL (s.data.toList.take i)).2:Nat):Int) else lastIdxFuncFrom bp false s f (i - (decodeLastL (s.data.toList.take i)).2)) then (if bp (decodeLastL (s.data.toList.take i)).1=false then ((i - (decodeLastL (s.data.toList.take i)).2:Nat):Int) else lastIdxFuncFrom bp false s f (i - (decodeLastL (s.data.toList.take i)).2)).toNat+(decodeL (s.data.toList.drop (if bp (decodeLastL (s.data.toList.take i)).1=false then ((i - (decodeLastL (s.data.toList.take i)).2:Nat):Int) else lastIdxFuncFrom bp false s f (i - (decodeLastL (s.data.toList.take i)).2)).toNat)).2 else 0):=fun hb hq=>by simp only[hb,if_true];rw[if_pos (by omega),toNat_natCast,fw_width _ i hi hil ho,Nat.sub_add_cancel hw.2,take_snoc' hi hil,zB,hq,if_neg (by simp)]
   by_cases hl:(s.data.toList.getD (i - 1) 0).toNat<128
   ·have hd:decodeLastL (s.data.toList.take i)=((s.data.toList.getD (i - 1) 0).toNat,1):=by
     rcases last_cases s.data.toList i hi hil with⟨_,hd⟩ | ⟨h,_⟩ | ⟨h,_⟩
     ·exact hd
     ·omega
     ·omega
    by_cases hb:(s.data.toList.getD (i - 1) 0).toNat<=32
    ·have e1:bp (s.data.toList.getD (i - 1) 0).toNat=true:=decide_eq_true hb;have e2:bq (s.data.toList.getD (i - 1) 0)=true:=decide_eq_true hb;rw[hd];simp only[e1,Bool.true_eq_false,if_false];rw[take_snoc' hi hil,zB,e2,if_pos rfl];exact ot s f (i - 1) (by omega) (by omega) (.inr (by omega))
    ·exact hin (by rw[hd];exact decide_eq_false hb) (decide_eq_false hb)
   ·exact hin (Me _ i hi hil (by omega)) (decide_eq_false (by omega))
  ·obtain rfl:i=0:=by omega
   rw[lastIdxFuncFrom_zero];simp[tr]
theorem Am(s:ByteArray):∀(f i:Nat),i<=s.size->lastIdxFuncFrom bp false s f i=-1\/lastIdxFuncFrom bp false s f i<i
 | 0,_,_=>.inl rfl
 | f+1,i,hi=>by
  unfold lastIdxFuncFrom;split
  ·rename_i h0;have hw:=decodeLastL_width (s.data.toList.take i) (by rw[length_take,<-size_eq];omega);rw[length_take,<-size_eq,Nat.min_eq_left hi]at hw;split
   ·right;omega
   ·rcases Am s f (i - (decodeLastL (s.data.toList.take i)).2) (by omega) with h | h
    ·exact .inl h
    ·right;omega
  ·exact .inl rfl
theorem xB(s:ByteArray):(trimRightF bp s).data.toList=tr s.data.toList:=by
 have h:=ot s s.size s.size (le_refl _) (by rw[<-size_eq];exact le_refl _) (.inl (size_eq s));rw[take_of_length_le (by rw[<-size_eq];exact le_refl _)]at h;rw[h];unfold trimRightF rightEndF lastIdxFunc;rw[extract_data,drop_zero,sub_zero];congr 1;split
 ·rename_i h0;congr 2;have hx:s.extract (lastIdxFuncFrom bp false s s.size s.size).toNat s.size=⟨(s.data.toList.drop (lastIdxFuncFrom bp false s s.size s.size).toNat).toArray⟩:=by rw[extract_eq,take_of_length_le (by rw[length_drop,<-size_eq];exact le_refl _)]
  rw[hx];unfold decodeGoB decodeL;split
  ·rename_i h1;exfalso;have hlt:=Am s s.size s.size (le_refl _);rw[size_eq]at h1;simp only[length_drop]at h1;rw[<-size_eq]at h1;omega
  ·rfl
 ·rfl
def ni(l:List UInt8):List Int:=l.map fun c=>(c.toNat:Int)
theorem QA(c:UInt8):blk (c.toNat:Int)=bq c:=by unfold blk bq;rw[Bool.eq_iff_iff,decide_eq_true_iff,decide_eq_true_iff];omega
theorem sT:∀ l:List UInt8,(ni l).dropWhile blk=ni (l.dropWhile bq)
 | []=>rfl
 | c::l=>by
  show((c.toNat:Int)::ni l).dropWhile blk=_;rw[dropWhile_cons,dropWhile_cons,QA];split
  ·exact sT l
  ·rfl
theorem GL(l:List UInt8):(ni l).reverse=ni l.reverse:=by unfold ni;rw[List.map_reverse]
theorem AD(s:ByteArray):F.bn (trimF bp s)=strip (F.bn s):=by show ni (trimF bp s).data.toList=strip (ni s.data.toList);unfold trimF strip;rw[xB,AS,sT,GL,sT,GL];rfl
def sR(x:List Int):List Int:=(x.reverse.dropWhile blk).reverse
theorem uw(l:List Int):strip l=sR (l.dropWhile blk):=rfl
theorem rH:∀ {L:List Int},(∀ c∈L,U.ar c=true)->(U.aj L).dropWhile blk=U.aj (L.dropWhile blk)
 | [],_=>rfl
 | c::L,h=>by
  have hc:=h c (by simp);have hb:=E.aS hc;obtain⟨b,t,e,h1,h2⟩:=Dd hc;have eL:U.aj (c::L)=b::(t++U.aj L):=by unfold U.aj;rw[List.flatMap_cons,e];rfl
  rw[eL,dropWhile_cons,dropWhile_cons];by_cases hk:blk c=true
  ·have hk':c<=32:=of_decide_eq_true hk;have h3:=h1 (by omega);subst h3;rw[if_pos hk,if_pos hk]
   have:t=[]:=by
    unfold U.enc at e;rw[if_pos (by omega)]at e;injection e with _ e2
    exact e2.symm
   rw[this];exact rH (fun x hx=>h x (by simp[hx]))
  ·have hk':¬ c<=32:=fun hh=>hk (decide_eq_true hh)
   have hb':¬ blk b=true:=fun hh=>by
    have:b<=32:=of_decide_eq_true hh;rcases Int.lt_or_le c 128 with h4 | h4
    ·have:=h1 h4;omega
    ·have:=h2 h4;omega
   rw[if_neg hk,if_neg hb',eL]
theorem sr(l:List Int)(c:Int):sR (l++[c])=if blk c=true then sR l else l++[c]:=by
 unfold sR;rw[List.reverse_append,List.reverse_singleton,List.singleton_append,dropWhile_cons];split
 ·rfl
 ·simp
theorem KO{l:List Int}{c:Int}(h:l.getLast? = some c)(hc:¬ blk c=true):sR l=l:=by
 rcases List.eq_nil_or_concat l with rfl | ⟨m,d,rfl⟩
 ·cases h
 ·rw[List.concat_eq_append]at h ⊢;rw[List.getLast?_append]at h;simp at h;subst h;rw[sr,if_neg hc]
theorem KP(L:List Int)(hL:∀ c∈L,U.ar c=true):sR (U.aj L)=U.aj (sR L):=by
 obtain⟨n,hn⟩:=Ex' L.length
 induction n generalizing L with
 | zero=>obtain rfl:=List.length_eq_zero_iff.1 hn;rfl
 | succ n ih =>
  rcases List.eq_nil_or_concat L with rfl | ⟨M,c,rfl⟩
  ·rfl
  ·rw[List.concat_eq_append]at hL hn ⊢;have hc:=hL c (by simp);have hb:=E.aS hc;rw[U.gu,sr];by_cases hk:blk c=true
   ·have hk':c<=32:=of_decide_eq_true hk;have e:U.enc c=[c]:=by unfold U.enc;rw[if_pos (by omega)]
    rw[if_pos hk,e,sr,if_pos hk];exact ih M (fun x hx=>hL x (by simp[hx])) (by simpa using hn)
   ·have hk':¬ c<=32:=fun hh=>hk (decide_eq_true hh);obtain⟨b,e,h1,h2⟩:=IF hc;rw[if_neg hk]
    rw[KO (c:=b) (by rw[List.getLast?_append,e];rfl) (fun hh=>by
      have:b<=32:=of_decide_eq_true hh
      rcases Int.lt_or_le c 128 with h4 | h4
      · have:=h1 h4;omega
      · have:=h2 h4;omega),U.gu]
theorem xK{L:List Int}(hL:∀ c∈L,U.ar c=true):strip (U.aj L)=U.aj (strip L):=by rw[uw,uw,rH hL,KP _ (fun c hc=>hL c (yL hc))]
def tf(r:Int):Int:=if r=9\/r=10\/r=13 then -1 else r
theorem Iz{c:Int}(h:U.ar c=true):encodeRuneZ c=U.enc c:=by
 have hb:=E.aS h;have hs:c<55296\/57343<c:=by unfold U.ar at h;have:=of_decide_eq_true h;omega
 unfold U.enc;split
 ·exact encodeRuneZ_one (by omega) (by omega)
 ·split
  ·exact encodeRuneZ_two (by omega) (by omega)
  ·split
   ·exact encodeRuneZ_three (by omega)
   ·exact encodeRuneZ_four (by omega) (by omega)
theorem um:∀ l:List UInt8,(ni l).map (fun x=>x.toNat.toUInt8)=l
 | []=>rfl
 | c::l=>by show((c.toNat:Int).toNat.toUInt8)::(ni l).map _=_;rw[um l];simp
theorem Dc{c:Int}(h:U.ar c=true){l:List UInt8}(hl:ni l=U.enc c):encodeRune c=l:=by unfold encodeRune;rw[Iz h,<-hl,um]
theorem tB{c:Int}(h:U.ar c=true){l m:List UInt8}(hl:ni l=U.enc c):decodeL (l++m)=(c.toNat,l.length):=by
 have hb:=E.aS h;have hs:c<55296\/57343<c:=by unfold U.ar at h;have:=of_decide_eq_true h;omega
 rw[decodeL_N];unfold U.enc at hl;split at hl
 ·have hlen:=congrArg List.length hl;rcases l with _ | ⟨x,_ | ⟨_,_⟩⟩
  all_goals first | (exfalso;simp[ni]at hlen;done) | skip
  simp only[ni,map_cons,map_nil,List.cons.injEq,and_true]at hl;have e0:(([x]++m).getD 0 0).toNat=x.toNat:=rfl;rw[e0,decodeN_ascii _ _ _ _ _ (by omega)];refine Prod.ext ?_ rfl;show x.toNat=c.toNat;omega
 ·split at hl
  ·have hlen:=congrArg List.length hl;rcases l with _ | ⟨x,_ | ⟨y,_ | ⟨_,_⟩⟩⟩
   all_goals first | (exfalso;simp[ni]at hlen;done) | skip
   simp only[ni,map_cons,map_nil,List.cons.injEq,and_true]at hl;obtain⟨h0,h1⟩:=hl;have e0:(([x,y]++m).getD 0 0).toNat=x.toNat:=rfl;have e1:(([x,y]++m).getD 1 0).toNat=y.toNat:=rfl;have el:([x,y]++m).length=m.length+2:=by simp
   rw[e0,e1,el];unfold decodeN;rw[if_neg (by omega),if_pos (by omega),if_pos (by omega)];refine Prod.ext ?_ rfl;show x.toNat % 32 * 64+y.toNat % 64=c.toNat;omega
  ·split at hl
   ·have hlen:=congrArg List.length hl;rcases l with _ | ⟨x,_ | ⟨y,_ | ⟨z,_ | ⟨_,_⟩⟩⟩⟩
    all_goals first | (exfalso;simp[ni]at hlen;done) | skip
    simp only[ni,map_cons,map_nil,List.cons.injEq,and_true]at hl;obtain⟨h0,h1,h2⟩:=hl;have e0:(([x,y,z]++m).getD 0 0).toNat=x.toNat:=rfl;have e1:(([x,y,z]++m).getD 1 0).toNat=y.toNat:=rfl;have e2:(([x,y,z]++m).getD 2 0).toNat=z.toNat:=rfl;have el:([x,y,z]++m).length=m.length+3:=by simp
    rw[e0,e1,e2,el];have hv:x.toNat % 16 * 4096+y.toNat % 64 * 64+z.toNat % 64=c.toNat:=by omega
    unfold decodeN;rw[if_neg (by omega),if_neg (by omega),if_pos (by omega),hv,if_pos (by omega)];rfl
   ·have hlen:=congrArg List.length hl;rcases l with _ | ⟨x,_ | ⟨y,_ | ⟨z,_ | ⟨t,_ | ⟨_,_⟩⟩⟩⟩⟩
    all_goals first | (exfalso;simp[ni]at hlen;done) | skip
    simp only[ni,map_cons,map_nil,List.cons.injEq,and_true]at hl;obtain⟨h0,h1,h2,h3⟩:=hl;have e0:(([x,y,z,t]++m).getD 0 0).toNat=x.toNat:=rfl;have e1:(([x,y,z,t]++m).getD 1 0).toNat=y.toNat:=rfl;have e2:(([x,y,z,t]++m).getD 2 0).toNat=z.toNat:=rfl;have e3:(([x,y,z,t]++m).getD 3 0).toNat=t.toNat:=rfl;have el:([x,y,z,t]++m).length=m.length+4:=by simp
    rw[e0,e1,e2,e3,el];have hv:x.toNat % 8 * 262144+y.toNat % 64 * 4096+z.toNat % 64 * 64+t.toNat % 64=c.toNat:=by omega
    unfold decodeN;rw[if_neg (by omega),if_neg (by omega),if_neg (by omega),if_pos (by omega),hv,if_pos (by omega)];rfl
theorem vH:∀(L:List Int) (l:List UInt8),(∀ c∈L,U.ar c=true)->ni l=U.aj L->ni (mapD tf l)=U.aj (L.filter (fun c=>!tab c))
 | [],l,_,hl=>by
  obtain rfl:l=[]:=by cases l with | nil=>rfl | cons _ _=>cases hl
  rfl
 | c::L,l,h,hl=>by
  have hc:=h c (by simp);have hb:=E.aS hc;have hl':ni l=U.enc c++U.aj L:=hl
  obtain⟨l1,l2,rfl,h1,h2⟩:∃ l1 l2,l=l1++l2/\ni l1=U.enc c/\ni l2=U.aj L:=by
   refine⟨l.take (U.enc c).length,l.drop (U.enc c).length,(List.take_append_drop _ _).symm,?_,?_⟩
   ·show(l.take _).map _=_;rw[map_take];show(ni l).take _=_;rw[hl',List.take_left]
   ·show(l.drop _).map _=_;rw[List.map_drop];show(ni l).drop _=_;rw[hl',List.drop_left]
  have hd:=tB hc (m:=l2) h1;have hen:=U.eA c;have hlen:l1.length=(U.enc c).length:=by rw[<-h1];simp[ni]
  rw[mapD_step tf (l1++l2) (fun e=>by rw[List.append_eq_nil_iff]at e;rw[e.1]at hlen;simp at hlen;omega),hd];show ni ((if 0<=tf (c.toNat:Int) then encodeRune (tf (c.toNat:Int)) else [])++mapD tf ((l1++l2).drop l1.length))=_;rw[List.drop_left,Int.toNat_of_nonneg (by omega),List.filter_cons];have ih:=vH L l2 (fun x hx=>h x (by simp[hx])) h2;have na:∀ a b:List UInt8,ni (a++b)=ni a++ni b:=fun a b=>List.map_append;by_cases ht:tab c=true
  ·have ht':c=9\/c=10\/c=13:=of_decide_eq_true ht;have e:tf c=-1:=by unfold tf;rw[if_pos ht']
   rw[e,if_neg (by omega),na,ih,ht];rfl
  ·have ht':¬ (c=9\/c=10\/c=13):=fun hh=>ht (decide_eq_true hh);have e:tf c=c:=by unfold tf;rw[if_neg ht']
   rw[e,if_pos (by omega),na,ih,Dc hc h1,h1,Bool.eq_false_iff.2 ht];rfl
theorem Kf{s t:ByteArray}(ht:F.bn t=U.aj (U.dec (F.bn s))):F.bn ⟨(mapD tf (trimF bp t).data.toList).toArray⟩=cln (F.bn s):=by
 have hs:∀ c∈U.dec (F.bn s),U.ar c=true:=List.all_eq_true.1 (U.dm _ _ (le_refl _) (U.aL s));have h1:ni (trimF bp t).data.toList=U.aj (strip (U.dec (F.bn s))):=by show F.bn (trimF bp t)=_;rw[AD,ht,xK hs]
 have h2:=vH _ _ (fun c hc=>hs c (qN hc)) h1;show ni (mapD tf (trimF bp t).data.toList)=_;rw[h2];rfl
end Y
end Go.Proofs.YtmkompnhefhngaaGreatDoor
namespace Go.Proofs
open Go.Shelf Go.RowKit
shelf_lay Lays.n230 Nm 230 at Tryz as Tryz.laysMap
shelf_lay Lays.n237 Nm 237 at Tryz as Tryz.laysTrF
end Go.Proofs
namespace Go.Proofs.YtmkompnhefhngaaGreatDoor
open Tryz Go.RowKit
namespace Y
open Go.RowKit Go.Shelf
open F (bn aa hid)
def Tbs(w:World):Prop:=Lib.Utf8Tabs 4 5 w
theorem Tbs.below{w w':World}(h:Tbs w)(hb:Below w.heap.size w w'):Tbs w':=Utf8Tabs_below h hb
theorem Sn:Builder.Extra prog Tryz.laysMap_ren where
 sizeBuilder:=by kernel_rfl
 liesBuilder:=by kernel_rfl
 t5:=by kernel_rfl
 a5:=fun w=>by kernel_rfl
 z5:=fun w=>by kernel_rfl
 v5:=fun w=>by kernel_rfl
 infoByte:=by kernel_rfl
 cellsByte:=by kernel_rfl
 sizeByte:=by kernel_rfl
 neB5:=by decide
theorem zb(w:World):PredGrows prog 42 #[] bp w:=fun W x hx hb=>by
 show Calls prog 42 #[.int .i32 (x:Int)] W _;have hd:bp x=decide ((x:Int)<=32):=by unfold bp;rw[Bool.eq_iff_iff,decide_eq_true_iff,decide_eq_true_iff];omega
 rw[hd];clear hd;go_enter func42,ntmps42;go_wp2;go_ret;exact⟨rfl,Below.refl _ _⟩
theorem AX(w:World):MapGrows prog 44 #[] tf w:=fun W x hx hb=>by
 show Calls prog 44 #[.int .i32 (x:Int)] W _;by_cases h:x=9\/x=10\/x=13
 ·have e:tf (x:Int)=-1:=by unfold tf;rw[if_pos (by omega)]
  rw[e];clear e;rcases h with rfl | rfl | rfl
  all_goals (
    go_enter func44,ntmps44
    go_wp2
    go_ret
    exact⟨rfl,Below.refl _ _⟩)
 ·have e:tf (x:Int)=x:=by unfold tf;rw[if_neg (by omega)]
  have h1:((x:Int)==9)=false:=beq_eq_false_iff_ne.2 (by omega);have h2:((x:Int)==10)=false:=beq_eq_false_iff_ne.2 (by omega);have h3:((x:Int)==13)=false:=beq_eq_false_iff_ne.2 (by omega);rw[e];clear e h;go_enter func44,ntmps44;go_wp2;go_ret;exact⟨rfl,Below.refl _ _⟩
theorem AQ(s:ByteArray)(hs:s.size<=1000000)(w:World)(hT:Tbs w):Calls prog 40 #[.string s,.func (.func 42) #[] #[]] w fun e W'=>e=.returned (.string (Lib.trimF bp s))/\Below w.heap.size w W':=by
 have hf:Tryz.laysTrF_ren.f 237=40:=by kernel_rfl
 have h3:Tryz.laysTrF_ren.g 3=4:=by kernel_rfl
 have h4:Tryz.laysTrF_ren.g 4=5:=by kernel_rfl
 have h:=Any.strings_TrimFunc_grows Tryz.laysTrF 42 #[] (enters_of func42 (by kernel_rfl) rfl) bp s w (by omega) (by rw[h3,h4];exact hT) (zb w);rw[hf]at h;exact h
theorem kE(s:ByteArray)(hs:s.size<=1000000)(w:World)(hT:Tbs w):Calls prog 43 #[.func (.func 44) #[] #[],.string s] w fun e W'=>e=.returned (.string ⟨(Lib.mapD tf s.data.toList).toArray⟩)/\Below w.heap.size w W':=by
 have hf:Tryz.laysMap_ren.f 230=43:=by kernel_rfl
 have h3:Tryz.laysMap_ren.g 3=4:=by kernel_rfl
 have h4:Tryz.laysMap_ren.g 4=5:=by kernel_rfl
 have h:=Any.strings_Map_grows Tryz.laysMap Sn 44 #[] (enters_of func44 (by kernel_rfl) rfl) tf s w (by omega) (AX w) (fun x hx=>by unfold tf;split <;> omega) (by rw[h3,h4];exact hT);rw[hf]at h;exact h
theorem AR(s:ByteArray):(Lib.trimF bp s).size<=s.size:=by have h:=congrArg List.length (AD s);rw[aa]at h;rw[h,<-aa s];unfold strip;rw[List.length_reverse];refine le_trans (List.dropWhile_suffix _).length_le ?_;rw[List.length_reverse];exact(List.dropWhile_suffix _).length_le
theorem Ev(s:ByteArray)(hs:s.size<=100000)(w:World)(hT:Tbs w):Calls prog 24 #[.string s] w fun e W'=>(∃ t,e=.returned (.string t)/\bn t=cln (bn s))/\Below w.heap.size w W':=by
 have HC:=hid (U.rO s (by omega) w);have HS:Hid (∀ t,U.bn t=U.aj (U.dec (U.bn s))->t.size<=1000000):=fun t h=>by have h1:=congrArg List.length h;rw[U.aa]at h1;have h2:=U.dQ (U.dec (U.bn s));have h3:=U.dK (U.bn s).length (U.bn s) (le_refl _) (U.aL s);rw[U.aa]at h3;omega
 have HT:=hid hT;clear hT;go_enter func24,ntmps24;go_wp2_with fail;refine HC.out.mono ?_;rintro e w1 ⟨⟨t,rfl,ht⟩,B1⟩;have HM:=hid (AQ t (HS.out t ht) w1 (HT.out.below B1));have HTS:=hid (HS.out t ht);have HTT:=hid ht;have HB:=hid B1;clear ht B1;go_wp2_with fail;refine HM.out.mono ?_;rintro e w2 ⟨rfl,B2⟩;replace HB:=Bt' HB B2;have HTI:=hid (Kf (s:=s) HTT.out);have HMP:=hid (kE (Lib.trimF bp t) (le_trans (AR t) HTS.out) w2 (HT.out.below HB.out));obtain⟨u,hu⟩:=Ex' (Lib.trimF bp t);rw[hu]at HTI HMP ⊢;clear B2 hu;go_wp2_with fail;refine HMP.out.mono ?_;rintro e w3 ⟨rfl,B3⟩;replace HB:=Bt' HB B3;clear B3 HMP;obtain⟨v,hv⟩:=Ex' ((⟨(Lib.mapD tf u.data.toList).toArray⟩:ByteArray):ByteArray);rw[hv]at HTI ⊢;clear hv;go_wp2;go_ret;exact⟨⟨v,rfl,HTI.out⟩,HB.out⟩
end Y
end Go.Proofs.YtmkompnhefhngaaGreatDoor
namespace Go.Proofs
open Go.Shelf Go.RowKit
shelf_lay Lays.n227 Nm 227 at Tryz as Tryz.laysSet
shelf_lay Lays.n228 Nm 228 at Tryz as Tryz.laysHas
shelf_lay Lays.n271 Nm 271 at Tryz as Tryz.laysDcl
end Go.Proofs
namespace Go.Proofs.YtmkompnhefhngaaGreatDoor
open Tryz Go.RowKit
namespace Y
open Go.RowKit Go.Shelf
open F (bn hid)
def Clr(l:List UInt8)(i:Nat):Prop:=∀ j,i<=j->l[j]? ≠ some 64
def prd:Nat->Int
 | 0=>-1
 | k+1=>k
def ff(l:List UInt8)(n:Int):Prop:=(n=-1/\Clr l 0)\/∃ k:Nat,n=k/\l[k]? = some 64/\Clr l (k+1)
theorem Clr.step{l:List UInt8}{i:Nat}(h:Clr l (i+1))(hn:l[i]? ≠ some 64):Clr l i:=fun j hj=>by
 by_cases e:j=i
 ·rw[e];exact hn
 ·exact h j (by omega)
theorem AN{n b0 b1 b2 b3:Nat}(h:(Lib.decodeN n b0 b1 b2 b3).2≠1):128<=b0/\128<=b1/\((Lib.decodeN n b0 b1 b2 b3).2=2\/128<=b2/\((Lib.decodeN n b0 b1 b2 b3).2=3\/128<=b3/\(Lib.decodeN n b0 b1 b2 b3).2=4)):=by
 rcases Lib.decodeN_shape n b0 b1 b2 b3 with⟨_,e⟩ | ⟨h1,_,h2,_,e⟩ | ⟨h1,_,h2,h3,_,_,e⟩ | ⟨h1,_,h2,h3,h4,_,_,e⟩ | e <;> rw[e]at h ⊢
 ·exact absurd rfl h
 ·exact⟨by omega,by omega,.inl rfl⟩
 ·exact⟨by omega,by omega,.inr ⟨by omega,.inl rfl⟩⟩
 ·exact⟨by omega,by omega,.inr ⟨by omega,.inr ⟨by omega,rfl⟩⟩⟩
 ·exact absurd rfl h
theorem Px{l:List UInt8}{j:Nat}(h:128<=(l.getD j 0).toNat):l[j]? ≠ some 64:=fun e=>by rw[List.getD_eq_getElem?_getD,e]at h;exact absurd h (by decide)
theorem Cb(l:List UInt8)(i:Nat)(hi:0<i)(hil:i<=l.length)(hc:Clr l i):1<=(Lib.decodeLastL (l.take i)).2/\(Lib.decodeLastL (l.take i)).2<=i/\(((Lib.decodeLastL (l.take i)).1=64/\l[i - (Lib.decodeLastL (l.take i)).2]? = some 64/\Clr l (i - (Lib.decodeLastL (l.take i)).2+1))\/((Lib.decodeLastL (l.take i)).1≠64/\Clr l (i - (Lib.decodeLastL (l.take i)).2))):=by
 have hw:=Lib.decodeLastL_width (l.take i) (by rw[length_take];omega);rw[length_take,Nat.min_eq_left hil]at hw;refine⟨hw.1,hw.2,?_⟩;have hg:l[i - 1]? = some (l.getD (i - 1) 0):=by rw[List.getD_eq_getElem?_getD,getElem?_eq_getElem (show i - 1<l.length by omega)];rfl
 have hc':Clr l (i - 1+1):=by rw[show i - 1+1=i by omega];exact hc
 rcases Lib.last_cases l i hi hil with⟨ha,hd⟩ | ⟨ha,hd⟩ | ⟨ha,st,hst,hd,hsum⟩
 ·rw[hd];by_cases h:(l.getD (i - 1) 0).toNat=64
  ·have e:l.getD (i - 1) 0=64:=UInt8.toNat_inj.1 h;exact .inl ⟨h,by rw[hg,e],hc'⟩
  ·refine .inr ⟨h,Clr.step hc' (fun e=>h ?_)⟩;rw[hg]at e;rw[Option.some.inj e];rfl
 ·rw[hd];exact .inr ⟨by decide,Clr.step hc' (Px ha)⟩
 ·rw[hd];obtain⟨K,hK⟩:=Ex' ((Lib.decodeL ((l.take i).drop st)).2);have hg2:∀ t,st+t<i->((l.take i).drop st).getD t 0=l.getD (st+t) 0:=fun t ht=>by rw[Lib.getD_dropU,Lib.getD_takeU l i _ ht]
  have hKd:=hK;rw[Lib.decodeL_N]at hKd;refine .inr ?_;by_cases h1:K=1
  ·rw[hK]at hsum ⊢;have e:st=i - 1:=by omega
   refine⟨?_,by rw[h1];exact Clr.step hc' (Px ha)⟩;have:=ja (n:=((l.take i).drop st).length) (b0:=(((l.take i).drop st).getD 0 0).toNat) (b1:=(((l.take i).drop st).getD 1 0).toNat) (b2:=(((l.take i).drop st).getD 2 0).toNat) (b3:=(((l.take i).drop st).getD 3 0).toNat) (.inl (by rw[hg2 0 (by omega),Nat.add_zero,e];exact ha));rw[Lib.decodeL_N];omega
  ·have hw2:=AN (by rw[hKd];exact h1);have hr:=ja (n:=((l.take i).drop st).length) (b0:=(((l.take i).drop st).getD 0 0).toNat) (b1:=(((l.take i).drop st).getD 1 0).toNat) (b2:=(((l.take i).drop st).getD 2 0).toNat) (b3:=(((l.take i).drop st).getD 3 0).toNat) (.inr (by rw[hKd];exact h1));rw[<-Lib.decodeL_N]at hr;rw[hKd]at hw2;rw[hK]at hsum ⊢;refine⟨by omega,fun j hj=>?_⟩;by_cases hji:i<=j
   ·exact hc j hji
   ·obtain⟨t,rfl⟩:∃ t,j=st+t:=⟨j - st,by omega⟩;refine Px ?_;rw[<-hg2 t (by omega)];have ht:t<K:=by omega
    match t,ht with
    | 0,_=>exact hw2.1
    | 1,_=>exact hw2.2.1
    | 2,h =>
         rcases hw2.2.2 with h' | h'
         ·omega
         ·exact h'.1
    | 3,h =>
         rcases hw2.2.2 with h' | ⟨_,h' | h'⟩
         ·omega
         ·omega
         ·exact h'.1
    | t+4,h=>rcases hw2.2.2 with h' | ⟨_,h' | h'⟩ <;> omega
theorem Na(s:ByteArray)(hs:s.size<=400000000)(w:World)(hT:Tbs w):Calls prog 191 #[.string s] w fun e W'=>e=.returned (.tuple #[.int .i32 (Lib.decodeLastL s.data.toList).1,.int .i64 (Lib.decodeLastL s.data.toList).2])/\Below w.heap.size w W':=by
 have hf:Tryz.laysDcl_ren.f 271=191:=by kernel_rfl
 have h3:Tryz.laysDcl_ren.g 3=4:=by kernel_rfl
 have h4:Tryz.laysDcl_ren.g 4=5:=by kernel_rfl
 have h:=Any.utf8_DecodeLastRuneInString Tryz.laysDcl s w (by omega) (by rw[h3,h4];exact hT);rw[hf]at h;exact h
theorem Ob:E.Asc ⟨#[64]⟩:=fun c hc=>by
 have:c=64:=by simpa using hc
 subst this;decide
theorem yq(s:ByteArray)(h1:s.size≠1)(h8:s.size<=8)(w:World)(hT:Tbs w):Calls prog 154 #[.string s,.string ⟨#[64]⟩] w fun e W'=>(∃ n,e=.returned (.int .i64 n)/\ff s.data.toList n)/\Below w.heap.size w W':=by
 have hn1:((s.size:Int)==1)=false:=beq_eq_false_iff_ne.2 (by omega);have h8z:decide ((8:Int)<(s.size:Int))=false:=decide_eq_false (by omega);have hl:s.size=s.data.toList.length:=Lib.size_eq s;have HSH:=hid (fun W=>H.jH (s.size:Int) W);rw[h8z]at HSH;have HST:=hid (Cb s.data.toList);have HT:=hid hT;have HX:Hid (∀ i,(s.extract 0 i).data.toList=s.data.toList.take i):=fun i=>by rw[Lib.extract_data,drop_zero,sub_zero]
 have HC0:Hid (Clr s.data.toList s.size):=fun j hj=>by rw[getElem?_eq_none (by omega)];simp
 have HD:=hid Na;have HL:=hid hl;have HW:Hid (wrap32 ((((⟨#[64]⟩:ByteArray)[0]'(by decide)).toNat:Nat):Int)=64):=by show _=_;kernel_rfl
 have hlt:wrap32 ((((⟨#[64]⟩:ByteArray)[0]'(by decide)).toNat:Nat):Int)<128:=by rw[HW.out];decide
 clear hT h8z hl;go_enter func154,ntmps154;go_wp2_with(go_at_call 181;refine(HSH.out _).mono ?_;rintro e w' ⟨rfl,hw⟩;obtain rfl:=hw.symm);rw[HW.out];clear hlt HW
 go_loopg [10,11,12] s.size (fun gf v10 _ _ wx=>∃ i:Nat,i<=gf/\i<=s.size/\v10=.int .i64 i/\Hid (Below w.heap.size w wx/\Clr s.data.toList i))
 case atStart=>exact⟨s.size,le_refl _,le_refl _,rfl,Below.refl _ _,HC0.out⟩
 case round =>
  obtain⟨i,hig,his,rfl,HR⟩:=hrel;by_cases h0:0<i
  ·obtain⟨g',rfl⟩:∃ g',gk=g'+1:=⟨gk - 1,by omega⟩;have h0z:(0:Int)<(i:Int):=by omega
   have hisz:(i:Int)<=(s.size:Int):=by omega
   obtain⟨q1,q2,q3⟩:=HST.out i h0 (by have:=HL.out;omega) HR.out.2;have HDC:=hid (HD.out (s.extract 0 i) (by rw[size_extract];omega) wr (HT.out.below HR.out.1));rw[HX.out]at HDC;obtain⟨R,hR⟩:=Ex' ((Lib.decodeLastL (s.data.toList.take i)).1);obtain⟨K,hK⟩:=Ex' ((Lib.decodeLastL (s.data.toList.take i)).2);rw[hR,hK]at HDC q3;rw[hK]at q1 q2;have hsub:(i:Int) - (K:Int)=((i - K:Nat):Int):=by omega
   have HB0:=hid HR.out.1;have HQ:=hid q3;clear hR hK q3 HR HST;by_cases h64:R=64
   ·have hb:((64:Int)==(R:Int))=true:=by subst h64;rfl
    have HE:Hid (s.data.toList[i - K]? = some 64/\Clr s.data.toList (i - K+1)):=by
     rcases HQ.out with⟨_,h,h'⟩ | ⟨h,_⟩
     ·exact⟨h,h'⟩
     ·exact absurd h64 h
    clear HQ h64;go_wp2_with(go_at_call 191;refine HDC.out.mono ?_;rintro e w1 ⟨rfl,B1⟩);have HB:=Bt' HB0 B1;clear B1;go_ret;exact⟨⟨_,rfl,.inr ⟨i - K,by first | rfl | exact hsub,HE.out.1,HE.out.2⟩⟩,HB.out⟩
   ·have hb:((64:Int)==(R:Int))=false:=beq_eq_false_iff_ne.2 (by omega)
    have HE:Hid (Clr s.data.toList (i - K)):=by
     rcases HQ.out with⟨h,_⟩ | ⟨_,h⟩
     ·exact absurd h h64
     ·exact h
    clear HQ h64;go_wp2_with(go_at_call 191;refine HDC.out.mono ?_;rintro e w1 ⟨rfl,B1⟩);have HB:=Bt' HB0 B1;clear B1
    go_roundg g'
    case measure=>omega
    case rel=>exact⟨i - K,by omega,by omega,by first | rfl | rw[hsub],HB.out,HE.out⟩
  ·obtain rfl:i=0:=by omega
   have HE:=hid HR.out;clear HR;go_wp2;go_ret;exact⟨⟨_,rfl,.inl ⟨rfl,HE.out.2⟩⟩,HE.out.1⟩
theorem Ho(s:ByteArray)(h1:s.size=1)(w:World):Calls prog 154 #[.string s,.string ⟨#[64]⟩] w fun e W'=>(∃ n,e=.returned (.int .i64 n)/\ff s.data.toList n)/\Below w.heap.size w W':=by
 have h0:0<s.size:=by omega
 have hl:s.size=s.data.toList.length:=Lib.size_eq s;obtain⟨x,hx⟩:=Ex' (s[0]'h0:UInt8);have hg:s.data.toList[0]? = some x:=by rw[<-hx];exact data_getElem? s 0 h0
 have HNO:Hid (x.toNat≠64->ff s.data.toList (-1)):=fun h=>.inl ⟨rfl,fun j _=>by
   by_cases e:j=0
   · rw[e,hg];intro h';exact h (by rw[Option.some.inj h'];rfl)
   · rw[getElem?_eq_none (by omega)];simp⟩
 have HYE:Hid (x.toNat=64->ff s.data.toList 0):=fun h=>.inr ⟨0,rfl,by rw[hg];exact congrArg some (UInt8.toNat_inj.1 h),fun j hj=>by rw[getElem?_eq_none (by omega)];simp⟩;have hx256:=x.toNat_lt;have hn1:((s.size:Int)==1)=true:=by rw[h1];rfl
 clear hg hl h1;by_cases hlo:x.toNat<128
 ·have hw:wrap32 (x.toNat:Int)=(x.toNat:Int):=IntWalk.wrap32_in _ (by omega);have hge:¬ (128:Int)<=(x.toNat:Int):=by omega
  have HI:=hid (fun W=>E.ku ⟨#[64]⟩ (x.toNat:Int) (by omega) (by omega) W);have HF:=hid (E.jd ⟨#[64]⟩ (x.toNat:Int) (by omega) (by omega));obtain⟨z,hz⟩:=Ex' (firstIdx ⟨#[64]⟩ ((x.toNat:Int)).toNat.toUInt8);rw[hz]at HI HF;clear hz hlo;by_cases h64:x.toNat=64
  ·have hzz:(0:Int)<=z:=by have:=HF.out;rw[h64]at this;exact of_decide_eq_true (this.trans (by decide))
   have HR:=hid (HYE.out h64);clear HF HYE HNO h64;go_enter func154,ntmps154;go_wp2_with(go_at_call 180;refine(HI.out _).mono ?_;rintro e w' ⟨rfl,hw'⟩;obtain rfl:=hw'.symm);go_ret;exact⟨⟨0,rfl,HR.out⟩,Below.refl _ _⟩
  ·have hzz:¬ (0:Int)<=z:=by
    have:=HF.out;have h2:(U.bn ⟨#[64]⟩).contains (x.toNat:Int)=false:=by show([64]:List Int).contains _=_;rw[Bool.eq_false_iff];intro hc;have:=List.contains_iff_mem.1 hc;simp at this;omega
    exact of_decide_eq_false (this.trans h2)
   have HR:=hid (HNO.out h64);clear HF HYE HNO h64;go_enter func154,ntmps154;go_wp2_with(go_at_call 180;refine(HI.out _).mono ?_;rintro e w' ⟨rfl,hw'⟩;obtain rfl:=hw'.symm);go_ret;exact⟨⟨-1,rfl,HR.out⟩,Below.refl _ _⟩
 ·have hw:wrap32 (x.toNat:Int)=(x.toNat:Int):=IntWalk.wrap32_in _ (by omega);have hge:(128:Int)<=(x.toNat:Int):=by omega
  have HI:=hid (fun W=>E.lI ⟨#[64]⟩ Ob (by decide) W);have HR:=hid (HNO.out (by omega));clear HYE HNO hlo;go_enter func154,ntmps154;go_wp2_with(go_at_call 180;refine(HI.out _).mono ?_;rintro e w' ⟨rfl,B1⟩);have HB:=hid B1;clear B1;go_ret;exact⟨⟨-1,rfl,HR.out⟩,HB.out⟩
theorem Cg(s:ByteArray)(h8:8<s.size)(hs:s.size<=400000000)(w:World):Calls prog 154 #[.string s,.string ⟨#[64]⟩] w fun e W'=>(∃ n,e=.returned (.int .i64 n)/\ff s.data.toList n)/\Below w.heap.size w W':=by
 have hn1:((s.size:Int)==1)=false:=beq_eq_false_iff_ne.2 (by omega);have h8z:decide ((8:Int)<(s.size:Int))=true:=decide_eq_true (by omega);have HL:=hid (Lib.size_eq s);have hv:∀ w,(zeroValue 166).run prog w=.ok (.agg (Array.replicate 256 (.bool false))) w:=fun w=>by kernel_rfl
 have hi256:(prog.info? 166).map (·.size)=some 256:=by kernel_rfl
 have hz256:∀ w,(Go.sizeOf 166).run prog w=.ok 256 w:=fun w=>by kernel_rfl
 have hfM:Tryz.laysSet_ren.f 227=150:=by kernel_rfl
 have hfC:Tryz.laysHas_ren.f 228=182:=by kernel_rfl
 have hT:Tryz.laysSet_ren.t 116=166:=by kernel_rfl
 have hM:=Any.strings_makeASCIISet Tryz.laysSet (fun w=>by kernel_rfl) (by kernel_rfl) ⟨#[64]⟩ w (by decide) (fun j b hb=>Ob b (mem_of_getElem? hb));rw[hfM,hT]at hM;obtain⟨cs,hcs⟩:=Ex' (Lib.setCells (⟨#[64]⟩:ByteArray).data.toList);have hsz:cs.size=256:=by rw[<-hcs];exact Lib.setCells_size _
 have bW:=Lib.setCells_one (⟨#[64]⟩:ByteArray).data.toList;have hat:∀ x:UInt8,cs[x.toNat]? = some (.bool (([64]:List UInt8).contains x)):=fun x=>by rw[<-hcs];exact Lib.setCells_at _ x
 rw[hcs]at hM bW;have HM:=hid hM;have HSH:=hid (fun W=>H.jH (s.size:Int) W);rw[h8z]at HSH;have hsc:(storeCells ⟨w.heap.size+1,0,none⟩ cs.toList 0).run prog ((w.alloc (.cells cs 166)).alloc (.cells (Array.replicate 256 (.bool false)) 166))=.ok () ((w.alloc (.cells cs 166)).alloc (.cells cs 166)):=by have:=run_storeCells_new (P:=prog) (w.alloc (.cells cs 166)) 166 (Array.replicate 256 (.bool false)) cs (by rw[hsz];exact hi256) (by rw[hsz,Array.size_replicate]) bW;simpa using this
 have HC:Hid (∀ x:UInt8,((w.alloc (.cells cs 166)).alloc (.cells cs 166)).cell? ⟨w.heap.size+1,x.toNat,none⟩=some (.bool (([64]:List UInt8).contains x))):=fun x=>by rw[World.cell?_alloc_at _ _ _ _ (by simp)];exact hat x
 have HCC:Hid (∀(x:UInt8) (v:Bool) (W:World),W.cell? ⟨w.heap.size+1,x.toNat,none⟩=some (.bool v)->Calls prog 182 #[.pointer (some ⟨w.heap.size+1,0,none⟩),.int .u8 x.toNat] W fun e w'=>e=.returned (.bool v)/\w'=W):=fun x v W h=>by
  have:=Any.asciiSet_contains Tryz.laysHas (w.heap.size+1) x v W h
  rwa [hfC]at this
 clear hat hcs bW hM hfM hfC hT h8z;go_enter func154,ntmps154
 go_wp2_with(first
   | (go_at_call 181;refine(HSH.out _).mono ?_;rintro e w' ⟨rfl,hw⟩;obtain rfl:=hw.symm)
   | (go_at_call 150;refine HM.out.mono ?_;rintro e w' ⟨rfl,hw⟩;rw[hw]))
 have HS1:Hid ((s.size:Int) - 1=prd s.size):=by
  cases h:s.size with
  | zero=>omega
  | succ k=>show((k+1:Nat):Int) - 1=(k:Int);omega
 clear hsc hv hi256 hz256 HM HSH
 go_loopg [8] s.size (fun gf v8 wx=>gf<=s.size/\v8=.int .i64 (prd gf)/\wx=((w.alloc (.cells cs 166)).alloc (.cells cs 166))/\Hid (Clr s.data.toList gf))
 case atStart =>
  refine⟨le_refl _,?_,rfl,fun j hj=>by rw[getElem?_eq_none (by have:=HL.out;omega)];simp⟩;rw[<-HS1.out]
 case round =>
  obtain⟨hgs,rfl,rfl,HK⟩:=hrel;cases gk with
  | zero =>
   show Code.wp _ _ _ _ _;have hp:prd 0=-1:=rfl;have HE:=hid HK.out;clear HK HC HCC HS1;go_wp2;go_ret;exact⟨⟨_,rfl,.inl ⟨rfl,HE.out⟩⟩,((Below.refl _ w).alloc (le_refl _) _).alloc (by simp) _⟩
  | succ g =>
   have hp:prd (g+1)=(g:Int):=rfl;have hg:g<s.size:=by omega
   have hgz:(g:Int)<(s.size:Int):=by omega
   obtain⟨x,hx⟩:=Ex' (s[g]'hg:UInt8);have HG:Hid (s.data.toList[g]? = some x):=by rw[<-hx];exact data_getElem? s g hg
   have HCX:=HC.out x;cases hin:([64]:List UInt8).contains x <;> rw[hin]at HCX
   ·have HCA:=hid (HCC.out x false _ HCX)
    have HN:Hid (Clr s.data.toList g):=Clr.step HK.out (fun e=>by
      rw[HG.out]at e
      rw[Option.some.inj e]at hin
      cases hin)
    have hpg:(g:Int) - 1=prd g:=by
     cases g with
     | zero=>rfl
     | succ k=>show((k+1:Nat):Int) - 1=(k:Int);omega
    have HPG:=hid hpg;clear HC HCC HK HS1 HCX hin hpg;go_wp2_with(go_at_call 182;refine HCA.out.mono ?_;rintro e w' ⟨rfl,hw⟩;rw[hw])
    go_roundg g
    case measure=>omega
    case rel=>exact⟨by omega,by rw[<-HPG.out],rfl,HN.out⟩
   ·have HCA:=hid (HCC.out x true _ HCX)
    have HE:Hid (s.data.toList[g]? = some 64/\Clr s.data.toList (g+1)):=⟨by
      rw[HG.out]
      have:=List.contains_iff_mem.1 hin
      simp at this
      rw[this],HK.out⟩
    clear HC HCC HK HS1 HCX hin;go_wp2_with(go_at_call 182;refine HCA.out.mono ?_;rintro e w' ⟨rfl,hw⟩;rw[hw]);go_ret;exact⟨⟨_,rfl,.inr ⟨g,rfl,HE.out.1,HE.out.2⟩⟩,((Below.refl _ w).alloc (le_refl _) _).alloc (by simp) _⟩
theorem Hp(s:ByteArray)(hs:s.size<=400000000)(w:World)(hT:Tbs w):Calls prog 154 #[.string s,.string ⟨#[64]⟩] w fun e W'=>(∃ n,e=.returned (.int .i64 n)/\ff s.data.toList n)/\Below w.heap.size w W':=by
 by_cases h1:s.size=1
 ·exact Ho s h1 w
 by_cases h8:s.size<=8
 ·exact yq s h1 h8 w hT
 ·exact Cg s (by omega) hs w
open F (bn aa hid)
def ins(b:Bool)(c:Int):Bool:=if c=91 then true else if c=93 then false else b
def hix:Bool->List Int->Option Nat
 | _,[]=>none
 | b,c::t=>if c=58/\b=false then some 0 else (hix (ins b c) t).map (·+1)
theorem Ij(b:Bool)(c:Int)(t:List Int):hix b (c::t)=if c=58/\b=false then some 0 else (hix (ins b c) t).map (·+1):=rfl
theorem mZ:∀(l:List Int) (b:Bool),(hix b l=none/\hcut b l=(l,none))\/∃ k,hix b l=some k/\k<l.length/\hcut b l=(l.take k,some (l.drop (k+1)))
 | [],b=>.inl ⟨rfl,rfl⟩
 | c::t,b=>by
  unfold hix hcut;by_cases h:c=58/\b=false
  ·rw[if_pos h,if_pos h];exact .inr ⟨0,rfl,by simp,rfl⟩
  ·rw[if_neg h,if_neg h];have e:(if c=91 then true else if c=93 then false else b)=ins b c:=rfl;rw[e];rcases mZ t (ins b c) with⟨h1,h2⟩ | ⟨k,h1,h2,h3⟩
   ·rw[h1,h2];exact .inl ⟨rfl,rfl⟩
   ·rw[h1,h3];exact .inr ⟨k+1,rfl,by simp;omega,rfl⟩
theorem wt:∀(p t:List Int) (b:Bool),(∀ c∈p,128<=c)->hix b (p++t)=(hix b t).map (·+p.length)
 | [],t,b,_=>by simp
 | c::p,t,b,h=>by
  have hc:=h c (by simp);show hix b (c::(p++t))=_;unfold hix;have e:ins b c=b:=by unfold ins;rw[if_neg (by omega),if_neg (by omega)]
  rw[if_neg (fun hh=>by omega),e,wt p t b (fun x hx=>h x (by simp[hx])),Option.map_map];cases t <;> rfl
def pl(p:Nat):Option Nat->Int
 | none=>-1
 | some k=>((p+k:Nat):Int)
theorem xX(p n:Nat)(o:Option Nat):pl p (o.map (·+n))=pl (p+n) o:=by
 cases o with
 | none=>rfl
 | some k=>show((p+(k+n):Nat):Int)=((p+n+k:Nat):Int);omega
theorem Gp(x:Nat)(hx:U.ar (x:Int)=true)(i k:Nat)(b:Bool)(w:World)(T:TypeId)(hi:w.heap[i]? = some (.cells #[.bool b] T (0,0)))(hk:w.cell? ⟨k,0,none⟩=some (.string ⟨#[58]⟩))(hne:k≠i):
  Calls prog 197 #[.int .i32 (x:Int),.pointer (some ⟨i,0,none⟩),.pointer (some ⟨k,0,none⟩)] w fun e W'=>e=.returned (.bool (!ins b x&&decide ((x:Int)=58)))/\W'.heap[i]? = some (.cells #[.bool (ins b x)] T (0,0))/\Below i w W'/\∀ j,j<w.heap.size->j≠i->W'.heap[j]? = w.heap[j]? := by
 have hsz:i<w.heap.size:=(Array.getElem?_eq_some_iff.1 hi).1;have hc0:w.cell? ⟨i,0,none⟩=some (.bool b):=cell_of_row _ _ 0 _ _ _ hi;have hf0:w.frozen? ⟨i,0,none⟩=false:=frozen_of_row _ _ 0 _ _ hi
 have hasc:E.Asc ⟨#[58]⟩:=fun c hc=>by
  have:c=58:=by simpa using hc
  subst this;decide
 have HCR:=hid (fun W=>E.bP ⟨#[58]⟩ hasc (by decide) (x:Int) hx W);have hd:(U.bn ⟨#[58]⟩).contains (x:Int)=decide ((x:Int)=58):=by show([58]:List Int).contains (x:Int)=_;rw[Bool.eq_iff_iff,List.contains_iff_mem,decide_eq_true_iff];simp
 rw[hd]at HCR;have HSET:Hid (∀ v:Bool,(w.setCell ⟨i,0,none⟩ (.bool v)).heap[i]? = some (.cells #[.bool v] T (0,0))/\(w.setCell ⟨i,0,none⟩ (.bool v)).cell? ⟨i,0,none⟩=some (.bool v)/\(w.setCell ⟨i,0,none⟩ (.bool v)).cell? ⟨k,0,none⟩=some (.string ⟨#[58]⟩)/\Below i w (w.setCell ⟨i,0,none⟩ (.bool v))/\∀ j,j<w.heap.size->j≠i->(w.setCell ⟨i,0,none⟩ (.bool v)).heap[j]? = w.heap[j]?):=fun v=>by have h1:(w.setCell ⟨i,0,none⟩ (.bool v)).heap[i]? = some (.cells #[.bool v] T (0,0)):=(heap_setCell_same w i 0 _ T (.bool v) hi).trans (by rfl);have h2:∀ j,j≠i->(w.setCell ⟨i,0,none⟩ (.bool v)).heap[j]? = w.heap[j]? := fun j hj=>Below.heap_setCell _ _ _ _ hj;refine⟨h1,cell_of_row _ _ 0 _ _ _ h1,?_,(Below.refl i w).setCell (p:=⟨i,0,none⟩) (le_refl i) _,fun j _ hj=>h2 j hj⟩;rw[cell?_of_block (w:=w) (h2 k hne)];exact hk
 have HEND:Hid (∀(v:Bool) (W W':World),W.heap[i]? = some (.cells #[.bool v] T (0,0))->Below i w W->(∀ j,j<w.heap.size->j≠i->W.heap[j]? = w.heap[j]?)->Below W.heap.size W W'->W'.heap[i]? = some (.cells #[.bool v] T (0,0))/\Below i w W'/\∀ j,j<w.heap.size->j≠i->W'.heap[j]? = w.heap[j]?):=fun v W W' h1 h2 h3 h4=>by have hs:=h2.size;exact⟨(h4.block i (by omega)).trans h1,h2.trans (h4.mono (by omega)),fun j hj hn=>(h4.block j (by omega)).trans (h3 j hj hn)⟩
 have HW:=hid (show w.heap[i]? = some (.cells #[.bool b] T (0,0)) from hi);clear hi hasc hx hd;by_cases h91:(x:Int)=91
 ·have q:((x:Int)==91)=true:=by rw[h91];rfl
  have e:ins b x=true:=by unfold ins;rw[if_pos h91]
  rw[e];obtain⟨s1,s2,s3,s4,s5⟩:=HSET.out true;have H1:=hid s1;have H4:=hid s4;have H5:=hid s5;clear h91 e s1 s4 s5 HSET;go_enter func197,ntmps197;go_wp2_with fail;go_ret;exact⟨rfl,HEND.out true _ _ H1.out H4.out H5.out (Below.refl _ _)⟩
 ·have q:((x:Int)==91)=false:=beq_eq_false_iff_ne.2 h91;by_cases h93:(x:Int)=93
  ·have q2:((x:Int)==93)=true:=by rw[h93];rfl
   have e:ins b x=false:=by unfold ins;rw[if_neg h91,if_pos h93]
   rw[e];obtain⟨s1,s2,s3,s4,s5⟩:=HSET.out false;have H1:=hid s1;have H4:=hid s4;have H5:=hid s5;obtain⟨D,hD⟩:=Ex' (decide ((x:Int)=58));rw[hD]at HCR ⊢;clear h91 h93 e s1 s4 s5 HSET hD;go_enter func197,ntmps197;go_wp2_with(go_at_call 174;refine(HCR.out _).mono ?_;rintro e w1 ⟨rfl,B1⟩);have HB:=hid B1;clear B1;go_wp2;go_ret;exact⟨by simp,HEND.out false _ _ H1.out H4.out H5.out HB.out⟩
  ·have q2:((x:Int)==93)=false:=beq_eq_false_iff_ne.2 h93;have e:ins b x=b:=by unfold ins;rw[if_neg h91,if_neg h93]
   rw[e];obtain⟨D,hD⟩:=Ex' (decide ((x:Int)=58));rw[hD]at HCR ⊢;clear h91 h93 e HSET hD;cases b
   ·go_enter func197,ntmps197;go_wp2_with(go_at_call 174;refine(HCR.out _).mono ?_;rintro e w1 ⟨rfl,B1⟩);have HB:=hid B1;clear B1;go_wp2;go_ret;exact⟨by simp,HEND.out false _ _ HW.out (Below.refl _ _) (fun _ _ _=>rfl) HB.out⟩
   ·go_enter func197,ntmps197;go_wp2_with fail;go_ret;exact⟨by simp,HEND.out true _ _ HW.out (Below.refl _ _) (fun _ _ _=>rfl) (Below.refl _ _)⟩
theorem Bg(s:ByteArray)(pos:Nat)(hp:pos<s.size):U.ar ((Utf8.decode s pos).1:Nat)=true/\1<=(Utf8.decode s pos).2/\pos+(Utf8.decode s pos).2<=s.size/\∀ b,if (!ins b ((Utf8.decode s pos).1:Nat)&&decide ((((Utf8.decode s pos).1:Nat):Int)=58))=true then pl pos (hix b ((bn s).drop pos))=pos else pl pos (hix b ((bn s).drop pos))=pl (pos+(Utf8.decode s pos).2) (hix (ins b ((Utf8.decode s pos).1:Nat)) ((bn s).drop (pos+(Utf8.decode s pos).2))):=by
 have hd:=U.jm s pos hp;have hd':(bn s).drop pos=((s[pos]'hp).toNat:Int)::(bn s).drop (pos+1):=hd;have h0:s.data.toList[pos]? = some (s[pos]'hp):=data_getElem? s pos hp;have g0:s.data.toList.getD pos 0=s[pos]'hp:=by rw[List.getD_eq_getElem?_getD,h0];rfl
 by_cases hx:(s[pos]'hp).toNat<128
 ·have e:Utf8.decode s pos=((s[pos]'hp).toNat,1):=by rw[Lib.decode_N,g0,Lib.decodeN_ascii _ _ _ _ _ hx]
  rw[e];refine⟨by unfold U.ar;exact decide_eq_true (by simp only;omega),le_refl _,hp,fun b=>?_⟩;simp only;rw[hd'];obtain⟨c,hc⟩:=Ex' (((s[pos]'hp).toNat:Int):Int);rw[hc,Ij];by_cases h58:c=58
  ·have ei:ins b c=b:=by unfold ins;rw[if_neg (by omega),if_neg (by omega)]
   rw[ei,decide_eq_true h58,Bool.and_true];cases b
   ·rw[if_pos (show(!false)=true from rfl),if_pos ⟨h58,rfl⟩];rfl
   ·rw[if_neg (by simp),if_neg (by simp),xX]
  ·rw[decide_eq_false h58,Bool.and_false,if_neg (by simp),if_neg (fun h=>h58 h.1),xX]
 ·obtain⟨h1,h2,h3,h4,h5⟩:=H.pY s pos hp (by omega);refine⟨h2,h3,h4,fun b=>?_⟩;have ei:ins b ((Utf8.decode s pos).1:Nat)=b:=by unfold ins;rw[if_neg (by omega),if_neg (by omega)]
  rw[ei,decide_eq_false (by omega),Bool.and_false,if_neg (by simp)];have ht:(bn s).drop pos=((bn s).drop pos).take (Utf8.decode s pos).2++(bn s).drop (pos+(Utf8.decode s pos).2):=by rw[<-drop_drop,List.take_append_drop]
  have hl:(((bn s).drop pos).take (Utf8.decode s pos).2).length=(Utf8.decode s pos).2:=by rw[length_take,length_drop,aa];omega
  rw[ht,wt _ _ _ (fun c hc=>?_),xX,hl];obtain⟨j,hj,rfl⟩:=List.mem_iff_getElem.1 hc;rw[hl]at hj;rw[List.getElem_take,List.getElem_drop];have hjs:pos+j<s.size:=by omega
  have hb:=h5 (pos+j) (s[pos+j]'hjs) (by omega) (by omega) (data_getElem? s _ hjs);have hg:(bn s)[pos+j]'(by rw[aa];exact hjs)=((s[pos+j]'hjs).toNat:Int):=by apply Option.some.inj;rw[<-getElem?_eq_getElem];unfold bn;rw[getElem?_map,data_getElem? s _ hjs];rfl
  rw[hg];omega
theorem Gu(s:ByteArray)(hs:s.size<=400000000)(i k:Nat)(w:World)(T:TypeId)(hi:w.heap[i]? = some (.cells #[.bool false] T (0,0)))(hk:w.cell? ⟨k,0,none⟩=some (.string ⟨#[58]⟩))(hne:k≠i):
  Calls prog 55 #[.string s,.func (.func 197) #[] #[.pointer (some ⟨i,0,none⟩),.pointer (some ⟨k,0,none⟩)],.bool true] w fun e W'=>e=.returned (.int .i64 (pl 0 (hix false (bn s))))/\Below i w W':=by
 have hsz:i<w.heap.size:=(Array.getElem?_eq_some_iff.1 hi).1;have hkz:k<w.heap.size:=World.block_lt_of_cell? w _ hk;obtain⟨A,hA⟩:=Ex' (pl 0 (hix false (bn s)));rw[hA];have HK:=hid hk;have HST:=hid (Bg s);have HI:=hid hi;have HA:=hid hA
 have HEI:Hid (∀(W:World) (x:Nat) (b:Bool),U.ar (x:Int)=true->W.heap[i]? = some (.cells #[.bool b] T (0,0))->W.heap[k]? = w.heap[k]? -> Calls prog 197 #[.int .i32 (x:Int),.pointer (some ⟨i,0,none⟩),.pointer (some ⟨k,0,none⟩)] W fun e W'=>e=.returned (.bool (!ins b x&&decide ((x:Int)=58)))/\W'.heap[i]? = some (.cells #[.bool (ins b x)] T (0,0))/\Below i W W'/\∀ j,j<W.heap.size->j≠i->W'.heap[j]? = W.heap[j]?):=fun W x b h1 h2 h3 =>
  Gp x h1 i k b W T h2 ((cell?_of_block (w:=w) h3).trans HK.out) hne
 have HEND:Hid (pl s.size (hix false ((bn s).drop s.size))=-1/\pl s.size (hix true ((bn s).drop s.size))=-1):=by rw[List.drop_eq_nil_of_le (by rw[aa];exact le_refl _)];exact⟨rfl,rfl⟩
 clear hi hk hA;go_enter func55,ntmps55;go_wp2_with fail
 go_loopg [] s.size (fun gf wx=>∃(pos:Nat) (b:Bool),pos<=s.size/\s.size<=pos+gf/\Hid (wx.heap[w.heap.size]? = some (.stringIter s pos)/\wx.heap[i]? = some (.cells #[.bool b] T (0,0))/\(∀ j,j<w.heap.size->j≠i->wx.heap[j]? = w.heap[j]?)/\Below i w wx/\pl pos (hix b ((bn s).drop pos))=A))
 case atStart =>
  refine⟨0,false,zero_le _,by omega,World.iter_heap w s 0,?_,fun j hj _=>Below.heap_alloc _ _ _ hj,(Below.refl i w).alloc (by omega) _,?_⟩
  ·exact(Below.heap_alloc _ _ _ hsz).trans HI.out
  ·rw[drop_zero];exact HA.out
 case round =>
  obtain⟨pos,b,hp,hpg,HR⟩:=hrel;by_cases hps:pos<s.size
  ·obtain⟨g',rfl⟩:∃ g',gk=g'+1:=⟨gk - 1,by omega⟩;have hnx:∀ ty,(Instr.next (.pointer (some ⟨w.heap.size,0,none⟩)) true ty).run prog wr=_:=fun ty=>Lib.run_next_any_at wr w.heap.size s pos ty HR.out.1 hps;obtain⟨q1,q2,q3,q4⟩:=HST.out pos hps;obtain⟨R,hR⟩:=Ex' ((Utf8.decode s pos).1);obtain⟨K,hK⟩:=Ex' ((Utf8.decode s pos).2);rw[hR,hK]at hnx;rw[hR]at q1 q4;rw[hK]at q2 q3 q4;have q5:=q4 b;have hit2:=Lib.iterAt_heap wr w.heap.size s pos (pos+K) HR.out.1;have hbw2:Below w.heap.size wr (wr.iterAt w.heap.size s (pos+K)):=Lib.below_iterAt (Below.refl _ _) (k:=w.heap.size) (le_refl _) s (pos+K);obtain⟨W,hWd⟩:=Ex' (wr.iterAt w.heap.size s (pos+K));rw[hWd]at hnx hit2 hbw2;have HC:=hid (HEI.out W R b q1 ((hbw2.block i hsz).trans HR.out.2.1) ((hbw2.block k hkz).trans (HR.out.2.2.1 k hkz hne)));have HX:Hid (∀ W':World,W'.heap[i]? = some (.cells #[.bool (ins b R)] T (0,0))->Below i W W'->(∀ j,j<W.heap.size->j≠i->W'.heap[j]? = W.heap[j]?)->W'.heap[w.heap.size]? = some (.stringIter s (pos+K))/\W'.heap[i]? = some (.cells #[.bool (ins b R)] T (0,0))/\(∀ j,j<w.heap.size->j≠i->W'.heap[j]? = w.heap[j]?)/\Below i w W'):=fun W' h1 h2 h3=>by have hlt:w.heap.size<W.heap.size:=(Array.getElem?_eq_some_iff.1 hit2).1;refine⟨(h3 _ hlt (by omega)).trans hit2,h1,fun j hj hn=>?_,HR.out.2.2.2.1.trans ((hbw2.mono (by omega)).trans h2)⟩;rw[h3 j (by omega) hn,hbw2.block j hj];exact HR.out.2.2.1 j hj hn
   have HP:=hid HR.out.2.2.2.2;have HQ:=hid q5;have hK1:=q2;clear q4 q5 hR hK hWd hit2 hbw2 HR q1 q2 HEI HST HEND HI HA HK;obtain⟨h,hh⟩:=Ex' ((!ins b R&&decide ((R:Int)=58)));rw[hh]at HC HQ;clear hh;cases h
   ·have hq:=HQ.out;rw[if_neg (by simp)]at hq;have HQ2:=hid hq;clear HQ hq;go_wp2_with(go_at_call 197;refine HC.out.mono ?_;rintro e W' ⟨rfl,r1,r2,r3⟩);have HE:=hid (HX.out W' r1 r2 r3)
    go_roundg g'
    case measure=>omega
    case rel =>
     exact⟨pos+K,ins b R,q3,by omega,HE.out.1,HE.out.2.1,HE.out.2.2.1,HE.out.2.2.2,HQ2.out.symm.trans HP.out⟩
   ·have hq:=HQ.out;rw[if_pos rfl]at hq;have HQ2:=hid hq;clear HQ hq;go_wp2_with(go_at_call 197;refine HC.out.mono ?_;rintro e W' ⟨rfl,r1,r2,r3⟩);have HE:=hid (HX.out W' r1 r2 r3);clear r1 r2 r3;go_ret;exact⟨by rw[<-HP.out,HQ2.out] <;> rfl,HE.out.2.2.2⟩
  ·obtain rfl:pos=s.size:=by omega
   have hnx:∀ ty,(Instr.next (.pointer (some ⟨w.heap.size,0,none⟩)) true ty).run prog wr=_:=fun ty=>Lib.run_next_end_at wr w.heap.size s s.size ty HR.out.1 hps;have HE:Hid (A=-1/\Below i w wr):=⟨by rw[<-HR.out.2.2.2.2];exact(match b with | false=>HEND.out.1 | true=>HEND.out.2),HR.out.2.2.2.1⟩;clear HR HEND HST HEI HI HA HK;go_wp2;go_ret;exact⟨by rw[HE.out.1] <;> rfl,HE.out.2⟩
theorem sI(s:ByteArray)(hs:s.size<=400000000)(k:Nat)(w:World)(hk:w.cell? ⟨k,0,none⟩=some (.string ⟨#[58]⟩)):Calls prog 196 #[.string s,.pointer (some ⟨k,0,none⟩)] w fun e W'=>e=.returned (.int .i64 (pl 0 (hix false (bn s))))/\Below w.heap.size w W':=by
 have hkz:k<w.heap.size:=World.block_lt_of_cell? w _ hk;have HI:Hid (∀ W:World,W.heap[w.heap.size]? = some (.cells #[.bool false] 4 (0,0))->Below w.heap.size w W->Calls prog 28 #[.string s,.func (.func 197) #[] #[.pointer (some ⟨w.heap.size,0,none⟩),.pointer (some ⟨k,0,none⟩)]] W fun e W'=>e=.returned (.int .i64 (pl 0 (hix false (bn s))))/\Below w.heap.size W W'):=fun W h1 h2=>by have HO:=hid (Gu s hs w.heap.size k W 4 h1 ((cell?_of_block (w:=w) (h2.block k hkz)).trans hk) (by omega));obtain⟨z,hz⟩:=Ex' (pl 0 (hix false (bn s)));rw[hz]at HO ⊢;clear h1 h2 hk hz;go_enter func28,ntmps28;go_wp2_with(go_at_call 55;refine HO.out.mono ?_;rintro e w1 ⟨rfl,B1⟩);have HB:=hid B1;clear B1;go_wp2;go_ret;exact⟨rfl,HB.out⟩
 obtain⟨z,hz⟩:=Ex' (pl 0 (hix false (bn s)));rw[hz]at HI ⊢;have A0:(w.alloc (.cells #[.bool false] 4)).heap[w.heap.size]? = some (.cells #[.bool false] 4 (0,0)):=aK w _ _;have HB0:Hid (Below w.heap.size w (w.alloc (.cells #[.bool false] 4))):=(Below.refl _ w).alloc (le_refl _) _;have HC:=hid (HI.out _ A0 HB0.out);clear hk hz HI A0;go_enter func196,ntmps196;go_wp2_with(go_at_call 28;refine HC.out.mono ?_;rintro e w1 ⟨rfl,B1⟩);have HB:=hid (HB0.out.trans B1);clear B1;go_wp2;go_ret;exact⟨rfl,HB.out⟩
theorem uZ(C:ByteArray)(w:World):Calls prog 155 #[.string C] w fun e W'=>e=.returned (.func (.func 196) #[] #[.pointer (some ⟨w.heap.size,0,none⟩)])/\W'=w.alloc (.cells #[.string C] 9):=by go_enter func155,ntmps155;go_wp2;go_ret;exact⟨rfl,rfl⟩
open F (bn aa hid aw)
theorem ff.one{l:List UInt8}{n m:Int}(h:ff l n)(k:ff l m):n=m:=by
 rcases h with⟨rfl,h⟩ | ⟨i,rfl,h1,h2⟩
 ·rcases k with⟨rfl,k⟩ | ⟨j,rfl,k1,_⟩
  ·rfl
  ·exact absurd k1 (h j (zero_le _))
 ·rcases k with⟨rfl,k⟩ | ⟨j,rfl,k1,k2⟩
  ·exact absurd h1 (k i (zero_le _))
  ·rcases Nat.lt_trichotomy i j with q | q | q
   ·exact absurd k1 (h2 j q)
   ·rw[q]
   ·exact absurd h1 (k2 i q)
theorem rq:∀ l:List UInt8,∃ n,ff l n
 | []=>⟨-1,.inl ⟨rfl,fun j _=>by simp⟩⟩
 | c::t=>by
  obtain⟨n,h⟩:=rq t;rcases h with⟨rfl,h⟩ | ⟨i,rfl,h1,h2⟩
  ·by_cases hc:c=64
   ·exact⟨0,.inr ⟨0,rfl,by rw[hc];rfl,fun j hj=>by
      obtain⟨k,rfl⟩:∃ k,j=k+1:=⟨j - 1,by omega⟩
      rw[getElem?_cons_succ];exact h k (zero_le _)⟩⟩
   ·exact⟨-1,.inl ⟨rfl,fun j _=>by
      cases j with
      | zero=>rw[List.getElem?_cons_zero];exact fun e=>hc (Option.some.inj e)
      | succ k=>rw[getElem?_cons_succ];exact h k (zero_le _)⟩⟩
  ·exact⟨((i+1:Nat):Int),.inr ⟨i+1,rfl,by rw[getElem?_cons_succ];exact h1,fun j hj=>by
     obtain⟨k,rfl⟩:∃ k,j=k+1:=⟨j - 1,by omega⟩
     rw[getElem?_cons_succ];exact h2 k (by omega)⟩⟩
theorem Nw{p q:List Int}(h:64∉q):beh (p++64::q)=q/\ahd (p++64::q)=p:=by
 have e:(p++64::q).reverse=q.reverse++64::p.reverse:=by simp
 obtain⟨h1,h2⟩:=fG (f:=oP) (p:=q.reverse) (q:=64::p.reverse) (fun c hc=>by
   have:c≠64:=fun e=>h (by rw[<-e];exact List.mem_reverse.1 hc)
   exact decide_eq_true this) (.inr ⟨64,_,rfl,by decide⟩)
 unfold beh ahd;rw[e,h1,h2];simp
theorem Jh{l:List Int}(h:64∉l):beh l=l:=by
 unfold beh
 have:=(fG (f:=oP) (p:=l.reverse) (q:=[]) (fun c hc=>by
   have:c≠64:=fun e=>h (by rw[<-e];exact List.mem_reverse.1 hc)
   exact decide_eq_true this) (.inl rfl)).1
 rw[List.append_nil]at this;rw[this,List.reverse_reverse]
theorem Hl(C:ByteArray)(w:World):Calls prog 93 #[.string C] w fun e W'=>(∃ k,e=.returned (.func (.func 153) #[] #[.pointer (some ⟨k,0,none⟩)])/\W'.cell? ⟨k,0,none⟩=some (.string C))/\Below w.heap.size w W':=by
 have h:Calls prog 93 #[.string C] w fun e W'=>e=.returned (.func (.func 153) #[] #[.pointer (some ⟨w.heap.size,0,none⟩)])/\W'=w.alloc (.cells #[.string C] 9):=by go_enter func93,ntmps93;go_wp2;go_ret;exact⟨rfl,rfl⟩
 refine h.mono ?_;rintro e W' ⟨rfl,rfl⟩;exact⟨⟨_,rfl,cell_of_row _ _ 0 _ _ _ (aK w _ _)⟩,(Below.refl _ w).alloc (le_refl _) _⟩
theorem uY(C:ByteArray)(w:World):Calls prog 155 #[.string C] w fun e W'=>(∃ k,e=.returned (.func (.func 196) #[] #[.pointer (some ⟨k,0,none⟩)])/\W'.cell? ⟨k,0,none⟩=some (.string C))/\Below w.heap.size w W' :=
 (uZ C w).mono (by
   rintro e W' ⟨rfl,rfl⟩
   exact⟨⟨_,rfl,cell_of_row _ _ 0 _ _ _ (aK w _ _)⟩,(Below.refl _ w).alloc (le_refl _) _⟩)
theorem Cf(s:ByteArray)(hs:s.size<=400000000)(n:Int)(hn:ff s.data.toList n)(k:Nat)(w:World)(hk:w.cell? ⟨k,0,none⟩=some (.string ⟨#[64]⟩))(hT:Tbs w):Calls prog 153 #[.string s,.pointer (some ⟨k,0,none⟩)] w fun e W'=>e=.returned (.int .i64 n)/\Below w.heap.size w W':=by
 have HI:Hid (Calls prog 154 #[.string s,.string ⟨#[64]⟩] w fun e W'=>e=.returned (.int .i64 n)/\Below w.heap.size w W'):=(Hp s hs w hT).mono (by
   rintro e W' ⟨⟨m,rfl,hm⟩,hB⟩
   exact⟨by rw[hn.one hm],hB⟩)
 clear hn hT;go_enter func153,ntmps153;go_wp2_with(go_at_call 154;refine HI.out.mono ?_;rintro e w1 ⟨rfl,B1⟩);have HB:=hid B1;clear B1;go_wp2;go_ret;exact⟨rfl,HB.out⟩
theorem fA(s:ByteArray)(k:Nat):bn (s.extract 0 k)=(bn s).take k:=by unfold bn;rw[Lib.extract_data,drop_zero,sub_zero,map_take]
theorem IL(s:ByteArray)(hs:s.size<=400000000):∃(a d:ByteArray) (y:Bool),(y=false/\64∉bn s\/y=true/\64∈bn s/\bn a=ahd (bn s)/\bn d=beh (bn s))/\∀(W:World) (k:Nat),W.cell? ⟨k,0,none⟩=some (.string ⟨#[64]⟩)->Tbs W->Calls prog 86 #[.string s,.func (.func 153) #[] #[.pointer (some ⟨k,0,none⟩)]] W fun e W'=>e=.returned (.tuple #[.string a,.string d,.bool y])/\Below W.heap.size W W':=by
 obtain⟨n,hn⟩:=rq s.data.toList;have hl:s.size=s.data.toList.length:=Lib.size_eq s
 have hmem:64∈bn s↔∃ j:Nat,s.data.toList[j]? = some (64:UInt8):=by
  unfold bn;rw[List.mem_map];constructor
  ·rintro⟨c,hc,he⟩;have:c=64:=UInt8.toNat_inj.1 (by show c.toNat=64;omega);subst this;obtain⟨j,hj,e⟩:=List.mem_iff_getElem.1 hc;exact⟨j,by rw[getElem?_eq_getElem hj,e]⟩
  ·rintro⟨j,hj⟩;exact⟨64,mem_of_getElem? hj,rfl⟩
 have key:∀(a r:ByteArray),DM s n a r->∀(W:World) (k:Nat),W.cell? ⟨k,0,none⟩=some (.string ⟨#[64]⟩)->Tbs W->Calls prog 86 #[.string s,.func (.func 153) #[] #[.pointer (some ⟨k,0,none⟩)]] W fun e W'=>e=.returned (.tuple #[.string a,.string (r.extract 1 r.size),.bool (decide (0<r.size))])/\Below W.heap.size W W':=fun a r hc W k hk hT =>
  jW 153 #[.pointer (some ⟨k,0,none⟩)] (enters_of func153 (by kernel_rfl) rfl) s a r n hs hc W (Cf s hs n hn k W hk hT)
 rcases hn with⟨rfl,h⟩ | ⟨i,rfl,h1,h2⟩
 ·exact⟨s,_,false,.inl ⟨rfl,fun hh=>by
    obtain⟨j,hj⟩:=hmem.1 hh
    exact h j (zero_le _) hj⟩,key s ⟨#[]⟩ (.inl ⟨rfl,rfl,rfl⟩)⟩
 ·have hi:i<s.size:=by rw[hl];exact(List.getElem?_eq_some_iff.1 h1).1
  have hsz:(s.extract i s.size).size=s.size - i:=by rw[size_extract];omega
  have hgi:(bn s)[i]? = some 64:=by unfold bn;rw[getElem?_map,h1];rfl
  have hb:bn s=(bn s).take i++64::(bn s).drop (i+1):=by
   have hlt:i<(bn s).length:=by rw[aa];exact hi
   have e:=List.getElem_cons_drop hlt;rw[getElem?_eq_getElem hlt]at hgi;rw[Option.some.inj hgi]at e;rw[e,List.take_append_drop]
  have hq:64∉(bn s).drop (i+1):=fun hh=>by unfold bn at hh;rw[<-List.map_drop,List.mem_map]at hh;obtain⟨c,hc,he⟩:=hh;have:c=64:=UInt8.toNat_inj.1 (by show c.toNat=64;omega);subst this;obtain⟨j,hj,e⟩:=List.mem_iff_getElem.1 hc;rw[List.getElem_drop]at e;exact h2 (i+1+j) (by omega) (by rw[<-e];exact getElem?_eq_getElem _)
  obtain⟨q1,q2⟩:=Nw (p:=(bn s).take i) hq;rw[<-hb]at q1 q2;refine⟨s.extract 0 i,(s.extract i s.size).extract 1 (s.extract i s.size).size,true,.inr ⟨rfl,hmem.2 ⟨i,h1⟩,by rw[fA,q2],by rw[aw,aw,q1,drop_drop]⟩,fun W k hk hT=>?_⟩;have:=key (s.extract 0 i) (s.extract i s.size) (.inr ⟨i,rfl,hi,rfl,rfl⟩) W k hk hT
  rwa [decide_eq_true (by omega:0<(s.extract i s.size).size)]at this
theorem wT(s:ByteArray)(hs:s.size<=400000000):∃(a d:ByteArray) (y:Bool),bn a=(hcut false (bn s)).1/\(y=false/\(hcut false (bn s)).2=none/\bn d=[]\/y=true/\(hcut false (bn s)).2=some (bn d))/\∀(W:World) (k:Nat),W.cell? ⟨k,0,none⟩=some (.string ⟨#[58]⟩)->Calls prog 86 #[.string s,.func (.func 196) #[] #[.pointer (some ⟨k,0,none⟩)]] W fun e W'=>e=.returned (.tuple #[.string a,.string d,.bool y])/\Below W.heap.size W W':=by
 have key:∀(a r:ByteArray),DM s (pl 0 (hix false (bn s))) a r->∀(W:World) (k:Nat),W.cell? ⟨k,0,none⟩=some (.string ⟨#[58]⟩)->Calls prog 86 #[.string s,.func (.func 196) #[] #[.pointer (some ⟨k,0,none⟩)]] W fun e W'=>e=.returned (.tuple #[.string a,.string (r.extract 1 r.size),.bool (decide (0<r.size))])/\Below W.heap.size W W':=fun a r hc W k hk =>
  jW 196 #[.pointer (some ⟨k,0,none⟩)] (enters_of func196 (by kernel_rfl) rfl) s a r _ hs hc W (sI s hs k W hk)
 rcases mZ (bn s) false with⟨h1,h2⟩ | ⟨i,h1,h2,h3⟩
 ·rw[h1]at key;rw[h2];exact⟨s,_,false,rfl,.inl ⟨rfl,rfl,by decide⟩,key s ⟨#[]⟩ (.inl ⟨rfl,rfl,rfl⟩)⟩
 ·rw[aa]at h2;rw[h1]at key;have hsz:(s.extract i s.size).size=s.size - i:=by rw[size_extract];omega
  rw[h3];refine⟨s.extract 0 i,(s.extract i s.size).extract 1 (s.extract i s.size).size,true,fA s i,.inr ⟨rfl,by rw[aw,aw,drop_drop]⟩,fun W k hk=>?_⟩;have:=key (s.extract 0 i) (s.extract i s.size) (.inr ⟨i,by show((0+i:Nat):Int)=i;omega,h2,rfl,rfl⟩) W k hk
  rwa [decide_eq_true (by omega:0<(s.extract i s.size).size)]at this
theorem Su(s:ByteArray):hpr s ⟨#[47,47]⟩=decide ((bn s).take 2=[47,47]):=px s _
theorem uD(w0 W:World)(b:Nat)(r:Rd)(ps:List ByteArray)(hS:St w0 b W r ps)(hs:r.re.size<=100000)(hsl:r.sl=ia r.sp)(hh:r.u.hh=false)(ho:r.u.op=false):Calls prog 46 #[.pointer (some ⟨b,0,none⟩)] W fun e W' =>
  e=.returned (.int .i64 0)/\((r.sp=true/\∃ t,bn t=(bn r.re).dropWhile (Y.sl true)/\St w0 b W' { r with re:=t,u:={ r.u with hh:=true } } ps)\/(r.sp=false/\(bn r.re).take 2=[47,47]/\∃ t,bn t=(bn r.re).drop 2/\St w0 b W' { r with re:=t,u:={ r.u with hh:=true } } ps)\/(r.sp=false/\(bn r.re).take 2≠[47,47]/\St w0 b W' { r with u:={ r.u with op:=decide ((bn r.re).head? ≠ some 47) } } ps)):=by
 obtain⟨F24,Z24⟩:=hS.cell 24 (.string r.re) rfl;obtain⟨F25,Z25⟩:=hS.cell 25 (.bool r.sp) rfl;obtain⟨F26,_⟩:=hS.cell 26 (.string r.sl) rfl;obtain⟨F3,Z3⟩:=hS.cell 3 (.bool r.u.hh) rfl;have HS:=hid hS;rw[hh]at F3;rcases(show r.sp=false\/r.sp=true by cases r.sp <;> simp) with hsp | hsp
 ·rw[hsp]at F25;have HSP:=hid hsp;have HCP:=hid (fun W=>qc r.re ⟨#[47,47]⟩ (by omega) W);have HPR:=hid (fun W=>mS r.re ⟨#[47]⟩ W);have HB1:=hid (yV r.re ⟨#[47,47]⟩);have HB2:=hid (Su r.re);have HB3:=hid (mX r.re 47);cases hq:hpr r.re ⟨#[47,47]⟩
  ·have ey:cpx r.re ⟨#[47,47]⟩=r.re:=by unfold cpx;rw[hq];rfl
   rw[hq]at HB2;rw[hq,ey]at HCP;obtain⟨V1,hV1⟩:=Ex' (W.setCell ⟨b,24,none⟩ (.string r.re));have S1:=hS.put 24 (.string r.re) r rfl rfl;rw[hV1]at S1;obtain⟨G3,Y3⟩:=S1.cell 3 (.bool false) (by show some (Value.bool r.u.hh)=_;rw[hh]);obtain⟨V2,hV2⟩:=Ex' (V1.setCell ⟨b,3,none⟩ (.bool false));have S2:=S1.put 3 (.bool false) r (by rw[<-hh];rfl) rfl;rw[hV2]at S2;obtain⟨K3,L3⟩:=S2.cell 3 (.bool false) (by show some (Value.bool r.u.hh)=_;rw[hh]);obtain⟨K24,L24⟩:=S2.cell 24 (.string r.re) rfl;obtain⟨K17,L17⟩:=S2.cell 17 (.bool false) (by show some (Value.bool r.u.op)=_;rw[ho]);have HS2:=hid S2;obtain⟨z,hz⟩:=Ex' (hpr r.re ⟨#[47]⟩);rw[hz]at HPR HB3;have HEND:Hid (St w0 b (V2.setCell ⟨b,17,none⟩ (.bool (!z))) { r with u:={ r.u with op:=!z } } ps):=S2.put 17 (.bool (!z)) { r with u:={ r.u with op:=!z } } rfl rfl;clear hS hh ho hsp hq ey S1 S2 hz HB1 HS;go_enter func46,ntmps46
   go_wp2_with(first
     | (go_at_call 31;refine(HCP.out _).mono ?_;rintro e w3 ⟨rfl,hw⟩;obtain rfl:=hw.symm)
     | (go_at_call 91;refine(HPR.out _).mono ?_;rintro e w3 ⟨rfl,hw⟩;obtain rfl:=hw.symm))
   go_ret;refine⟨rfl,.inr (.inr ⟨HSP.out,of_decide_eq_false HB2.out.symm,?_⟩)⟩
   have ez:decide ((bn r.re).head? ≠ some 47)=!z:=by
    rw[HB3.out];by_cases h:(bn r.re).head? = some ((47:UInt8).toNat:Int)
    ·rw[decide_eq_true h];exact decide_eq_false (fun hn=>hn h)
    ·rw[decide_eq_false h];exact decide_eq_true h
   rw[ez];exact HEND.out
  ·obtain⟨y,hy⟩:=Ex' (cpx r.re ⟨#[47,47]⟩);rw[hq,hy]at HCP;rw[hq,hy]at HB1;rw[hq]at HB2;obtain⟨V1,hV1⟩:=Ex' (W.setCell ⟨b,24,none⟩ (.string y));have S1:=hS.put 24 (.string y) { r with re:=y } rfl rfl;rw[hV1]at S1;obtain⟨G3,Y3⟩:=S1.cell 3 (.bool false) (by show some (Value.bool r.u.hh)=_;rw[hh]);obtain⟨V2,hV2⟩:=Ex' (V1.setCell ⟨b,3,none⟩ (.bool true));have S2:=S1.put 3 (.bool true) { r with re:=y,u:={ r.u with hh:=true } } rfl rfl;rw[hV2]at S2;obtain⟨K3,L3⟩:=S2.cell 3 (.bool true) rfl;obtain⟨K17,L17⟩:=S2.cell 17 (.bool false) (by show some (Value.bool r.u.op)=_;rw[ho]);have HEND:Hid (St w0 b (V2.setCell ⟨b,17,none⟩ (.bool false)) { r with re:=y,u:={ r.u with hh:=true } } ps):=S2.put 17 (.bool false) { r with re:=y,u:={ r.u with hh:=true } } (by rw[<-ho];rfl) rfl;have HBB:Hid (bn y=(bn r.re).drop 2):=HB1.out.trans (if_pos rfl);clear hS hh ho hsp hq hy S1 S2 HB3 HPR HS HB1;go_enter func46,ntmps46;go_wp2_with(go_at_call 31;refine(HCP.out _).mono ?_;rintro e w3 ⟨rfl,hw⟩;obtain rfl:=hw.symm);go_ret;exact⟨rfl,.inr (.inl ⟨HSP.out,of_decide_eq_true HB2.out.symm,y,HBB.out,HEND.out⟩)⟩
 ·rw[hsp]at F25 hsl;have HSP:=hid hsp;have el:r.sl=Bc:=hsl;rw[el]at F26;have HTL:=hid (fun W=>sb r.re W);clear hsl el hsp;go_enter func46,ntmps46;go_wp2_with fail
  go_region_with ((go_at_call 90;refine(HTL.out _).mono ?_;rintro e w' ⟨⟨t,rfl,ht⟩,hb⟩;have S1:=HS.out.below (fe (Below.refl _ W) hb);obtain⟨G24,Y24⟩:=S1.cell 24 (.string r.re) rfl))
  all_goals (
    have S2:=S1.put 24 (.string t) { r with re:=t } rfl rfl
    obtain⟨G3,Y3⟩:=S2.cell 3 (.bool false) (by show some (Value.bool r.u.hh)=_;rw[hh])
    have HEND:=hid (S2.put 3 (.bool true) { r with re:=t,u:={ r.u with hh:=true } } rfl rfl)
    have HT:=hid ht
    clear S1 S2 ht hb G24 Y24 hS hh ho F24 Z24 F25 Z25 F26 F3 Z3 HS HTL
    go_wp2
    go_ret
    exact⟨rfl,.inl ⟨HSP.out,t,HT.out,HEND.out⟩⟩)
theorem uF(s:ByteArray)(hs:s.size<=100000)(w0 W:World)(b:Nat)(r:Rd)(ps:List ByteArray)(hS:St w0 b W r ps):Calls prog 95 #[.pointer (some ⟨b,0,none⟩),.string s] W fun e W' =>
  e=.returned (.tuple #[])/\∃ us pa,bn us=E.en 5 (U.dec ((bn s).takeWhile fL))/\bn pa=E.en 5 (U.dec (((bn s).dropWhile fL).drop 1))/\St w0 b W' { r with u:={ r.u with us:=us,pa:=pa } } ps:=by
 obtain⟨a,d,y,ha,hd,_,HDV⟩:=jg f58 s (by omega);have en:(fun c=>!Hy c)=fL:=funext n58;rw[en]at ha hd;have hasz:a.size<=100000:=by rw[<-aa,ha];exact le_trans (List.takeWhile_prefix _).length_le (by rw[aa];exact hs)
 have hdsz:d.size<=100000:=by rw[<-aa,hd,length_drop];have:=(List.dropWhile_suffix (l:=bn s) fL).length_le;rw[aa]at this;omega
 have HA:=hid ha;have HD:=hid hd;have HDD:=hid HDV;have HS:=hid hS;have HE1:=hid (fun W=>E.bM a 5 W (by omega) (by decide));have HE2:=hid (fun W=>E.bM d 5 W (by omega) (by decide));clear ha hd HDV en hS;go_enter func95,ntmps95;go_wp2_with fail;refine(dz _ _).mono ?_;rintro e w1 ⟨⟨k,rfl,hk⟩,B1⟩;have S1:=HS.out.below B1;have HDC:=hid (HDD.out w1 k hk);clear HS HDD hk B1;go_wp2_with fail;refine HDC.out.mono ?_;rintro e w2 ⟨rfl,B2⟩;have S2:=S1.below B2;clear S1 B2 HDC;go_wp2_with fail;refine(HE1.out _).mono ?_;rintro e w3 ⟨⟨us,rfl,hus⟩,B3⟩;have S3:=S2.below B3;obtain⟨F1,Z1⟩:=S3.cell 1 (.string r.u.us) rfl;have S4:=S3.put 1 (.string us) { r with u:={ r.u with us:=us } } rfl rfl;obtain⟨V1,hV1⟩:=Ex' (w3.setCell ⟨b,1,none⟩ (.string us));rw[hV1]at S4;have HUS:=hid hus;clear S2 S3 B3 hus HE1;go_wp2_with fail;clear hV1 F1 Z1;refine(HE2.out _).mono ?_;rintro e w4 ⟨⟨pa,rfl,hpa⟩,B4⟩;have S5:=S4.below B4;obtain⟨F2,Z2⟩:=S5.cell 2 (.string r.u.pa) rfl;have HS6:=hid (S5.put 2 (.string pa) { r with u:={ r.u with us:=us,pa:=pa } } rfl rfl);have HPA:=hid hpa;clear S4 S5 B4 hpa HE2;go_wp2;refine bodyPost_end (results_none rfl _ _ _) rfl ?_;exact⟨rfl,us,pa,(show bn us=E.en 5 (U.dec (bn a)) from HUS.out).trans (by rw[HA.out]),(show bn pa=E.en 5 (U.dec (bn d)) from HPA.out).trans (by rw[HD.out]),HS6.out⟩
open F (bn aa hid ay aC)
def og:Array Value->Nat->List Value->Array Value
 | cs,_,[]=>cs
 | cs,o,v::vs=>og (cs.setIfInBounds o v) (o+1) vs
theorem St.puts{w0:World}{b:Nat}{r r':Rd}{ps:List ByteArray}(vs:List Value)(o:Nat){W:World}(h:St w0 b W r ps)(he:og (Rd.cs r) o vs=Rd.cs r')(hp:r'.u.pv=r.u.pv):St w0 b (W.setCells b o vs) r' ps:=by
 have key:∀(vs:List Value) (o:Nat) (V:World) (cs:Array Value),V.heap[b]? = some (.cells cs 63 (0,0))->Below w0.heap.size w0 V->V.ownsRow (b+2) 9 1 r.u.pv ps.length (ps.map Value.string)->(V.setCells b o vs).heap[b]? = some (.cells (og cs o vs) 63 (0,0))/\Below w0.heap.size w0 (V.setCells b o vs)/\(V.setCells b o vs).ownsRow (b+2) 9 1 r.u.pv ps.length (ps.map Value.string)/\(V.setCells b o vs).heap[b+1]? = V.heap[b+1]? := by
  intro vs
  induction vs with
  | nil=>intro o V cs h1 h2 h3;exact⟨h1,h2,h3,rfl⟩
  | cons v vs ih =>
   intro o V cs h1 h2 h3;obtain⟨q1,q2,q3,q4⟩:=ih (o+1) _ _ (heap_setCell_same V b o cs _ v h1) (h2.setCell (p:=⟨b,o,none⟩) h.hb v) (ownsRow_setCell_below h3 (a:=⟨b,o,none⟩) (by show b<b+2;omega) v);exact⟨q1,q2,q3,q4.trans (heap_setCell_other V ⟨b,o,none⟩ (b+1) v (by show b+1≠b;omega))⟩
 obtain⟨k1,k2,k3,k4⟩:=key vs o W _ h.row h.lo h.ow;exact⟨by rw[k1,he],k2,h.hb,h.ks.imp (fun T k=>k4.trans k),by rw[hp];exact k3⟩
theorem St.there{w0 W:World}{b:Nat}{r:Rd}{ps:List ByteArray}(h:St w0 b W r ps)(o n:Nat)(hn:o+n<=28):W.there b o n:=fun j hj=>by refine⟨?_,frozen_of_row _ _ _ _ _ h.row⟩;rw[cell_of_row _ _ _ _ _ _ h.row,Array.getElem?_eq_getElem (by show o+j<28;omega)];rfl
theorem aD:(prog.info? 27).map (·.size)=some 11:=by kernel_rfl
def aq(K:Nat)(n:ByteArray)(f a0 a1 a2 a3 a4 a5 a6 a7:Nat):Array Value:=#[.int .u8 (K:Nat),.string n,.int .u32 (f:Nat),.int .u16 (a0:Nat),.int .u16 (a1:Nat),.int .u16 (a2:Nat),.int .u16 (a3:Nat),.int .u16 (a4:Nat),.int .u16 (a5:Nat),.int .u16 (a6:Nat),.int .u16 (a7:Nat)]
theorem Ih(K:Nat)(n:ByteArray)(f a0 a1 a2 a3 a4 a5 a6 a7:Nat):(aq K n f a0 a1 a2 a3 a4 a5 a6 a7).all (·.oneCell')=true:=by simp[aq,Value.oneCell']
theorem Co(K:Nat)(n:ByteArray)(f a0 a1 a2 a3 a4 a5 a6 a7:Nat):(aq K n f a0 a1 a2 a3 a4 a5 a6 a7).size=11:=rfl
theorem PV{h:H.Hst}(x:H.DL h):h.2.2.2.1.length=8:=x.a
theorem eight{a:List Nat}(h:a.length=8):∃ a0 a1 a2 a3 a4 a5 a6 a7,a=[a0,a1,a2,a3,a4,a5,a6,a7]:=by
 match a,h with
 | [a0,a1,a2,a3,a4,a5,a6,a7],_=>exact⟨a0,a1,a2,a3,a4,a5,a6,a7,rfl⟩
theorem Bu(r:Rd)(K:Nat)(n:ByteArray)(f a0 a1 a2 a3 a4 a5 a6 a7:Nat):og (Rd.cs r) 4 (aq K n f a0 a1 a2 a3 a4 a5 a6 a7).toList=Rd.cs { r with u:={ r.u with k:=K,nm:=n,f:=f,x0:=a0,x1:=a1,x2:=a2,x3:=a3,x4:=a4,x5:=a5,x6:=a6,x7:=a7 } }:=by simp only[og,aq,Rd.cs,List.setIfInBounds_toArray,List.set_cons_succ,List.set_cons_zero]
theorem eV(s:ByteArray)(hs:s.size<=100000)(w0 W:World)(b:Nat)(r:Rd)(ps:List ByteArray)(hS:St w0 b W r ps)(hG:H.GH w0):Calls prog 94 #[.pointer (some ⟨b,0,none⟩),.string s] W fun e W' =>
  ((hcut false (bn s)).1=[]/\(hcut false (bn s)).2.isSome=true/\e=.returned (.int .i64 70)/\Below w0.heap.size w0 W') \/
  (¬ ((hcut false (bn s)).1=[]/\(hcut false (bn s)).2.isSome=true)/\∃(h:H.Hst) (n po:ByteArray) (a0 a1 a2 a3 a4 a5 a6 a7:Nat),H.HP H.IA (hcut false (bn s)).1 r.sp h/\e=.returned (.int .i64 h.2.2.2.2)/\bn n=h.2.1/\h.2.2.2.1=[a0,a1,a2,a3,a4,a5,a6,a7]/\bn po=(hcut false (bn s)).2.getD []/\St w0 b W' { r with po:=po,u:={ r.u with k:=h.1,nm:=n,f:=h.2.2.1,x0:=a0,x1:=a1,x2:=a2,x3:=a3,x4:=a4,x5:=a5,x6:=a6,x7:=a7 } } ps):=by
 obtain⟨a,d,y,ha,hd,HDV⟩:=wT s (by omega)
 have hasz:a.size<=100000:=by
  rw[<-aa,ha];rcases mZ (bn s) false with⟨_,h2⟩ | ⟨i,_,_,h3⟩
  ·rw[h2,aa];exact hs
  ·rw[h3,length_take,aa];omega
 have HDD:=hid HDV;have HS:=hid hS;have HG:=hid hG
 have HPO:Hid (bn d=(hcut false (bn s)).2.getD []):=by
  rcases hd with⟨_,h1,h2⟩ | ⟨_,h1⟩
  ·rw[h1,h2];rfl
  ·rw[h1];rfl
 have HY:Hid (y=(hcut false (bn s)).2.isSome):=by
  rcases hd with⟨h0,h1,h2⟩ | ⟨h0,h1⟩
  ·rw[h0,h1];rfl
  ·rw[h0,h1];rfl
 have HA:=hid ha;have HC:=hid (fun W hg=>H.pz a r.sp hasz W hg);obtain⟨F25,_⟩:=hS.cell 25 (.bool r.sp) rfl;clear hS hG hd ha HDV;go_enter func94,ntmps94;go_wp2_with fail;refine(uY _ _).mono ?_;rintro e w1 ⟨⟨k,rfl,hk⟩,B1⟩;have S1:=HS.out.below B1;have HDC:=hid (HDD.out w1 k hk);clear HS HDD hk B1 F25;go_wp2_with fail;refine HDC.out.mono ?_;rintro e w2 ⟨rfl,B2⟩;have S2:=S1.below B2;have HS2:=hid S2;obtain⟨G25,_⟩:=S2.cell 25 (.bool r.sp) rfl;clear S1 B2 HDC S2;by_cases hbad:y=true/\a.size=0
 ·obtain⟨rfl,ha0⟩:=hbad;have he:=aC a ha0;have HE:Hid ((hcut false (bn s)).1=[]/\(hcut false (bn s)).2.isSome=true):=⟨by rw[<-HA.out];exact List.length_eq_zero_iff.1 ((aa a).trans ha0),HY.out.symm⟩;clear ha0 HY HA HC HPO;go_wp2;go_ret;exact .inl ⟨HE.out.1,HE.out.2,rfl,HS2.out.lo⟩
 ·have HNB:Hid (¬ ((hcut false (bn s)).1=[]/\(hcut false (bn s)).2.isSome=true)):=fun hh=>hbad ⟨by rw[HY.out];exact hh.2,by rw[<-aa,HA.out,hh.1];rfl⟩
  have hcond:y=false\/(y=true/\a.toList.isEmpty=false):=by
   cases y
   ·exact .inl rfl
   ·exact .inr ⟨rfl,ay a (Nat.pos_of_ne_zero (fun h=>hbad ⟨rfl,h⟩))⟩
  have HCC:=hid (HC.out w2 (HG.out.below HS2.out.lo));clear HY hbad HC;rcases hcond with rfl | ⟨rfl,he⟩
  all_goals (
    go_wp2_with fail
    refine HCC.out.mono ?_
    rintro e w3 ⟨⟨h,n,hh,hn,rfl⟩,B3⟩
    have hf:=hh.fine
    obtain⟨K,nl,f,al,er⟩:=h
    obtain⟨a0,a1,a2,a3,a4,a5,a6,a7,rfl⟩:∃ a0 a1 a2 a3 a4 a5 a6 a7,al=[a0,a1,a2,a3,a4,a5,a6,a7]:=eight (PV hf)
    have HH:=hid hh
    have HN:=hid hn
    have HV:Hid (H.hvl K n f [a0,a1,a2,a3,a4,a5,a6,a7]=.agg (aq K n f a0 a1 a2 a3 a4 a5 a6 a7)):=rfl
    have S3:=HS2.out.below B3
    obtain⟨V0,hV0⟩:=Ex' (w3.alloc (.cells #[.int .u8 0,.string ⟨#[]⟩,.int .u32 0,.int .u16 0,.int .u16 0,.int .u16 0,.int .u16 0,.int .u16 0,.int .u16 0,.int .u16 0,.int .u16 0] 27))
    have A0:V0.heap[w3.heap.size]? = some (.cells #[.int .u8 0,.string ⟨#[]⟩,.int .u32 0,.int .u16 0,.int .u16 0,.int .u16 0,.int .u16 0,.int .u16 0,.int .u16 0,.int .u16 0,.int .u16 0] 27 (0,0)):=by rw[<-hV0];exact aK w3 _ _
    have B4:Below w3.heap.size w3 V0:=by rw[<-hV0];exact(Below.refl _ w3).alloc (le_refl _) _
    have A1:=setRow_heap V0 w3.heap.size _ (aq K n f a0 a1 a2 a3 a4 a5 a6 a7) 27 _ A0
    have B5:=dC B4 (g:=w3.heap.size) (le_refl _) (aq K n f a0 a1 a2 a3 a4 a5 a6 a7)
    have S4:=S3.below B5
    have T4:=S4.there 4 11 (by decide)
    have S5:=S4.puts (r':={ r with u:={ r.u with k:=K,nm:=n,f:=f,x0:=a0,x1:=a1,x2:=a2,x3:=a3,x4:=a4,x5:=a5,x6:=a6,x7:=a7 } }) (aq K n f a0 a1 a2 a3 a4 a5 a6 a7).toList 4 (Bu r K n f a0 a1 a2 a3 a4 a5 a6 a7) rfl
    obtain⟨V5,hV5⟩:=Ex' ((V0.setRow w3.heap.size (aq K n f a0 a1 a2 a3 a4 a5 a6 a7)).setCells b 4 (aq K n f a0 a1 a2 a3 a4 a5 a6 a7).toList)
    rw[hV5]at S5
    obtain⟨F27,Z27⟩:=S5.cell 27 (.string r.po) rfl
    have HS6:=hid (S5.put 27 (.string d) { r with po:=d,u:={ r.u with k:=K,nm:=n,f:=f,x0:=a0,x1:=a1,x2:=a2,x3:=a3,x4:=a4,x5:=a5,x6:=a6,x7:=a7 } } rfl rfl)
    have HA0:=hid A0
    have HA1:=hid A1
    have HT4:=hid T4
    have HON:=hid (Ih K n f a0 a1 a2 a3 a4 a5 a6 a7)
    have HSI:=hid (Co K n f a0 a1 a2 a3 a4 a5 a6 a7)
    rw[HV.out]
    obtain⟨cs,hcs⟩:=Ex' (aq K n f a0 a1 a2 a3 a4 a5 a6 a7)
    rw[hcs]at hV5 HA1 HON HSI ⊢
    have HI2:Hid ((prog.info? 27).map (·.size)=some cs.size):=by show _=_;rw[HSI.out];exact aD
    have HT5:Hid ((V0.setRow w3.heap.size cs).there b 4 cs.size):=by show World.there _ _ _ _;rw[HSI.out,<-hcs];exact HT4.out
    clear HT4 hcs A0 A1 T4 S3 S4 S5 B3 B4 B5 hf hh hn HV G25 HS2 HCC HG hasz
    go_wp2_with(first
      | (refine wpList_store_row rfl 27 (.tmp 8) (.tmp 29) rfl w3.heap.size cs rfl rfl 27 #[.int .u8 0,.string ⟨#[]⟩,.int .u32 0,.int .u16 0,.int .u16 0,.int .u16 0,.int .u16 0,.int .u16 0,.int .u16 0,.int .u16 0,.int .u16 0] HA0.out HI2.out (by show 11=_;rw[HSI.out]) HON.out ?_)
      | (refine wpList_load_row rfl 27 (.tmp 8) rfl w3.heap.size rfl 27 cs (0,0) _ HA1.out underlying27 rfl HI2.out ?_)
      | (refine wpList_store_mid rfl 27 (.tmp 37) (.tmp 33) rfl b 4 cs rfl rfl HT5.out HI2.out HON.out ?_))
    go_ret
    exact .inr ⟨HNB.out,(K,nl,f,[a0,a1,a2,a3,a4,a5,a6,a7],er),n,d,a0,a1,a2,a3,a4,a5,a6,a7,by rw[<-HA.out];exact HH.out,rfl,HN.out,rfl,HPO.out,HS6.out⟩)
open F (hx vl bn ten)
open X (nn tb)
theorem Rq:∀(l:List UInt8) (acc:Nat),acc<=65535->((nn l).all ten=true/\(nn l).foldl (fun n c=>n * 10+(hx c).toNat) acc<=65535/\Lib.parseUintM 65535 acc l=.ok ((nn l).foldl (fun n c=>n * 10+(hx c).toNat) acc))\/(¬ ((nn l).all ten=true/\(nn l).foldl (fun n c=>n * 10+(hx c).toNat) acc<=65535)/\∀ u,Lib.parseUintM 65535 acc l≠.ok u)
 | [],acc,h=>.inl ⟨rfl,h,rfl⟩
 | c::l,acc,h=>by
  have e0:nn (c::l)=(c.toNat:Int)::nn l:=rfl;rw[e0,List.all_cons,List.foldl_cons];by_cases hd:48<=c.toNat/\c.toNat<=57
  ·have hx1:(hx (c.toNat:Int)).toNat=c.toNat - 48:=by rw[tb (by omega)];omega
   have ht:ten (c.toNat:Int)=true:=by unfold ten;exact decide_eq_true (by omega)
   rw[hx1,ht,Bool.true_and];have hcut:¬ 1844674407370955162<=acc:=by omega
   by_cases hov:65535<acc * 10+(c.toNat - 48)
   ·right;have hp:Lib.parseUintM 65535 acc (c::l)=.range:=by rw[Lib.parseUintM,if_pos hd,if_neg hcut,if_pos hov]
    refine⟨fun hh=>?_,fun u e=>by rw[hp]at e;cases e⟩
    have mono:∀(m:List Int) (x:Nat),65535<x->65535<m.foldl (fun n c=>n * 10+(hx c).toNat) x:=by
     intro m
     induction m with
     | nil=>intro x h;exact h
     | cons d m ih=>intro x h;rw[List.foldl_cons];exact ih _ (by omega)
    have:=mono (nn l) _ hov;omega
   ·have hp:Lib.parseUintM 65535 acc (c::l)=Lib.parseUintM 65535 (acc * 10+(c.toNat - 48)) l:=by rw[Lib.parseUintM,if_pos hd,if_neg hcut,if_neg hov]
    rw[hp];exact Rq l _ (by omega)
  ·right;have ht:ten (c.toNat:Int)=false:=by unfold ten;exact decide_eq_false (by omega)
   rw[ht];exact⟨by simp,fun u e=>by rw[Lib.parseUintM,if_neg hd]at e;cases e⟩
theorem zU(t:ByteArray)(hs:t.size<=1000000000)(v:Nat)(h:Lib.parseUintB 16 t.data.toList=.ok v)(w:World):Calls prog 35 #[.string t,.int .i64 10,.int .i64 16] w fun e W'=>e=.returned (.tuple #[.int .u64 v,.nilIface])/\Below w.heap.size w W':=by
 have hq:=Any.strconv_ParseUint_10_at16_ok Tryz.laysPu t (by omega) v h w;refine Calls.mono (show Calls prog 35 #[.string t,.int .i64 10,.int .i64 16] w _ from hq) ?_;rintro e W' ⟨rfl,hW⟩;refine⟨rfl,?_⟩;rcases hW with rfl | rfl
 ·exact Below.refl _ _
 ·exact⟨rfl,rfl,rfl,by rw[Lib.bytesWorld_size];omega,fun k hk=>Lib.bytesWorld_at_old w _ t k hk⟩
theorem mQ(t:ByteArray)(hs:t.size<=1000000000)(h:∀ u,Lib.parseUintB 16 t.data.toList≠.ok u)(w:World)(hE:X.Er w):Calls prog 35 #[.string t,.int .i64 10,.int .i64 16] w fun e W'=>(∃(x:Nat) (T:TypeId) (p:Value),x<=65535/\e=.returned (.tuple #[.int .u64 x,.iface T p]))/\Below w.heap.size w W':=by
 obtain⟨⟨ev,h1,h2⟩,⟨ev',h3,h4⟩⟩:=hE;cases hx:Lib.parseUintB 16 t.data.toList
 ·exact absurd hx (h _)
 ·have hI:Calls prog 67 #[.string t,.int .i64 10,.int .i64 16] w fun e w'=>e=.returned (.tuple #[.int .u64 0,.iface 148 (.int .i64 2)])/\Below w.heap.size w w':=by
   have hq:=AnyPu.internal_strconv_ParseUint_10_at16 { Tryz.laysPu with } t (by omega) w;rw[hx]at hq;refine Calls.mono (show Calls prog 67 #[.string t,.int .i64 10,.int .i64 16] w _ from hq) ?_;rintro e W' ⟨rfl,hW⟩;refine⟨rfl,?_⟩;rcases hW with rfl | rfl
   ·exact Below.refl _ _
   ·exact⟨rfl,rfl,rfl,by rw[Lib.bytesWorld_size];omega,fun k hk=>Lib.bytesWorld_at_old w _ t k hk⟩
  have HER:Hid (X.Er w):=⟨⟨ev,h1,h2⟩,⟨ev',h3,h4⟩⟩;clear hx h h1 h2 h3 h4;go_enter func35,ntmps35;go_wp2_with fail;refine hI.mono ?_;rintro e w1 ⟨rfl,hb⟩;go_wp2_with fail;refine(X.lC t hs 10 16 w1 (HER.out.below hb)).mono ?_;rintro e w2 ⟨⟨T,p,rfl⟩,hb2⟩;have hb3:Below w.heap.size w w2:=hb.trans (hb2.mono hb.size);go_wp2;go_ret2;exact⟨⟨0,T,p,by omega,rfl⟩,hb3⟩
 ·have hq:=Any.strconv_ParseUint_10_at16_range Tryz.laysPu t (by omega) hx ev' w h3 h4;refine Calls.mono (show Calls prog 35 #[.string t,.int .i64 10,.int .i64 16] w _ from hq) ?_;rintro e W' ⟨N,rfl,_,_,hb⟩;exact⟨⟨65535,_,_,by omega,rfl⟩,hb⟩
theorem jM(t:ByteArray)(hne:bn t≠[]):((bn t).all ten=true/\vl 10 (bn t)<=65535/\Lib.parseUintB 16 t.data.toList=.ok (vl 10 (bn t)))\/(¬ ((bn t).all ten=true/\vl 10 (bn t)<=65535)/\∀ u,Lib.parseUintB 16 t.data.toList≠.ok u):=by
 have he:¬ t.data.toList=[]:=fun h=>hne (by unfold bn;rw[h];rfl);have hB:Lib.parseUintB 16 t.data.toList=Lib.parseUintM 65535 0 t.data.toList:=by unfold Lib.parseUintB;rw[if_neg he]
 rw[hB];exact Rq t.data.toList 0 (by omega)
theorem dgs:∀ k:Fin 10,((UInt8.ofNat (48+k.val)).toNat:Int)=F.dg k.val:=by decide
theorem rI:∀(f n:Nat),n<10 ^ (f+1)->(Lib.decDigits n).map (fun b:UInt8=>(b.toNat:Int))=F.wrF 10 f n
 | 0,n,h=>by
  have hn:n<10:=by simpa using h
  rw[Lib.decDigits,dif_pos hn,F.wrF,Nat.mod_eq_of_lt hn];exact congrArg (fun x=>[x]) (dgs ⟨n,hn⟩)
 | f+1,n,h=>by
  rw[Lib.decDigits,F.wrF];by_cases hn:n<10
  ·rw[dif_pos hn,if_pos hn];exact congrArg (fun x=>[x]) (dgs ⟨n,hn⟩)
  ·rw[dif_neg hn,if_neg hn,List.map_append,rI f (n / 10) (by rw[Nat.pow_succ]at h;omega)];exact congrArg (fun x=>F.wrF 10 f (n / 10)++[x]) (dgs ⟨n % 10,Nat.mod_lt _ (by decide)⟩)
theorem kc:∀ f n:Nat,(F.wrF 10 f n).length<=f+1
 | 0,n=>le_refl _
 | f+1,n=>by
  rw[F.wrF];split
  ·show 1<=_;omega
  ·rw[List.length_append];have:=kc f (n / 10);show _+1<=_;omega
theorem nH(n:Nat)(h:n<65536):(F.wr 10 n).length<=1000:=le_trans (kc 64 n) (by decide)
theorem Hv(n:Nat)(hn:n<65536)(w:World)(hp:F.Pow w):Calls prog 23 #[.int .i64 n] w fun e W'=>(∃ t,e=.returned (.string t)/\bn t=F.wr 10 n)/\Below w.heap.size w W':=by
 have h:=Any.strconv_Itoa Tryz.laysItoa n (by omega) (by omega) w (by
   unfold Lib.TabIs World.var?
   rw[show prog.globalNamed _=some 3 from by kernel_rfl]
   exact hp)
 have hf:Tryz.laysItoa_ren.f 171=23:=by kernel_rfl
 rw[hf]at h;refine h.mono ?_;rintro e W' ⟨rfl,k,os,rfl⟩;refine⟨⟨_,rfl,?_⟩,F.yC _ _ _⟩;have e:Lib.itoa n=Lib.decDigits n:=by unfold Lib.itoa;rw[if_neg (by omega)];simp
 show(Lib.itoa n).map (fun b:UInt8=>(b.toNat:Int))=_;rw[e];exact rI 64 n (Nat.lt_of_lt_of_le hn (by decide))
end Y
end Go.Proofs.YtmkompnhefhngaaGreatDoor
