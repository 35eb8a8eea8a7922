/- Contracts and plain facts. -/
import Derived.Test.YtlmflmdmolcfhaaGreatDoorZ11
set_option maxRecDepth 100000
set_option maxHeartbeats 16000000
set_option linter.unusedVariables false
set_option linter.unnecessarySimpa false
open Go.World (ownsRow_nil)
open Nat (le_refl zero_le add_sub_cancel)
open List (length_take length_drop filter_append countP_cons_of_neg drop_succ_cons drop_zero append_assoc all_cons length_nil take_length append_nil)
open Int (tmod_eq_emod_of_nonneg)
open Go.ByteArray (toList_eq)
open Bool (and_eq_true false_eq_true)
namespace Go.Proofs.YtlmflmdmolcfhaaGreatDoor
open Go.Proofs.Tryz Go.RowKit
namespace U
open Go.RowKit Go.Shelf
attribute [local go_sem] Oper.semAt_some
def val(l:List Int):Bool:=(scl l).all fun x=>x.1.2
theorem mX(l:List Int)(h:l≠[])(hl:Bytes l):val l=((nx l).2.2&&val (l.drop (nx l).2.1)):=by unfold val;rw[km l h,all_cons,ml l hl]
theorem back:∀(zs:List Int),zs.all ab=true->dec (aj zs)=zs/\val (aj zs)=true
 | [],_=>⟨rfl,rfl⟩
 | c::t,h=>by
  rw[all_cons,and_eq_true]at h;have ih:=back t h.2;have e:aj (c::t)=enc c++aj t:=by simp[aj]
  have hx:=nY c h.1 (aj t);have hlen:=eG c;have hne:enc c++aj t≠[]:=fun hh=>by have:=congrArg List.length hh;rw[List.length_append,length_nil]at this;omega
  have hb:Bytes (enc c++aj t):=fun b hb=>(List.mem_append.1 hb).elim (cR c (by have:=h.1;unfold ab at this;rw[decide_eq_true_eq]at this;omega) (by have:=h.1;unfold ab at this;rw[decide_eq_true_eq]at this;omega) b) (dI t (fun c hc=>by have:=List.all_eq_true.1 h.2 c hc;unfold ab at this;rw[decide_eq_true_eq]at this;omega) b);have hd:(enc c++aj t).drop (enc c).length=aj t:=by simp
  rw[e,aO _ hne hb,mX _ hne hb,hx];simp only[hd,ih.1,ih.2];exact⟨trivial,rfl⟩
end U
namespace F
theorem aS{a b:ByteArray}(h:bn a=bn b):(a.toList==b.toList)=true:=by rw[gC];exact decide_eq_true h
end F
namespace H
theorem HP.one{A:List Int->List Int->Int->Prop}(hA:Asc A){s:List Int}{sp:Bool}{h k:Hst}(x:HP A s sp h)(y:HP A s sp k):h=k:=by
 unfold HP at x y;split at x
 ·rename_i c;rw[if_pos c]at y;rw[x,y]
 ·rename_i c;rw[if_neg c]at y;split at x
  ·rename_i c;rw[if_pos c]at y;rw[x,y]
  ·rename_i c;rw[if_neg c]at y;split at x
   ·rename_i c;rw[if_pos c]at y;rw[x,y]
   ·rename_i c;rw[if_neg c]at y;obtain⟨d,r,h1,rfl⟩:=x;obtain⟨d',r',h2,rfl⟩:=y;obtain⟨rfl,rfl⟩:=hA.one h1 h2;rfl
theorem cD(xs:Array Value)(i:Nat)(x:Int)(h:xs[i]? = some (.int .u16 x))(w:World):(part 23 xs i).run prog w=.ok (.int .u16 x) w:=by unfold part;simp[h,go_sem]
theorem cG(d:Nat)(xs ys:Array Value)(f g:Nat->Int)(w:World):∀(L:List Nat),(∀ i∈L,xs[i]? = some (.int .u16 (f i)))->(∀ i∈L,ys[i]? = some (.int .u16 (g i))) ->
  Sem.run prog (forIn L ((none:Option Bool),()) fun i __s=>do
          let a <-part 23 xs (i * 1)
          let b <-part 23 ys (i * 1)
          let r <-Op.equalIn (d+1) 23 a b
          if (!r)=true then pure (ForInStep.done (some false,())) else pure (ForInStep.yield (none,()))) w=.ok ((if L.all (fun i=>f i==g i)=true then none else some false),()) w
 | [],_,_=>by simp
 | i::L,hx,hy=>by
  have ih:=cG d xs ys f g w L (fun j hj=>hx j (by simp[hj])) (fun j hj=>hy j (by simp[hj]));have e:i * 1=i:=Nat.mul_one i;simp only[List.forIn_cons,Sem.run_bind,e,cD xs i _ (hx i (by simp)),cD ys i _ (hy i (by simp)),Result.andThen_ok,run_equalIn_int w d 23 .u16 .u16 _ _ underlying23];cases h:(f i==g i) with
  | true=>simp only[Bool.not_true,false_eq_true,if_false,Sem.run_pure,Result.andThen_ok,all_cons,h,Bool.true_and];simpa using ih
  | false=>simp[h]
theorem xX(d:Nat)(xs ys:Array Value)(f g:Nat->Int)(hx:∀ i,i<8->xs[i]? = some (.int .u16 (f i)))(hy:∀ i,i<8->ys[i]? = some (.int .u16 (g i)))(w:World):(Op.equalIn (d+2) 24 (.agg xs) (.agg ys)).run prog w=.ok ((List.range 8).all (fun i=>f i==g i)) w:=by
 have hs:∀ w,(sizeOf 23).run prog w=.ok 1 w:=fun w=>by kernel_rfl
 rw[Op.equalIn];simp only[Sem.run_bind,run_underlying underlying24,Result.andThen_ok,hs];rw[Std.Legacy.Range.forIn_eq_forIn_range'];have e:List.range' ([:8]:Std.Legacy.Range).start ([:8]:Std.Legacy.Range).size ([:8]:Std.Legacy.Range).step=List.range 8:=by decide
 rw[e];have h:=cG d xs ys f g w (List.range 8) (fun i hi=>hx i (List.mem_range.1 hi)) (fun i hi=>hy i (List.mem_range.1 hi));rw[h];simp only[Result.andThen_ok];cases (List.range 8).all (fun i=>f i==g i) <;> simp
theorem aJ(t:TypeId)(ht:∀ w,(isAgg t).run prog w=.ok false w)(xs:Array Value)(i:Nat)(x:Value)(h:xs[i]? = some x)(w:World):(part t xs i).run prog w=.ok x w:=by unfold part;simp[h,ht w,Sem.run_bind]
theorem cE(xs:Array Value)(w:World):(part 24 xs 3).run prog w=.ok (.agg (xs.extract 3 11)) w:=by
 have h1:(isAgg 24).run prog w=.ok true w:=by kernel_rfl
 unfold part;simp[h1,Sem.run_bind]
theorem fields_host : ((Tryz.prog.fieldsOf 26).toList.map fun f => (f.type, f.offset, decide (f.name = "_"))) = [(5, 0, false), (9, 1, false), (22, 2, false), (24, 3, false)] := by kernel_rfl
def eqh(k:Int)(n:ByteArray)(f:Int)(a:List Int)(k':Int)(n':ByteArray)(f':Int)(b:List Int):Bool:=(k==k')&&((n.toList==n'.toList)&&((f==f')&&(List.range 8).all (fun i=>a[i]?.getD 0==b[i]?.getD 0)))
theorem gT(k:Int)(n:ByteArray)(f a0 a1 a2 a3 a4 a5 a6 a7 k':Int)(n':ByteArray)(f' b0 b1 b2 b3 b4 b5 b6 b7:Int)(w:World):
  (Op.equalIn 10000 26 (hv k n f a0 a1 a2 a3 a4 a5 a6 a7) (hv k' n' f' b0 b1 b2 b3 b4 b5 b6 b7)).run prog w=.ok (eqh k n f [a0,a1,a2,a3,a4,a5,a6,a7] k' n' f' [b0,b1,b2,b3,b4,b5,b6,b7]) w:=by
 rw[run_equalIn_struct w 9999 26 _ _ (by kernel_rfl) (by kernel_rfl)];have hf:=fields_host;generalize (prog.fieldsOf 26).toList=fs at hf ⊢;match fs,hf with
 | [],hf=>cases hf
 | [_],hf=>simp at hf
 | [_,_],hf=>simp at hf
 | [_,_,_],hf=>simp at hf
 | _::_::_::_::_::_,hf=>simp at hf
 | [f0,f1,f2,f3],hf =>
  simp only[List.map_cons,List.map_nil,List.cons.injEq,Prod.mk.injEq,decide_eq_false_iff_not,and_true]at hf;obtain⟨⟨t0,o0,n0⟩,⟨t1,o1,n1⟩,⟨t2,o2,n2⟩,⟨t3,o3,n3⟩⟩:=hf;have g8:∀ w,(isAgg 5).run prog w=.ok false w:=fun w=>by kernel_rfl
  have gs:∀ w,(isAgg 9).run prog w=.ok false w:=fun w=>by kernel_rfl
  have g32:∀ w,(isAgg 22).run prog w=.ok false w:=fun w=>by kernel_rfl
  simp only[Op.eqFields,ne_eq,n0,n1,n2,n3,not_false_eq_true,if_true,t0,t1,t2,t3,o0,o1,o2,o3,Sem.run_bind];rw[aJ _ g8 _ 0 (.int .u8 k) rfl,Result.andThen_ok,aJ _ g8 _ 0 (.int .u8 k') rfl,Result.andThen_ok,run_equalIn_int w 9998 5 .u8 .u8 _ _ underlying5,Result.andThen_ok];unfold eqh;cases hk:(k==k') with
  | false=>simp
  | true =>
   simp only[Bool.not_true,false_eq_true,if_false,Bool.true_and,Sem.run_bind];rw[aJ _ gs _ 1 (.string n) rfl,Result.andThen_ok,aJ _ gs _ 1 (.string n') rfl,Result.andThen_ok,run_equalIn_string w 9998 9 _ _ underlying9,Result.andThen_ok];cases hn:(n.toList==n'.toList) with
   | false=>simp
   | true =>
    simp only[Bool.not_true,false_eq_true,if_false,Bool.true_and,Sem.run_bind];rw[aJ _ g32 _ 2 (.int .u32 f) rfl,Result.andThen_ok,aJ _ g32 _ 2 (.int .u32 f') rfl,Result.andThen_ok,run_equalIn_int w 9998 22 .u32 .u32 _ _ underlying22,Result.andThen_ok];cases h4:(f==f') with
    | false=>simp
    | true =>
     simp only[Bool.not_true,false_eq_true,if_false,Bool.true_and,Sem.run_bind];rw[cE,Result.andThen_ok,cE,Result.andThen_ok]
     rw[xX 9997 _ _ (fun i=>([a0,a1,a2,a3,a4,a5,a6,a7])[i]?.getD 0) (fun i=>([b0,b1,b2,b3,b4,b5,b6,b7])[i]?.getD 0) (fun i hi=>by
       obtain rfl | rfl | rfl | rfl | rfl | rfl | rfl | rfl:i=0\/i=1\/i=2\/i=3\/i=4\/i=5\/i=6\/i=7:=by omega
       all_goals rfl) (fun i hi=>by
       obtain rfl | rfl | rfl | rfl | rfl | rfl | rfl | rfl:i=0\/i=1\/i=2\/i=3\/i=4\/i=5\/i=6\/i=7:=by omega
       all_goals rfl),Result.andThen_ok]
     cases ((List.range 8).all fun i=>([a0,a1,a2,a3,a4,a5,a6,a7])[i]?.getD 0==([b0,b1,b2,b3,b4,b5,b6,b7])[i]?.getD 0) <;> simp
theorem eZ(k:Int)(n:ByteArray)(f a0 a1 a2 a3 a4 a5 a6 a7 k':Int)(n':ByteArray)(f' b0 b1 b2 b3 b4 b5 b6 b7:Int)(w:World):
  (binOp .eql 26 (hv k n f a0 a1 a2 a3 a4 a5 a6 a7) (hv k' n' f' b0 b1 b2 b3 b4 b5 b6 b7)).run prog w=.ok (.bool (eqh k n f [a0,a1,a2,a3,a4,a5,a6,a7] k' n' f' [b0,b1,b2,b3,b4,b5,b6,b7])) w:=by
 rw[run_eql_struct,gT];rfl
theorem fa(k:Int)(n:ByteArray)(f:Int)(a:List Int):eqh k n f a k n f a=true:=by unfold eqh;simp
end H
namespace Y
open F (bn ak hid aS)
theorem At.below{w W:World}{a:Us}{u:Ur}(h:At w a u)(hb:Below w.heap.size w W):At W a u :=
 ⟨h.sc,h.us,h.pa,h.hh,h.ho,h.hp,h.pr,h.op,h.bo,h.hq,h.qu,h.hf,h.fg,h.pv.imp (fun _ h=>⟨h.1,h.2.below hb⟩)⟩
theorem At.same{w:World}{a b:Us}{u:Ur}(h:At w a u)(k:At w b u):b={ a with pv:=b.pv }:=by have ho:=h.ho.trans k.ho.symm;simp only[Prod.mk.injEq,List.cons.injEq,and_true]at ho;obtain⟨o1,o2,o3,o4,o5,o6,o7,o8,o9,o10,o11⟩:=ho;have e1:=ak (h.sc.trans k.sc.symm);have e2:=ak (h.us.trans k.us.symm);have e3:=ak (h.pa.trans k.pa.symm);have e4:=ak o2;have e5:=ak (h.bo.trans k.bo.symm);have e6:=ak (h.qu.trans k.qu.symm);have e7:=ak (h.fg.trans k.fg.symm);have f1:=h.hh.trans k.hh.symm;have f2:=h.hp.trans k.hp.symm;have f3:=h.pr.trans k.pr.symm;have f4:=h.op.trans k.op.symm;have f5:=h.hq.trans k.hq.symm;have f6:=h.hf.trans k.hf.symm;cases a;cases b;simp only at *;subst e1 e2 e3 e4 e5 e6 e7 f1 f2 f3 f4 f5 f6 o1 o3 o4 o5 o6 o7 o8 o9 o10 o11;rfl
theorem dD{w:World}{v v':Value}{ps qs:List ByteArray}(he:ps.map bn=qs.map bn):ps=qs:=by
 induction ps generalizing qs with
 | nil=>cases qs with
  | nil=>rfl
  | cons _ _=>cases he
 | cons p ps ih=>cases qs with
  | nil=>cases he
  | cons q qs =>
   simp only[List.map_cons,List.cons.injEq]at he;rw[ak he.1,ih he.2]
theorem kept{W W':World}{g:Nat}{o:Obj}(h:W.heap[g]? = some o)(hb:Below W.heap.size W W'):W'.heap[g]? = some o:=(hb.block g (Array.getElem?_eq_some_iff.1 h).1).trans h
theorem dW{W:World}{g:Nat}{o:Obj}(h:W.heap[g]? = some o)(o':Obj):(W.alloc o').heap[g]? = some o:=kept h ((Below.refl _ W).alloc (le_refl _) o')
theorem eN(a:Us)(pv:Value)(ps:List ByteArray)(w:World)(h1:Strs w a.pv ps)(h2:Strs w pv ps)(hl:ps.length<=1000000):Calls prog 15 #[.agg (Us.cs a),.agg (Us.cs { a with pv:=pv })] w fun e W'=>e=.returned (.bool true)/\Below w.heap.size w W':=by
 obtain⟨b,hb⟩:=Ex' ({ a with pv:=pv }:Us);rw[hb];have A0:((w.alloc (.cells (Us.cs a) 29)).alloc (.cells (Us.cs b) 29)).heap[w.heap.size]? = some (.cells (Us.cs a) 29 (0,0)):=dW (aA w _ _) _
 have A1:((w.alloc (.cells (Us.cs a) 29)).alloc (.cells (Us.cs b) 29)).heap[w.heap.size+1]? = some (.cells (Us.cs b) 29 (0,0)):=by
  have:=aA (w.alloc (.cells (Us.cs a) 29)) (Us.cs b) 29
  rwa [show(w.alloc (.cells (Us.cs a) 29)).heap.size=w.heap.size+1 by simp]at this
 have HB:Hid (Below w.heap.size w ((w.alloc (.cells (Us.cs a) 29)).alloc (.cells (Us.cs b) 29))):=((Below.refl _ w).alloc (le_refl _) _).alloc (by simp) _;obtain⟨ad1,c1,e1,hc1,q1⟩:=(h1.below HB.out).form;obtain⟨ad2,c2,e2,hc2,q2⟩:=(h2.below HB.out).form;have e2':b.pv=.slice ad2 ps.length c2:=by rw[<-hb];exact e2
 have ebs:b={ a with pv:=.slice ad2 ps.length c2 }:=by rw[<-hb,e2]
 have hcz1:(ps.length:Int)<=(c1:Int):=by omega
 have hcz2:(ps.length:Int)<=(c2:Int):=by omega
 obtain⟨v,hv⟩:=Ex' (((w.alloc (.cells (Us.cs a) 29)).alloc (.cells (Us.cs b) 29)));have R0:Hid (∀ wr:World,wr.heap=v.heap->wr.heap[w.heap.size]? = some (.cells (Us.cs a) 29 (0,0))):=fun wr h=>by rw[h,<-hv];exact A0
 have R1:Hid (∀ wr:World,wr.heap=v.heap->wr.heap[w.heap.size+1]? = some (.cells (Us.cs b) 29 (0,0))):=fun wr h=>by rw[h,<-hv];exact A1
 have RP:Hid (∀(wr:World) (i:Nat),wr.heap=v.heap->i<ps.length->∃ b1 o1 b2 o2 x,ad1=some ⟨b1,o1,none⟩/\ad2=some ⟨b2,o2,none⟩/\wr.cell? ⟨b1,o1+i,none⟩=some (.string x)/\wr.cell? ⟨b2,o2+i,none⟩=some (.string x)):=fun wr i h hi=>by
  have hc:∀ p,wr.cell? p=v.cell? p:=fun p=>by unfold World.cell?;rw[h]
  rcases q1 with q1 | ⟨b1,o1,k1,g1⟩
  ·rw[q1]at hi;simp at hi
  rcases q2 with q2 | ⟨b2,o2,k2,g2⟩
  ·rw[q2]at hi;simp at hi
  exact⟨b1,o1,b2,o2,_,k1,k2,(hc _).trans (by rw[<-hv];exact g1 i hi),(hc _).trans (by rw[<-hv];exact g2 i hi)⟩
 have HB2:Hid (Below w.heap.size w v):=by rw[<-hv];exact HB.out
 have F18:v.cell? ⟨w.heap.size,18,none⟩=some (.slice ad1 ps.length c1):=by rw[<-hv];exact(cell_of_row _ _ 18 _ _ _ A0).trans (by rw[<-e1];rfl)
 have D18:v.cell? ⟨w.heap.size+1,18,none⟩=some (.slice ad2 ps.length c2):=by rw[<-hv];exact(cell_of_row _ _ 18 _ _ _ A1).trans (by rw[<-e2'];rfl)
 have E1:=hid e1;have E2:=hid e2';have EB:=hid ebs;clear q1 q2 A0 A1 HB h1 h2 hb e2 e1 e2' ebs;go_enter func15,ntmps15;go_wp2_with fail;clear hv F18 D18
 go_loopw [5] (fun v5 wr=>∃ k:Nat,k<=ps.length/\v5=.int .i64 k/\Hid (wr.heap=v.heap/\Below w.heap.size w wr)) (fun v5 _=>ps.length - (intOf v5).toNat)
 case atStart=>exact⟨0,zero_le _,rfl,rfl,HB2.out⟩
 case round =>
  obtain⟨i,hi,rfl,HW⟩:=hrel;have G18:wr.cell? ⟨w.heap.size,18,none⟩=some (.slice ad1 ps.length c1):=(cell_of_row _ _ 18 _ _ _ (R0.out wr HW.out.1)).trans (by rw[<-E1.out];rfl);have E18:wr.cell? ⟨w.heap.size+1,18,none⟩=some (.slice ad2 ps.length c2):=(cell_of_row _ _ 18 _ _ _ (R1.out wr HW.out.1)).trans (by rw[<-E2.out];rfl);by_cases hlt:i<ps.length
  ·have hltz:(i:Int)<(ps.length:Int):=by omega
   obtain⟨b1,o1,b2,o2,x,rfl,rfl,hx1,hx2⟩:=RP.out wr i HW.out.1 hlt;have hxx:(x.toList==x.toList)=true:=aS rfl;go_wp2_with fail
   go_quiet (fail)
   go_wp2
   go_roundw
   case rel=>exact⟨i+1,by omega,by go_num,HW.out.1,(fun h=>⟨h.os,h.tape,h.output,h.size,h.block⟩) HW.out.2⟩
   case measure=>simp[intOf];omega
  ·have hltz:¬ (i:Int)<(ps.length:Int):=by omega
   have K0:=R0.out wr HW.out.1;have K1:=R1.out wr HW.out.1;rw[EB.out]at K1;have F0:wr.cell? ⟨w.heap.size,0,none⟩=some (.string a.sc):=cell_of_row _ _ 0 _ _ _ K0;have F1:wr.cell? ⟨w.heap.size,1,none⟩=some (.string a.us):=cell_of_row _ _ 1 _ _ _ K0;have F2:wr.cell? ⟨w.heap.size,2,none⟩=some (.string a.pa):=cell_of_row _ _ 2 _ _ _ K0;have F3:wr.cell? ⟨w.heap.size,3,none⟩=some (.bool a.hh):=cell_of_row _ _ 3 _ _ _ K0;have F4:wr.cell? ⟨w.heap.size,4,none⟩=some (.int .u8 (a.k:Nat)):=cell_of_row _ _ 4 _ _ _ K0;have F5:wr.cell? ⟨w.heap.size,5,none⟩=some (.string a.nm):=cell_of_row _ _ 5 _ _ _ K0;have F6:wr.cell? ⟨w.heap.size,6,none⟩=some (.int .u32 (a.f:Nat)):=cell_of_row _ _ 6 _ _ _ K0;have F7:wr.cell? ⟨w.heap.size,7,none⟩=some (.int .u16 (a.x0:Nat)):=cell_of_row _ _ 7 _ _ _ K0;have F8:wr.cell? ⟨w.heap.size,8,none⟩=some (.int .u16 (a.x1:Nat)):=cell_of_row _ _ 8 _ _ _ K0;have F9:wr.cell? ⟨w.heap.size,9,none⟩=some (.int .u16 (a.x2:Nat)):=cell_of_row _ _ 9 _ _ _ K0;have F10:wr.cell? ⟨w.heap.size,10,none⟩=some (.int .u16 (a.x3:Nat)):=cell_of_row _ _ 10 _ _ _ K0;have F11:wr.cell? ⟨w.heap.size,11,none⟩=some (.int .u16 (a.x4:Nat)):=cell_of_row _ _ 11 _ _ _ K0;have F12:wr.cell? ⟨w.heap.size,12,none⟩=some (.int .u16 (a.x5:Nat)):=cell_of_row _ _ 12 _ _ _ K0;have F13:wr.cell? ⟨w.heap.size,13,none⟩=some (.int .u16 (a.x6:Nat)):=cell_of_row _ _ 13 _ _ _ K0;have F14:wr.cell? ⟨w.heap.size,14,none⟩=some (.int .u16 (a.x7:Nat)):=cell_of_row _ _ 14 _ _ _ K0;have F15:wr.cell? ⟨w.heap.size,15,none⟩=some (.bool a.hp):=cell_of_row _ _ 15 _ _ _ K0;have F16:wr.cell? ⟨w.heap.size,16,none⟩=some (.int .u16 (a.pr:Nat)):=cell_of_row _ _ 16 _ _ _ K0;have F17:wr.cell? ⟨w.heap.size,17,none⟩=some (.bool a.op):=cell_of_row _ _ 17 _ _ _ K0;have F19:wr.cell? ⟨w.heap.size,19,none⟩=some (.string a.bo):=cell_of_row _ _ 19 _ _ _ K0;have F20:wr.cell? ⟨w.heap.size,20,none⟩=some (.bool a.hq):=cell_of_row _ _ 20 _ _ _ K0;have F21:wr.cell? ⟨w.heap.size,21,none⟩=some (.string a.qu):=cell_of_row _ _ 21 _ _ _ K0;have F22:wr.cell? ⟨w.heap.size,22,none⟩=some (.bool a.hf):=cell_of_row _ _ 22 _ _ _ K0;have F23:wr.cell? ⟨w.heap.size,23,none⟩=some (.string a.fg):=cell_of_row _ _ 23 _ _ _ K0;have D0:wr.cell? ⟨(w.heap.size+1),0,none⟩=some (.string a.sc):=cell_of_row _ _ 0 _ _ _ K1;have D1:wr.cell? ⟨(w.heap.size+1),1,none⟩=some (.string a.us):=cell_of_row _ _ 1 _ _ _ K1;have D2:wr.cell? ⟨(w.heap.size+1),2,none⟩=some (.string a.pa):=cell_of_row _ _ 2 _ _ _ K1;have D3:wr.cell? ⟨(w.heap.size+1),3,none⟩=some (.bool a.hh):=cell_of_row _ _ 3 _ _ _ K1;have D4:wr.cell? ⟨(w.heap.size+1),4,none⟩=some (.int .u8 (a.k:Nat)):=cell_of_row _ _ 4 _ _ _ K1;have D5:wr.cell? ⟨(w.heap.size+1),5,none⟩=some (.string a.nm):=cell_of_row _ _ 5 _ _ _ K1;have D6:wr.cell? ⟨(w.heap.size+1),6,none⟩=some (.int .u32 (a.f:Nat)):=cell_of_row _ _ 6 _ _ _ K1;have D7:wr.cell? ⟨(w.heap.size+1),7,none⟩=some (.int .u16 (a.x0:Nat)):=cell_of_row _ _ 7 _ _ _ K1;have D8:wr.cell? ⟨(w.heap.size+1),8,none⟩=some (.int .u16 (a.x1:Nat)):=cell_of_row _ _ 8 _ _ _ K1;have D9:wr.cell? ⟨(w.heap.size+1),9,none⟩=some (.int .u16 (a.x2:Nat)):=cell_of_row _ _ 9 _ _ _ K1;have D10:wr.cell? ⟨(w.heap.size+1),10,none⟩=some (.int .u16 (a.x3:Nat)):=cell_of_row _ _ 10 _ _ _ K1;have D11:wr.cell? ⟨(w.heap.size+1),11,none⟩=some (.int .u16 (a.x4:Nat)):=cell_of_row _ _ 11 _ _ _ K1;have D12:wr.cell? ⟨(w.heap.size+1),12,none⟩=some (.int .u16 (a.x5:Nat)):=cell_of_row _ _ 12 _ _ _ K1;have D13:wr.cell? ⟨(w.heap.size+1),13,none⟩=some (.int .u16 (a.x6:Nat)):=cell_of_row _ _ 13 _ _ _ K1;have D14:wr.cell? ⟨(w.heap.size+1),14,none⟩=some (.int .u16 (a.x7:Nat)):=cell_of_row _ _ 14 _ _ _ K1;have D15:wr.cell? ⟨(w.heap.size+1),15,none⟩=some (.bool a.hp):=cell_of_row _ _ 15 _ _ _ K1;have D16:wr.cell? ⟨(w.heap.size+1),16,none⟩=some (.int .u16 (a.pr:Nat)):=cell_of_row _ _ 16 _ _ _ K1;have D17:wr.cell? ⟨(w.heap.size+1),17,none⟩=some (.bool a.op):=cell_of_row _ _ 17 _ _ _ K1;have D19:wr.cell? ⟨(w.heap.size+1),19,none⟩=some (.string a.bo):=cell_of_row _ _ 19 _ _ _ K1;have D20:wr.cell? ⟨(w.heap.size+1),20,none⟩=some (.bool a.hq):=cell_of_row _ _ 20 _ _ _ K1;have D21:wr.cell? ⟨(w.heap.size+1),21,none⟩=some (.string a.qu):=cell_of_row _ _ 21 _ _ _ K1;have D22:wr.cell? ⟨(w.heap.size+1),22,none⟩=some (.bool a.hf):=cell_of_row _ _ 22 _ _ _ K1;have D23:wr.cell? ⟨(w.heap.size+1),23,none⟩=some (.string a.fg):=cell_of_row _ _ 23 _ _ _ K1;have EH:∀ W,(binOp .eql 26 (H.hv (a.k:Nat) a.nm (a.f:Nat) (a.x0:Nat) (a.x1:Nat) (a.x2:Nat) (a.x3:Nat) (a.x4:Nat) (a.x5:Nat) (a.x6:Nat) (a.x7:Nat)) (H.hv (a.k:Nat) a.nm (a.f:Nat) (a.x0:Nat) (a.x1:Nat) (a.x2:Nat) (a.x3:Nat) (a.x4:Nat) (a.x5:Nat) (a.x6:Nat) (a.x7:Nat))).run prog W=.ok (.bool true) W:=fun W=>by rw[H.eZ,H.fa]
   have SE:∀ s:ByteArray,(s.toList==s.toList)=true:=fun s=>aS rfl;clear K0 K1 R0 R1 RP E1 E2 EB;go_wp2;go_ret;exact⟨rfl,HW.out.2⟩
theorem eO{l:List Int}(h:hqy l=none)(a b:H.Hst):rdc l a=rdc l b:=by
 unfold hqy at h;unfold rdc;cases hs:sch l with
 | none=>rfl
 | some mr =>
  obtain⟨m,r⟩:=mr;rw[hs]at h;simp only at h ⊢;by_cases hf:m=cA
  ·rw[if_pos hf,if_pos hf]
  ·rw[if_neg hf]at h ⊢;rw[if_neg hf];cases ha:aus m r with
   | none=>rfl
   | some q =>
    rw[ha]at h;simp only at h ⊢;have hn:ask (own m).isSome (q.takeWhile (nau (own m).isSome))=none:=by simpa using h
    have e:∀ z:H.Hst,ath m (q.takeWhile (nau (own m).isSome)) z=(zu,70):=fun z=>by unfold ath;rw[if_pos hn]
    rw[e a,e b]
theorem UP.one{A:List Int->List Int->Int->Prop}(hA:H.Asc A){s:List Int}{r q:Ur×Int}(x:UP A s r)(y:UP A s q):r=q:=by
 unfold UP at x y;split at x
 ·rename_i c;rw[if_pos c]at y;rw[x,y]
 ·rename_i c;rw[if_neg c]at y;obtain⟨h,h1,rfl⟩:=x;obtain⟨k,k1,rfl⟩:=y;cases hq:hqy (cln s) with
  | none=>exact eO hq h k
  | some z =>
   obtain⟨t,sp⟩:=z;rw[H.HP.one hA (h1 t sp hq) (k1 t sp hq)]
theorem UP.alike{A:List Int->List Int->Int->Prop}{s t:List Int}{r:Ur×Int}(h1:s.length<=4096)(h2:t.length<=4096)(he:cln s=cln t)(x:UP A s r):UP A t r:=by unfold UP at x ⊢;rw[if_neg (by omega)]at x ⊢;rw[<-he];exact x
def ntb(c:Int):Bool:=!tab c
theorem kc{c:Int}(h:ntb c=false):blk c=true:=by unfold ntb tab at h;simp at h;unfold blk;exact decide_eq_true (by omega)
theorem bC:∀ l:List Int,(l.filter ntb).dropWhile blk=(l.dropWhile blk).filter ntb
 | []=>rfl
 | c::l=>by
  by_cases hb:blk c=true
  ·rw[List.dropWhile_cons_of_pos hb,<-bC l];by_cases hn:ntb c=true
   ·rw[List.filter_cons_of_pos hn,List.dropWhile_cons_of_pos hb]
   ·rw[List.filter_cons_of_neg hn]
  ·have hn:ntb c=true:=by
    cases h:ntb c with
    | true=>rfl
    | false=>exact absurd (kc h) hb
   rw[List.dropWhile_cons_of_neg hb,List.filter_cons_of_pos hn,List.dropWhile_cons_of_neg hb]
theorem dr(l:List Int):(strip l).filter ntb=strip (l.filter ntb):=by unfold strip;rw[List.filter_reverse,<-bC,List.filter_reverse,<-bC]
theorem jR(s:List Int):cln s=U.aj (strip ((U.dec s).filter ntb)):=by rw[<-dr];rfl
theorem tC{a l:List Int}(h:∀ c∈a,blk c=true):strip (a++l)=strip l:=by unfold strip;rw[List.dropWhile_append_of_pos h]
theorem vN{b:List Int}(h:∀ c∈b,blk c=true):∀ l:List Int,((l++b).dropWhile blk).reverse.dropWhile blk=(l.dropWhile blk).reverse.dropWhile blk
 | []=>by
  have e:b.dropWhile blk=[]:=by have:=List.dropWhile_append_of_pos (p:=blk) (l₁:=b) (l₂:=[]) h;simpa using this
  rw[List.nil_append,e];rfl
 | c::l=>by
  by_cases hb:blk c=true
  ·rw[List.cons_append,List.dropWhile_cons_of_pos hb,List.dropWhile_cons_of_pos hb,vN h l]
  ·rw[List.cons_append,List.dropWhile_cons_of_neg hb,List.dropWhile_cons_of_neg hb];have e:(c::(l++b)).reverse=b.reverse++(c::l).reverse:=by simp
   rw[e,List.dropWhile_append_of_pos (fun x hx=>h x (List.mem_reverse.1 hx))]
theorem wT{b l:List Int}(h:∀ c∈b,blk c=true):strip (l++b)=strip l:=by unfold strip;rw[vN h l]
theorem yo{s t f m b:List Int}(hf:∀ c∈f,blk c=true)(hb:∀ c∈b,blk c=true)(hm:m.filter ntb=(U.dec s).filter ntb)(ht:U.dec t=f++(m++b)):cln t=cln s:=by rw[jR,jR,ht,filter_append,filter_append,hm,tC (fun c hc=>hf c (List.mem_filter.1 hc).1),wT (fun c hc=>hb c (List.mem_filter.1 hc).1)]
end Y
namespace U
theorem dP(c:Int)(w:World):
  Calls prog 41 #[.int .i32 c] w fun e w'=>e=.returned (.bool (ab c))/\w'=w:=by
 go_enter func41,ntmps41;go_wp2;all_goals (go_ret;exact⟨aW (by unfold ab;rw[Bool.eq_iff_iff];simp;try omega),rfl⟩)
theorem QJ(c:Int)(h0:0<=c)(h1:c<128)(w:World):
  Calls prog 42 #[.int .i32 c] w fun e W'=>(∃ t,e=.returned (.string t)/\bn t=[c])/\Below w.heap.size w W':=by
 obtain⟨i0,hi,hz0,hz1,hz2⟩:=info_parts Tryz.info5;have HB:Hid (Bytes [c]):=fun b hb=>by simp at hb;omega
 go_enter func42,ntmps42;go_wp2_with(at_builtin;refine wpList_append_own _ rfl _ _ 42 rfl w.heap.size 5 i0 (.int .u8 0) 1 1 underlying42 hi hz0 hz1 hz2 rfl (by decide) _ 0 [] rfl (ownsRow_nil _ _ _ _) ⟨w.heap.size,0,none⟩ 1 1 [.int .u8 (c)] rfl rfl (cZ _ _ _) (by simp[Value.oneCell']) (by unfold maxLen;omega) (by omega) (by simp) ?_;intro v' w1 hown' hgrow _;obtain⟨t,hcv,ht⟩:=aV w1 w.heap.size v' 1 [c] rfl HB.out (by simpa using hown'));go_ret;exact⟨⟨t,rfl,ht⟩,below_grow (v:=.slice none 0 0) (n:=0) (xs:=[]) ((Below.refl w.heap.size w).alloc (le_refl _) _) (by simp) (ownsRow_nil _ _ 5 1) hgrow⟩
theorem QI(c:Int)(h0:128<=c)(h1:c<2048)(w:World):
  Calls prog 42 #[.int .i32 c] w fun e W'=>(∃ t,e=.returned (.string t)/\bn t=[192+c / 64,128+c % 64])/\Below w.heap.size w W':=by
 obtain⟨i0,hi,hz0,hz1,hz2⟩:=info_parts Tryz.info5;have HB:Hid (Bytes [192+c / 64,128+c % 64]):=fun b hb=>by simp at hb;omega
 go_enter func42,ntmps42;go_wp2_with(at_builtin;refine wpList_append_own _ rfl _ _ 42 rfl w.heap.size 5 i0 (.int .u8 0) 1 1 underlying42 hi hz0 hz1 hz2 rfl (by decide) _ 0 [] rfl (ownsRow_nil _ _ _ _) ⟨w.heap.size,0,none⟩ 2 2 [.int .u8 (192+c / 64),.int .u8 (128+c % 64)] rfl rfl (cZ _ _ _) (by simp[Value.oneCell']) (by unfold maxLen;omega) (by omega) (by simp) ?_;intro v' w1 hown' hgrow _;obtain⟨t,hcv,ht⟩:=aV w1 w.heap.size v' 2 [192+c / 64,128+c % 64] rfl HB.out (by simpa using hown'));go_ret;exact⟨⟨t,rfl,ht⟩,below_grow (v:=.slice none 0 0) (n:=0) (xs:=[]) ((Below.refl w.heap.size w).alloc (le_refl _) _) (by simp) (ownsRow_nil _ _ 5 1) hgrow⟩
theorem QH(c:Int)(h0:2048<=c)(h1:c<65536)(w:World):
  Calls prog 42 #[.int .i32 c] w fun e W'=>(∃ t,e=.returned (.string t)/\bn t=[224+c / 4096,128+c / 64 % 64,128+c % 64])/\Below w.heap.size w W':=by
 obtain⟨i0,hi,hz0,hz1,hz2⟩:=info_parts Tryz.info5;have HB:Hid (Bytes [224+c / 4096,128+c / 64 % 64,128+c % 64]):=fun b hb=>by simp at hb;omega
 go_enter func42,ntmps42;go_wp2_with(at_builtin;refine wpList_append_own _ rfl _ _ 42 rfl w.heap.size 5 i0 (.int .u8 0) 1 1 underlying42 hi hz0 hz1 hz2 rfl (by decide) _ 0 [] rfl (ownsRow_nil _ _ _ _) ⟨w.heap.size,0,none⟩ 3 3 [.int .u8 (224+c / 4096),.int .u8 (128+c / 64 % 64),.int .u8 (128+c % 64)] rfl rfl (cZ _ _ _) (by simp[Value.oneCell']) (by unfold maxLen;omega) (by omega) (by simp) ?_;intro v' w1 hown' hgrow _;obtain⟨t,hcv,ht⟩:=aV w1 w.heap.size v' 3 [224+c / 4096,128+c / 64 % 64,128+c % 64] rfl HB.out (by simpa using hown'));go_ret;exact⟨⟨t,rfl,ht⟩,below_grow (v:=.slice none 0 0) (n:=0) (xs:=[]) ((Below.refl w.heap.size w).alloc (le_refl _) _) (by simp) (ownsRow_nil _ _ 5 1) hgrow⟩
theorem QG(c:Int)(h0:65536<=c)(h1:c<1114112)(w:World):
  Calls prog 42 #[.int .i32 c] w fun e W'=>(∃ t,e=.returned (.string t)/\bn t=[240+c / 262144,128+c / 4096 % 64,128+c / 64 % 64,128+c % 64])/\Below w.heap.size w W':=by
 obtain⟨i0,hi,hz0,hz1,hz2⟩:=info_parts Tryz.info5;have HB:Hid (Bytes [240+c / 262144,128+c / 4096 % 64,128+c / 64 % 64,128+c % 64]):=fun b hb=>by simp at hb;omega
 go_enter func42,ntmps42;go_wp2_with(at_builtin;refine wpList_append_own _ rfl _ _ 42 rfl w.heap.size 5 i0 (.int .u8 0) 1 1 underlying42 hi hz0 hz1 hz2 rfl (by decide) _ 0 [] rfl (ownsRow_nil _ _ _ _) ⟨w.heap.size,0,none⟩ 4 4 [.int .u8 (240+c / 262144),.int .u8 (128+c / 4096 % 64),.int .u8 (128+c / 64 % 64),.int .u8 (128+c % 64)] rfl rfl (cZ _ _ _) (by simp[Value.oneCell']) (by unfold maxLen;omega) (by omega) (by simp) ?_;intro v' w1 hown' hgrow _;obtain⟨t,hcv,ht⟩:=aV w1 w.heap.size v' 4 [240+c / 262144,128+c / 4096 % 64,128+c / 64 % 64,128+c % 64] rfl HB.out (by simpa using hown'));go_ret;exact⟨⟨t,rfl,ht⟩,below_grow (v:=.slice none 0 0) (n:=0) (xs:=[]) ((Below.refl w.heap.size w).alloc (le_refl _) _) (by simp) (ownsRow_nil _ _ 5 1) hgrow⟩
theorem ko(c:Int)(h0:0<=c)(h1:c<=1114111)(w:World):
  Calls prog 42 #[.int .i32 c] w fun e W'=>(∃ t,e=.returned (.string t)/\bn t=enc c)/\Below w.heap.size w W':=by
 unfold enc;by_cases q1:c<128
 ·rw[if_pos q1];exact QJ c h0 q1 w
 ·rw[if_neg q1];by_cases q2:c<2048
  ·rw[if_pos q2];exact QI c (by omega) q2 w
  ·rw[if_neg q2];by_cases q3:c<65536
   ·rw[if_pos q3];exact QH c (by omega) q3 w
   ·rw[if_neg q3];exact QG c (by omega) (by omega) w
def Qu(zs:List Int)(t:ByteArray)(e:Bool):Prop:=(zs.all ab=true/\e=true/\bn t=aj zs)\/(zs.all ab=false/\e=false/\t=⟨#[]⟩)
theorem nK(b off cap:Nat)(zs:List Int)(hlen:zs.length<=17179869184)(w:World)(hp:0<zs.length)(hc:∀ j,j<zs.length->w.cell? ⟨b,off+j,none⟩=some (.int .i32 (zs[j]?.getD 0))):
  Calls prog 22 #[.slice (some ⟨b,off,none⟩) zs.length cap] w fun e W'=>(∃ t r,e=.returned (.tuple #[.string t,.bool r])/\Qu zs t r)/\Below w.heap.size w W':=by
 have hb:b<w.heap.size:=lt_of_cell (hc 0 hp);go_enter func22,ntmps22;go_wp2_with fail
 go_loopw [4,5] (fun v i wr=>∃(k:Nat) (t:ByteArray),k<=zs.length/\i=.int .i64 k/\v=.string t/\Hid ((zs.take k).all ab=true)/\Hid (bn t=aj (zs.take k))/\Below w.heap.size w wr)
  (fun _ i _=>zs.length - (intOf i).toNat)
 case atStart=>exact⟨0,⟨#[]⟩,zero_le _,rfl,rfl,by show _=_;simp,by show _=_;simp;rfl,Below.refl _ _⟩
 case round =>
  obtain⟨k,t,hk,rfl,rfl,H1,H0,hB⟩:=hrel;by_cases hlt:k<zs.length
  ·have hck:wr.cell? ⟨b,off+k,none⟩=some (.int .i32 (zs[k]?.getD 0)):=(hB.cell (p:=⟨b,off+k,none⟩) hb).trans (hc k hlt);have hel:=cX (zs.take k);rw[<-H0.out,aa]at hel;have htl:(zs.take k).length<=k:=List.length_take_le _ _;have H2:Hid (aj (zs.take (k+1))=aj (zs.take k)++enc (zs[k]?.getD 0)):=iM zs k hlt;obtain⟨c,hcc⟩:∃ c,c=zs[k]?.getD 0:=⟨_,rfl⟩;rw[<-hcc]at hck;have HC:Hid (c=zs[k]?.getD 0):=hcc;clear hcc;cases hsc:ab c with
   | true =>
    have HS:Hid (ab c=true):=hsc;clear hsc;have hbd:=aN HS.out;go_wp2_with fail;refine(dP _ _).mono ?_;rw[HS.out];rintro e w' ⟨rfl,rfl⟩;go_wp2_with fail;refine(ko _ hbd.1 hbd.2 _).mono ?_;rintro e w1 ⟨⟨u,rfl,hu⟩,hB1⟩;have HU:Hid (bn u=enc c):=hu;have hus:u.size<=4:=by have:=eG c;rw[<-hu,aa]at this;omega
    have B1:=hB.trans (hB1.mono hB.size);clear hu hB hB1 hck;go_wp2
    go_roundw
    case rel=>exact⟨k+1,t++u,by omega,by go_num,rfl,jA zs k hlt H1.out (by rw[<-HC.out];exact HS.out),by show _=_;rw[aD,H0.out,HU.out,H2.out,HC.out],B1⟩
    case measure=>simp[intOf];omega
   | false =>
    have HS:Hid (ab c=false):=hsc;clear hsc;go_wp2_with fail;refine(dP _ _).mono ?_;rw[HS.out];rintro e w' ⟨rfl,rfl⟩;go_wp2;go_ret2;exact⟨⟨_,_,rfl,.inr ⟨all_false zs k hlt (by rw[<-HC.out];exact HS.out),rfl,rfl⟩⟩,hB⟩
  ·have hkk:k=zs.length:=by omega
   rw[hkk,take_length]at H1 H0;clear hkk;go_wp2;go_ret2;exact⟨⟨_,_,rfl,.inl ⟨H1.out,rfl,H0.out⟩⟩,hB⟩
theorem nL(a:Option Addr)(cap:Nat)(w:World):
  Calls prog 22 #[.slice a 0 cap] w fun e W'=>(∃ t r,e=.returned (.tuple #[.string t,.bool r])/\Qu [] t r)/\Below w.heap.size w W':=by
 go_enter func22,ntmps22;go_wp2_with fail;refine wp_loop_rounds 1 ?_;rw[rounds_succ];go_wp2;go_ret2;exact⟨⟨_,_,rfl,.inl ⟨rfl,rfl,rfl⟩⟩,Below.refl _ _⟩
theorem pG(v:Value)(zs:List Int)(hlen:zs.length<=17179869184)(w:World)(hv:av w v zs):
  Calls prog 22 #[v] w fun e W'=>(∃ t r,e=.returned (.tuple #[.string t,.bool r])/\Qu zs t r)/\Below w.heap.size w W':=by
 rcases hv with⟨rfl,a,cap,rfl⟩ | ⟨hp,b,off,cap,rfl,hc⟩
 ·exact nL a cap w
 ·exact nK b off cap zs hlen w hp hc
def eK:List Int->Int
 | [a]=>a
 | [a,b]=>(a - 192) * 64+b - 128
 | [a,b,c]=>((a - 224) * 64+b - 128) * 64+c - 128
 | [a,b,c,d]=>(((a - 240) * 64+b - 128) * 64+c - 128) * 64+d - 128
 | _=>0
def dZ(l:List Int):Bool:=ab (eK l)&&decide (enc (eK l)=l)
def cY:List Int->Bool
 | [a,b]=>decide ((194<=a/\a<=223/\128<=b/\b<=191)\/(224<=a/\a<=244/\aF a<=b/\b<=aE a))
 | [a,b,c]=>decide (224<=a/\a<=244/\aF a<=b/\b<=aE a/\128<=c/\c<=191)
 | _=>false
theorem Jw(c:Int):eK (enc c)=c:=by
 unfold enc;by_cases q1:c<128
 ·rw[if_pos q1];rfl
 ·rw[if_neg q1];by_cases q2:c<2048
  ·rw[if_pos q2];simp only[eK];omega
  ·rw[if_neg q2];by_cases q3:c<65536
   ·rw[if_pos q3];simp only[eK];omega
   ·rw[if_neg q3];simp only[eK];omega
theorem pU(l:List Int)(hne:l≠[])(hl:Bytes l)(n:Nat)(_h1:1<=n)(hn:n<=l.length):
  (dZ (l.take n)=true->nx l=(eK (l.take n),n,true))/\((nx l).2.2=true->(nx l).2.1=n->dZ (l.take n)=true):=by
 constructor
 ·intro h;unfold dZ at h;rw[and_eq_true,decide_eq_true_eq]at h;have hx:=nY _ h.1 (l.drop n);rw[h.2,List.take_append_drop]at hx;rw[hx,length_take];congr 2;omega
 ·intro hw hn';have he:=(uu l hne hl hw).2.1;have hs:=rX l hne hl;rw[hn']at he;unfold dZ;rw[<-he,Jw,hs];simp
theorem Lj(l:List Int)(hne:l≠[])(hl:Bytes l)(hw:(nx l).2.2=false):
  nx l=(65533,(nx l).2.1,false)/\(nx l).2.1<=3/\(∀ k,1<=k->k<(nx l).2.1->cY (l.take (k+1))=true)/\((nx l).2.1<l.length->(nx l).2.1<3->cY (l.take ((nx l).2.1+1))=false):=by
 match l with
 | []=>exact absurd rfl hne
 | a::t =>
  have ha:=hl a (by simp);by_cases h8:a<128
  ·rw[jw a t h8]at hw;cases hw
  rcases gO a with hf | ⟨hf,h1,h2⟩ | ⟨hf,h1,h2⟩ | ⟨hf,h1,h2⟩
  ·have e:nx (a::t)=(65533,1,false):=by rw[nx,if_neg h8,if_pos hf]
   rw[e];refine⟨rfl,by decide,fun k g1 g2=>by simp only at g2;omega,fun g1 _=>?_⟩;match t with
   | []=>simp at g1
   | b::t =>
    show cY [a,b]=false
    have hout:¬ (194<=a/\a<=244):=by
     unfold follow at hf;by_cases q3:240<=a/\a<=244
     ·rw[if_pos q3]at hf;cases hf
     ·rw[if_neg q3]at hf;by_cases q2:224<=a/\a<=239
      ·rw[if_pos q2]at hf;cases hf
      ·rw[if_neg q2]at hf;by_cases q1:194<=a/\a<=223
       ·rw[if_pos q1]at hf;cases hf
       ·omega
    simp only[cY,decide_eq_false_iff_not];omega
  ·have hl1:aF a=128:=by unfold aF;rw[if_neg (by omega),if_neg (by omega)]
   have hh1:aE a=191:=by unfold aE;rw[if_neg (by omega),if_neg (by omega)]
   have e:nx (a::t)=nxl 1 t 1 (a % 32) 128 191:=by rw[nx,if_neg h8,hf,hl1,hh1];rfl
   match t with
   | [] =>
    have e2:nx [a]=(65533,1,false):=by rw[e];rfl
    rw[e2];exact⟨rfl,by decide,fun k g1 g2=>by simp only at g2;omega,fun g1 _=>by simp at g1⟩
   | b::t =>
    by_cases hb:b<128\/191<b
    ·have e2:nx (a::b::t)=(65533,1,false):=by rw[e,nxl,if_pos hb]
     rw[e2];refine⟨rfl,by decide,fun k g1 g2=>by simp only at g2;omega,fun _ _=>?_⟩;show cY [a,b]=false;simp only[cY,decide_eq_false_iff_not];omega
    ·rw[zw a b t h1 h2 (by omega) (by omega)]at hw;cases hw
  ·have q1:=fO a;have q2:=gN a;have e:=fun t=>zx a t h1 h2;match t with
   | [] =>
    have e2:nx [a]=(65533,1,false):=by rw[e];rfl
    rw[e2];exact⟨rfl,by decide,fun k g1 g2=>by simp only at g2;omega,fun g1 _=>by simp at g1⟩
   | b::t =>
    by_cases hb:b<aF a\/aE a<b
    ·have e2:nx (a::b::t)=(65533,1,false):=by rw[e,nxl,if_pos hb]
     rw[e2];refine⟨rfl,by decide,fun k g1 g2=>by simp only at g2;omega,fun _ _=>?_⟩;show cY [a,b]=false;simp only[cY,decide_eq_false_iff_not];omega
    ·have hb1:cY [a,b]=true:=by simp only[cY,decide_eq_true_eq];omega
     match t with
     | [] =>
      have e2:nx [a,b]=(65533,2,false):=by rw[e,nxl,if_neg hb];rfl
      rw[e2];refine⟨rfl,by decide,fun k g1 g2=>?_,fun g1 _=>by simp at g1⟩;obtain rfl:k=1:=by simp only at g2;omega
      exact hb1
     | c::t =>
      by_cases hc:c<128\/191<c
      ·have e2:nx (a::b::c::t)=(65533,2,false):=by rw[e,nxl,if_neg hb,nxl,if_pos hc]
       rw[e2];refine⟨rfl,by decide,fun k g1 g2=>?_,fun _ _=>?_⟩
       ·obtain rfl:k=1:=by simp only at g2;omega
        exact hb1
       ·show cY [a,b,c]=false;simp only[cY,decide_eq_false_iff_not];omega
      ·rw[zv a b c t h1 h2 (by omega) (by omega) (by omega) (by omega)]at hw;cases hw
  ·have q1:=fO a;have q2:=gN a;have e:=fun t=>uv a t h1 h2;match t with
   | [] =>
    have e2:nx [a]=(65533,1,false):=by rw[e];rfl
    rw[e2];exact⟨rfl,by decide,fun k g1 g2=>by simp only at g2;omega,fun g1 _=>by simp at g1⟩
   | b::t =>
    by_cases hb:b<aF a\/aE a<b
    ·have e2:nx (a::b::t)=(65533,1,false):=by rw[e,nxl,if_pos hb]
     rw[e2];refine⟨rfl,by decide,fun k g1 g2=>by simp only at g2;omega,fun _ _=>?_⟩;show cY [a,b]=false;simp only[cY,decide_eq_false_iff_not];omega
    ·have hb1:cY [a,b]=true:=by simp only[cY,decide_eq_true_eq];omega
     match t with
     | [] =>
      have e2:nx [a,b]=(65533,2,false):=by rw[e,nxl,if_neg hb];rfl
      rw[e2];refine⟨rfl,by decide,fun k g1 g2=>?_,fun g1 _=>by simp at g1⟩;obtain rfl:k=1:=by simp only at g2;omega
      exact hb1
     | c::t =>
      by_cases hc:c<128\/191<c
      ·have e2:nx (a::b::c::t)=(65533,2,false):=by rw[e,nxl,if_neg hb,nxl,if_pos hc]
       rw[e2];refine⟨rfl,by decide,fun k g1 g2=>?_,fun _ _=>?_⟩
       ·obtain rfl:k=1:=by simp only at g2;omega
        exact hb1
       ·show cY [a,b,c]=false;simp only[cY,decide_eq_false_iff_not];omega
      ·have hc1:cY [a,b,c]=true:=by simp only[cY,decide_eq_true_eq];omega
       have hk:∀ r k,1<=k->k<3->cY ((a::b::c::r).take (k+1))=true:=fun r k g1 g2=>by
        have:k=1\/k=2:=by omega
        rcases this with rfl | rfl
        ·exact hb1
        ·exact hc1
       match t with
       | [] =>
        have e2:nx [a,b,c]=(65533,3,false):=by rw[e,nxl,if_neg hb,nxl,if_neg hc];rfl
        rw[e2];exact⟨rfl,by decide,fun k g1 g2=>hk [] k g1 g2,fun g1 _=>by simp at g1⟩
       | d::t =>
        by_cases hd:d<128\/191<d
        ·have e2:nx (a::b::c::d::t)=(65533,3,false):=by rw[e,nxl,if_neg hb,nxl,if_neg hc,nxl,if_pos hd]
         rw[e2];exact⟨rfl,by decide,fun k g1 g2=>hk _ k g1 g2,fun _ g2=>by simp at g2⟩
        ·rw[zt a b c d t h1 h2 (by omega) (by omega) (by omega) (by omega) (by omega) (by omega)]at hw;cases hw
def gA(z:Int)(l:List Int):Int:=l.foldl (fun c b=>c * 64+b - 128) z
theorem iU(z:Int)(l:List Int)(b:Int):gA z (l++[b])=gA z l * 64+b - 128:=by simp[gA]
theorem eH(s:ByteArray)(k:Nat)(h:k<s.size):((bn s).drop 1).take k=((bn s).drop 1).take (k - 1)++(if 1<=k then [(s[k].toNat:Int)] else []):=by
 by_cases hk:1<=k
 ·rw[if_pos hk];obtain⟨m,rfl⟩:∃ m,k=m+1:=⟨k - 1,by omega⟩;have hm:m<((bn s).drop 1).length:=by rw[length_drop,aa];omega
  rw[List.take_succ_eq_append_getElem hm,add_sub_cancel];congr 2;rw[List.getElem_drop];simp only[bn,List.getElem_map,Nat.add_comm 1 m];rfl
 ·have:k=0:=by omega
  subst this;simp
theorem four(s:ByteArray)(m:Nat)(hm:s.size=m)(h0:0<s.size):bn s=(s[0].toNat:Int)::((bn s).drop 1).take (m - 1):=by rw[List.take_of_length_le (by rw[length_drop,aa];omega)];exact gZ s h0
theorem Ox(s:ByteArray)(hm:s.size=1)(w:World):
  Calls prog 68 #[.string s] w fun e w'=>e=.returned (.int .i32 (eK (bn s)))/\w'=w:=by
 have hp:0<s.size:=by omega
 have HM:Hid (s.size=1):=hm
 have hV:Hid (eK (bn s)=gA ((s[0].toNat:Int) - 0) (((bn s).drop 1).take (1 - 1))):=by
  show _=_;have hl:(((bn s).drop 1).take (1 - 1)).length=1 - 1:=by rw[length_take,length_drop,aa];omega
  rw[four s 1 hm hp];simp only[drop_succ_cons,drop_zero];generalize ((bn s).drop 1).take (1 - 1)=r at hl ⊢;obtain rfl:=List.length_eq_zero_iff.1 hl;simp[eK,gA]
 have hz1:1<=s.size:=by omega
 have hz2:s.size<=1:=by omega
 have hb0:(s[0].toNat:Int)<=255:=by have:=s[0].toNat_lt;omega
 clear hm;have g2:((s.size:Int)==2)=false:=by simp;omega
 have g3:((s.size:Int)==3)=false:=by simp;omega
 have g4:((s.size:Int)==4)=false:=by simp;omega
 go_enter func68,ntmps68;go_wp2_with fail
 go_loop [3,4] (fun c i=>∃(k:Nat) (C:Int),1<=k/\k<=s.size/\i=.int .i64 k/\c=.int .i32 C/\Hid (C=gA ((s[0].toNat:Int) - 0) (((bn s).drop 1).take (k - 1)))/\(k=1/\-240<=C/\C<=255\/k=2/\-15488<=C/\C<=16447\/k=3/\-991360<=C/\C<=1052735\/k=4)) (fun _ i=>s.size - (intOf i).toNat)
 case atStart=>exact⟨1,_,le_refl _,by omega,rfl,rfl,by show _=_;simp[gA],by omega⟩
 case round =>
  obtain⟨k,C,hk1,hk2,rfl,rfl,HC,hbd⟩:=hrel;by_cases hlt:k<s.size
  ·have hbk:(s[k].toNat:Int)<=255:=by have:=s[k].toNat_lt;omega
   have HT:Hid (((bn s).drop 1).take k=((bn s).drop 1).take (k - 1)++[(s[k].toNat:Int)]):=by show _=_;rw[eH s k hlt,if_pos hk1]
   go_wp2
   go_round
   case rel=>exact⟨k+1,_,by omega,by omega,by go_num,rfl,by show _=_;rw[add_sub_cancel,HT.out,iU,HC.out],by omega⟩
   case measure=>simp[intOf];omega
  ·have hkm:k=1:=by omega
   have HK:Hid (k=1):=hkm;clear hkm;go_wp2;go_ret;exact⟨cw (by rw[hV.out,HC.out,HK.out]),rfl⟩
theorem Ow(s:ByteArray)(hm:s.size=2)(w:World):
  Calls prog 68 #[.string s] w fun e w'=>e=.returned (.int .i32 (eK (bn s)))/\w'=w:=by
 have hp:0<s.size:=by omega
 have HM:Hid (s.size=2):=hm
 have hV:Hid (eK (bn s)=gA ((s[0].toNat:Int) - 192) (((bn s).drop 1).take (2 - 1))):=by
  show _=_;have hl:(((bn s).drop 1).take (2 - 1)).length=2 - 1:=by rw[length_take,length_drop,aa];omega
  rw[four s 2 hm hp];simp only[drop_succ_cons,drop_zero];generalize ((bn s).drop 1).take (2 - 1)=r at hl ⊢;match r,hl with
  | [x],_=>simp[eK,gA]
 have hz1:2<=s.size:=by omega
 have hz2:s.size<=2:=by omega
 have hb0:(s[0].toNat:Int)<=255:=by have:=s[0].toNat_lt;omega
 clear hm;have g2:((s.size:Int)==2)=true:=by simp;omega
 have g3:((s.size:Int)==3)=false:=by simp;omega
 have g4:((s.size:Int)==4)=false:=by simp;omega
 go_enter func68,ntmps68;go_wp2_with fail
 go_loop [3,4] (fun c i=>∃(k:Nat) (C:Int),1<=k/\k<=s.size/\i=.int .i64 k/\c=.int .i32 C/\Hid (C=gA ((s[0].toNat:Int) - 192) (((bn s).drop 1).take (k - 1)))/\(k=1/\-240<=C/\C<=255\/k=2/\-15488<=C/\C<=16447\/k=3/\-991360<=C/\C<=1052735\/k=4)) (fun _ i=>s.size - (intOf i).toNat)
 case atStart=>exact⟨1,_,le_refl _,by omega,rfl,rfl,by show _=_;simp[gA],by omega⟩
 case round =>
  obtain⟨k,C,hk1,hk2,rfl,rfl,HC,hbd⟩:=hrel;by_cases hlt:k<s.size
  ·have hbk:(s[k].toNat:Int)<=255:=by have:=s[k].toNat_lt;omega
   have HT:Hid (((bn s).drop 1).take k=((bn s).drop 1).take (k - 1)++[(s[k].toNat:Int)]):=by show _=_;rw[eH s k hlt,if_pos hk1]
   go_wp2
   go_round
   case rel=>exact⟨k+1,_,by omega,by omega,by go_num,rfl,by show _=_;rw[add_sub_cancel,HT.out,iU,HC.out],by omega⟩
   case measure=>simp[intOf];omega
  ·have hkm:k=2:=by omega
   have HK:Hid (k=2):=hkm;clear hkm;go_wp2;go_ret;exact⟨cw (by rw[hV.out,HC.out,HK.out]),rfl⟩
theorem Ov(s:ByteArray)(hm:s.size=3)(w:World):
  Calls prog 68 #[.string s] w fun e w'=>e=.returned (.int .i32 (eK (bn s)))/\w'=w:=by
 have hp:0<s.size:=by omega
 have HM:Hid (s.size=3):=hm
 have hV:Hid (eK (bn s)=gA ((s[0].toNat:Int) - 224) (((bn s).drop 1).take (3 - 1))):=by
  show _=_;have hl:(((bn s).drop 1).take (3 - 1)).length=3 - 1:=by rw[length_take,length_drop,aa];omega
  rw[four s 3 hm hp];simp only[drop_succ_cons,drop_zero];generalize ((bn s).drop 1).take (3 - 1)=r at hl ⊢;match r,hl with
  | [x,y],_=>simp[eK,gA]
 have hz1:3<=s.size:=by omega
 have hz2:s.size<=3:=by omega
 have hb0:(s[0].toNat:Int)<=255:=by have:=s[0].toNat_lt;omega
 clear hm;have g2:((s.size:Int)==2)=false:=by simp;omega
 have g3:((s.size:Int)==3)=true:=by simp;omega
 have g4:((s.size:Int)==4)=false:=by simp;omega
 go_enter func68,ntmps68;go_wp2_with fail
 go_loop [3,4] (fun c i=>∃(k:Nat) (C:Int),1<=k/\k<=s.size/\i=.int .i64 k/\c=.int .i32 C/\Hid (C=gA ((s[0].toNat:Int) - 224) (((bn s).drop 1).take (k - 1)))/\(k=1/\-240<=C/\C<=255\/k=2/\-15488<=C/\C<=16447\/k=3/\-991360<=C/\C<=1052735\/k=4)) (fun _ i=>s.size - (intOf i).toNat)
 case atStart=>exact⟨1,_,le_refl _,by omega,rfl,rfl,by show _=_;simp[gA],by omega⟩
 case round =>
  obtain⟨k,C,hk1,hk2,rfl,rfl,HC,hbd⟩:=hrel;by_cases hlt:k<s.size
  ·have hbk:(s[k].toNat:Int)<=255:=by have:=s[k].toNat_lt;omega
   have HT:Hid (((bn s).drop 1).take k=((bn s).drop 1).take (k - 1)++[(s[k].toNat:Int)]):=by show _=_;rw[eH s k hlt,if_pos hk1]
   go_wp2
   go_round
   case rel=>exact⟨k+1,_,by omega,by omega,by go_num,rfl,by show _=_;rw[add_sub_cancel,HT.out,iU,HC.out],by omega⟩
   case measure=>simp[intOf];omega
  ·have hkm:k=3:=by omega
   have HK:Hid (k=3):=hkm;clear hkm;go_wp2;go_ret;exact⟨cw (by rw[hV.out,HC.out,HK.out]),rfl⟩
theorem Ou(s:ByteArray)(hm:s.size=4)(w:World):
  Calls prog 68 #[.string s] w fun e w'=>e=.returned (.int .i32 (eK (bn s)))/\w'=w:=by
 have hp:0<s.size:=by omega
 have HM:Hid (s.size=4):=hm
 have hV:Hid (eK (bn s)=gA ((s[0].toNat:Int) - 240) (((bn s).drop 1).take (4 - 1))):=by
  show _=_;have hl:(((bn s).drop 1).take (4 - 1)).length=4 - 1:=by rw[length_take,length_drop,aa];omega
  rw[four s 4 hm hp];simp only[drop_succ_cons,drop_zero];generalize ((bn s).drop 1).take (4 - 1)=r at hl ⊢;match r,hl with
  | [x,y,z],_=>simp[eK,gA]
 have hz1:4<=s.size:=by omega
 have hz2:s.size<=4:=by omega
 have hb0:(s[0].toNat:Int)<=255:=by have:=s[0].toNat_lt;omega
 clear hm;have g2:((s.size:Int)==2)=false:=by simp;omega
 have g3:((s.size:Int)==3)=false:=by simp;omega
 have g4:((s.size:Int)==4)=true:=by simp;omega
 go_enter func68,ntmps68;go_wp2_with fail
 go_loop [3,4] (fun c i=>∃(k:Nat) (C:Int),1<=k/\k<=s.size/\i=.int .i64 k/\c=.int .i32 C/\Hid (C=gA ((s[0].toNat:Int) - 240) (((bn s).drop 1).take (k - 1)))/\(k=1/\-240<=C/\C<=255\/k=2/\-15488<=C/\C<=16447\/k=3/\-991360<=C/\C<=1052735\/k=4)) (fun _ i=>s.size - (intOf i).toNat)
 case atStart=>exact⟨1,_,le_refl _,by omega,rfl,rfl,by show _=_;simp[gA],by omega⟩
 case round =>
  obtain⟨k,C,hk1,hk2,rfl,rfl,HC,hbd⟩:=hrel;by_cases hlt:k<s.size
  ·have hbk:(s[k].toNat:Int)<=255:=by have:=s[k].toNat_lt;omega
   have HT:Hid (((bn s).drop 1).take k=((bn s).drop 1).take (k - 1)++[(s[k].toNat:Int)]):=by show _=_;rw[eH s k hlt,if_pos hk1]
   go_wp2
   go_round
   case rel=>exact⟨k+1,_,by omega,by omega,by go_num,rfl,by show _=_;rw[add_sub_cancel,HT.out,iU,HC.out],by omega⟩
   case measure=>simp[intOf];omega
  ·have hkm:k=4:=by omega
   have HK:Hid (k=4):=hkm;clear hkm;go_wp2;go_ret;exact⟨cw (by rw[hV.out,HC.out,HK.out]),rfl⟩
theorem cL(s:ByteArray)(h0:1<=s.size)(h1:s.size<=4)(w:World):
  Calls prog 68 #[.string s] w fun e w'=>e=.returned (.int .i32 (eK (bn s)))/\w'=w:=by
 rcases(show s.size=1\/s.size=2\/s.size=3\/s.size=4 by omega) with h | h | h | h
 ·exact Ox s h w
 ·exact Ow s h w
 ·exact Ov s h w
 ·exact Ou s h w
theorem AI(t s:ByteArray):(t.toList==s.toList)=decide (bn t=bn s):=by
 rw[Bool.eq_iff_iff,beq_iff_eq,decide_eq_true_eq,toList_eq,toList_eq];constructor
 ·intro h;unfold bn;rw[h]
 ·intro h;rw[ak h]
theorem pV(s:ByteArray)(h0:1<=s.size)(h1:s.size<=4)(w:World):
  Calls prog 67 #[.string s] w fun e w'=>e=.returned (.bool (dZ (bn s)))/\Below w.heap.size w w':=by
 obtain⟨c,hc⟩:∃ c,c=eK (bn s):=⟨_,rfl⟩;have HC:Hid (c=eK (bn s)):=hc;clear hc;cases hs:ab c with
 | false =>
  have HS:Hid (ab c=false):=hs;clear hs;go_enter func67,ntmps67;go_wp2_with fail;refine(cL _ h0 h1 _).mono ?_;rw[<-HC.out];rintro e w' ⟨rfl,rfl⟩;go_wp2_with fail;refine(dP _ _).mono ?_;rw[HS.out];rintro e w' ⟨rfl,rfl⟩;go_wp2;go_ret;exact⟨aW (by unfold dZ;rw[<-HC.out,HS.out];rfl),Below.refl _ _⟩
 | true =>
  have hbd:=aN hs;have HS:Hid (ab c=true):=hs;clear hs;go_enter func67,ntmps67;go_wp2_with fail;refine(cL _ h0 h1 _).mono ?_;rw[<-HC.out];rintro e w' ⟨rfl,rfl⟩;go_wp2_with fail;refine(dP _ _).mono ?_;rw[HS.out];rintro e w' ⟨rfl,rfl⟩;go_wp2_with fail;refine(ko _ hbd.1 hbd.2 _).mono ?_;rintro e w1 ⟨⟨t,rfl,ht⟩,hB⟩;have HT:Hid (bn t=enc c):=ht;clear ht;go_wp2;go_ret;exact⟨aW (by unfold dZ;rw[<-HC.out,HS.out,<-HT.out,<-AI];rfl),hB⟩
theorem QL(s:ByteArray)(hm:s.size=2):bn s=[((s[0]'(by omega)).toNat:Int),((s[1]'(by omega)).toNat:Int)]:=by rw[gZ s (by omega),fD s 1 (by omega),fC s 2 (by omega)]
theorem IG(s:ByteArray)(hm:s.size=3):bn s=[((s[0]'(by omega)).toNat:Int),((s[1]'(by omega)).toNat:Int),((s[2]'(by omega)).toNat:Int)]:=by rw[gZ s (by omega),fD s 1 (by omega),fD s 2 (by omega),fC s 3 (by omega)]
def AL(n:Int)(a b:Int):Bool:=if 194<=a/\a<=223 then decide (n=2/\128<=b/\b<=191) else decide (224<=a/\a<=244/\aF a<=b/\b<=aE a)
theorem Nr(a b:Int):cY [a,b]=AL 2 a b:=by
 unfold AL;by_cases h:194<=a/\a<=223
 ·rw[if_pos h,Bool.eq_iff_iff];simp only[cY,decide_eq_true_eq];exact⟨fun hh=>⟨trivial,by omega⟩,fun hh=>by omega⟩
 ·rw[if_neg h,Bool.eq_iff_iff];simp only[cY,decide_eq_true_eq];omega
theorem Cw(a b c:Int):cY [a,b,c]=(AL 3 a b&&decide (128<=c/\c<=191)):=by
 unfold AL;by_cases h:194<=a/\a<=223
 ·rw[if_pos h,Bool.eq_iff_iff];simp only[cY,decide_eq_true_eq,and_eq_true];omega
 ·rw[if_neg h,Bool.eq_iff_iff];simp only[cY,decide_eq_true_eq,and_eq_true];omega
theorem Nq(s:ByteArray)(hm:s.size=2)(w:World):
  Calls prog 69 #[.string s] w fun e w'=>e=.returned (.bool (cY (bn s)))/\∃ n,w'=w.drewN n:=by
 have hp0:0<s.size:=by omega
 have hp1:1<s.size:=by omega
 have HB:Hid (bn s=[(s[0].toNat:Int),(s[1].toNat:Int)]):=QL s hm;have g2:((s.size:Int)==2)=true:=by simp;omega
 have b0:(s[0].toNat:Int)<=255:=by have:=s[0].toNat_lt;omega
 have b1:(s[1].toNat:Int)<=255:=by have:=s[1].toNat_lt;omega
 have z1:(1:Int)<(s.size:Int):=by omega
 clear hm;go_enter func69,ntmps69;go_wp2_with fail
 go_quiet (fail)
 go_wp2;all_goals (go_ret;refine⟨aW ?_,_,rfl⟩;rw[HB.out,Nr];clear HB;simp only[beq_iff_eq,beq_eq_false_iff_ne]at *;unfold AL aF aE;(repeat' split) <;> first | (simp;omega) | (simp;done) | (rw[Bool.eq_iff_iff];simp;omega) | omega)
theorem Np(s:ByteArray)(hm:s.size=3)(w:World):
  Calls prog 69 #[.string s] w fun e w'=>e=.returned (.bool (cY (bn s)))/\∃ n,w'=w.drewN n:=by
 have hp0:0<s.size:=by omega
 have hp1:1<s.size:=by omega
 have hp2:2<s.size:=by omega
 have HB:Hid (bn s=[(s[0].toNat:Int),(s[1].toNat:Int),(s[2].toNat:Int)]):=IG s hm;have g2:((s.size:Int)==2)=false:=by simp;omega
 have b0:(s[0].toNat:Int)<=255:=by have:=s[0].toNat_lt;omega
 have b1:(s[1].toNat:Int)<=255:=by have:=s[1].toNat_lt;omega
 have z1:(1:Int)<(s.size:Int):=by omega
 have z2:(2:Int)<(s.size:Int):=by omega
 clear hm;go_enter func69,ntmps69;go_wp2_with fail
 go_quiet (fail)
 go_wp2;all_goals (go_ret;refine⟨aW ?_,_,rfl⟩;rw[HB.out,Cw];clear HB;simp only[beq_iff_eq,beq_eq_false_iff_ne]at *;unfold AL aF aE;(repeat' split) <;> first | (simp;omega) | (simp;done) | (rw[Bool.eq_iff_iff];simp;omega) | omega)
theorem oZ(s:ByteArray)(h0:2<=s.size)(h1:s.size<=3)(w:World):
  Calls prog 69 #[.string s] w fun e w'=>e=.returned (.bool (cY (bn s)))/\∃ n,w'=w.drewN n:=by
 by_cases h:s.size=2
 ·exact Nq s h w
 ·exact Np s (by omega) w
theorem iR(s:ByteArray)(n:Nat):bn (s.extract 0 n)=(bn s).take n:=by unfold bn;rw[Lib.extract_data];simp[List.map_take]
theorem Li(l:List Int)(h:l≠[])(hl:Bytes l):(nx l).2.1<=4:=by
 rcases iz l h hl with⟨a,t,_,h0,h1,e⟩ | ⟨a,b,t,_,h1,h2,h3,h4,e⟩ | ⟨a,b,c,t,_,h1,h2,h3,h4,h5,h6,e⟩ | ⟨a,b,c,d,t,_,h1,h2,h3,h4,h5,h6,h7,h8,e⟩ | ⟨n,_,_,e⟩
 all_goals (rw[e];simp only;omega)
theorem Bg(l:List Int)(hne:l≠[])(hl:Bytes l)(k:Nat)(hk:¬ (k<=4/\k<=l.length))(h:∀ j,1<=j->j<k->dZ (l.take j)=false):(nx l).2.2=false:=by
 cases hw:(nx l).2.2 with
 | false=>rfl
 | true =>
  have hn:=iy l hne;have h4:=Li l hne hl;have:=(pU l hne hl (nx l).2.1 hn.1 hn.2).2 hw rfl;rw[h _ hn.1 (by omega)]at this;cases this
theorem tS(s:ByteArray)(w:World)(hs:s.size<=9223372036854775807):
  Calls prog 40 #[.string s] w fun e w'=>e=.returned (.tuple #[.int .i32 (nx (bn s)).1,.int .i64 (nx (bn s)).2.1,.bool (nx (bn s)).2.2])/\Below w.heap.size w w':=by
 by_cases hp:0<s.size
 ·have he:s.toList.isEmpty=false:=aq s hp;have hne:Hid (bn s≠[]):=fun h=>by have:=congrArg List.length h;rw[aa,length_nil]at this;omega
  have hlen:Hid ((bn s).length=s.size):=aa s;go_enter func40,ntmps40;go_wp2_with fail
  go_loopw [5] (fun i wr=>∃ k:Nat,1<=k/\k<=5/\k<=s.size+1/\i=.int .i64 k/\Hid (∀ j,1<=j->j<k->dZ ((bn s).take j)=false)/\Below w.heap.size w wr) (fun i _=>5 - (intOf i).toNat)
  case atStart=>exact⟨1,by omega,by omega,by omega,rfl,fun j h1 h2=>by omega,Below.refl _ _⟩
  case round =>
   obtain⟨k,hk1,hk5,hks,rfl,HW,hB⟩:=hrel;by_cases hin:k<=4/\k<=s.size
   ·obtain⟨hk4,hkl⟩:=hin;have hsz:(s.extract 0 k).size=k:=by simp;omega
    have h1':Hid (1<=(s.extract 0 k).size/\(s.extract 0 k).size<=4):=by constructor <;> omega
    clear hsz;cases hw:dZ ((bn s).take k) with
    | true =>
     have HX:Hid (nx (bn s)=(eK ((bn s).take k),k,true)):=(pU _ hne.out (ay s) k hk1 (by rw[hlen.out];exact hkl)).1 hw;have HK:Hid (dZ ((bn s).take k)=true):=hw;clear hw;go_wp2_with fail;refine(pV _ h1'.out.1 h1'.out.2 _).mono ?_;rw[iR,HK.out];rintro e w1 ⟨rfl,hB1⟩;go_wp2_with fail;refine(cL _ h1'.out.1 h1'.out.2 _).mono ?_;rw[iR];rintro e w2 ⟨rfl,rfl⟩;go_wp2;go_ret3;exact⟨by rw[HX.out];rfl,hB.trans (hB1.mono hB.size)⟩
    | false =>
     have HK:Hid (dZ ((bn s).take k)=false):=hw;clear hw;go_wp2_with fail;refine(pV _ h1'.out.1 h1'.out.2 _).mono ?_;rw[iR,HK.out];rintro e w1 ⟨rfl,hB1⟩;have B1:=hB.trans (hB1.mono hB.size);clear hB hB1;go_wp2
     go_roundw
     case rel=>exact⟨k+1,by omega,by omega,by omega,by go_num,fun j g1 g2=>by
       by_cases hj:j<k
       · exact HW.out j g1 hj
       · obtain rfl:j=k:=by omega
         exact HK.out,B1⟩
     case measure=>simp[intOf];omega
   ·have hnw:=Bg _ hne.out (ay s) k (by rw[hlen.out];exact hin) HW.out;have hF:=Lj _ hne.out (ay s) hnw;have hnn:=iy _ hne.out;rw[hlen.out]at hF hnn;clear HW hnw;obtain⟨N,hN⟩:∃ N,N=(nx (bn s)).2.1:=⟨_,rfl⟩;rw[<-hN]at hF hnn;obtain⟨hX,hN3,hbeg,hend⟩:=hF;have HX:Hid (nx (bn s)=(65533,N,false)):=hX;have HBG:Hid (∀ k,1<=k->k<N->cY ((bn s).take (k+1))=true):=hbeg;have HED:Hid (N<s.size->N<3->cY ((bn s).take (N+1))=false):=hend;clear hX hbeg hend hN
    have hor:(k<=4/\decide (k<=s.size)=false/\decide ((k:Int)<=(s.size:Int))=false)\/(¬ k<=4/\decide ((k:Int)<=4)=false/\decide (k<=4)=false):=by
     by_cases hk4:k<=4
     ·exact .inl ⟨hk4,decide_eq_false (by omega),decide_eq_false (by omega)⟩
     ·exact .inr ⟨hk4,decide_eq_false (by omega),decide_eq_false (by omega)⟩
    rcases hor with⟨hk4,hq1,hq2⟩ | ⟨hk4,hq1,hq2⟩
    all_goals
     go_wp2_with fail
     go_loopw [6] (fun i wr=>∃ k:Nat,1<=k/\k<=N/\i=.int .i64 k/\Below w.heap.size w wr) (fun i _=>N - (intOf i).toNat)
     case atStart=>exact⟨1,by omega,by omega,rfl,hB⟩
     case round =>
      rename_i wr2 _;clear hB;obtain⟨m,hm1,hm2,rfl,hB⟩:=hrel;by_cases hlt:m<N
      ·have hsz:Hid (2<=(s.extract 0 (m+1)).size/\(s.extract 0 (m+1)).size<=3):=by
        have:(s.extract 0 (m+1)).size=m+1:=by simp;omega
        constructor <;> omega
       have hml:m<s.size:=by omega
       have hm3:m<3:=by omega
       go_wp2_with fail;refine(oZ _ hsz.out.1 hsz.out.2 _).mono ?_;rw[iR,HBG.out m hm1 hlt];rintro e w1 ⟨rfl,n,rfl⟩;go_wp2
       go_roundw
       case rel=>exact⟨m+1,by omega,by omega,by go_num,hB.trans (below_drewN _ _ _)⟩
       case measure=>simp[intOf];omega
      ·have hmN:m=N:=by omega
       rw[<-hmN]at HX HED;clear hmN;by_cases hml:m<s.size
       ·by_cases hm3:m<3
        ·have hsz:Hid (2<=(s.extract 0 (m+1)).size/\(s.extract 0 (m+1)).size<=3):=by
          have:(s.extract 0 (m+1)).size=m+1:=by simp;omega
          constructor <;> omega
         go_wp2_with fail;refine(oZ _ hsz.out.1 hsz.out.2 _).mono ?_;rw[iR,HED.out hml hm3];rintro e w1 ⟨rfl,n,rfl⟩;go_wp2;go_ret3;exact⟨by rw[HX.out];rfl,hB.trans (below_drewN _ _ _)⟩
        ·try (exfalso;simp only[decide_eq_false_iff_not]at hq1;omega)
         all_goals
          go_wp2;go_ret3;exact⟨by rw[HX.out];rfl,hB⟩
       ·go_wp2;go_ret3;exact⟨by rw[HX.out];rfl,hB⟩
 ·have he:s.toList.isEmpty=true:=az s (by omega);have hx:Hid (nx (bn s)=(0,0,false)):=Fw s (by omega);go_enter func40,ntmps40;go_wp2;go_ret3;exact⟨by rw[hx.out];rfl,Below.refl _ _⟩
def DP:Value->Nat
 | .string t=>t.size
 | _=>0
theorem Oa(t:ByteArray)(h:0<t.size):bn t≠[]:=fun hh=>by have:=congrArg List.length hh;rw[aa,length_nil]at this;omega
theorem pH(s:ByteArray)(hs:s.size<=17179869184)(w:World):
  Calls prog 21 #[.string s] w fun e W'=>∃ v,e=.returned v/\W'.ownsRow w.heap.size 21 1 v (dec (bn s)).length ((dec (bn s)).map (Value.int .i32))/\Below w.heap.size w W':=by
 obtain⟨i0,hi,hz0,hz1,hz2⟩:=info_parts Tryz.iH;go_enter func21,ntmps21;go_wp2_with fail
 go_loopw [0,3] (fun sv v wr=>∃(t:ByteArray) (pre:List Int),sv=.string t/\pre.length+t.size<=s.size/\Hid (dec (bn s)=pre++dec (bn t))/\wr.ownsRow w.heap.size 21 1 v pre.length (pre.map (Value.int .i32))/\Below w.heap.size w wr) (fun sv _ _=>DP sv)
 case atStart=>exact⟨s,[],rfl,by simp,by show _=_;simp,ownsRow_nil _ _ _ _,Below.refl _ _⟩
 case round =>
  obtain⟨t,pre,rfl,hsz,HD,ag,hB⟩:=hrel;by_cases hp:0<t.size
  ·have he:t.toList.isEmpty=false:=aq t hp;have hnn:=iy (bn t) (Oa t hp);rw[aa]at hnn;have HC:Hid (dec (bn t)=(nx (bn t)).1::dec (bn (t.extract (nx (bn t)).2.1 t.size))):=by show _=_;rw[aO _ (Oa t hp) (ay t),ar]
   go_wp2_with fail;refine(tS _ _ (by omega)).mono ?_;generalize nx (bn t)=x at hnn HC ⊢;obtain⟨r,n,b⟩:=x;simp only at hnn HC ⊢;rintro e w1 ⟨rfl,hB1⟩;have r1:=an ag hB1 (le_refl _);have B1:=hB.trans (hB1.mono hB.size);clear ag hB1 hB;go_wp2_with(at_builtin;refine wpList_append_own _ rfl _ _ 43 rfl w.heap.size 21 i0 (.int .i32 0) 1 4 underlying43 hi hz0 hz1 hz2 rfl (by decide) _ _ _ rfl (r1.alloc _) ⟨w1.heap.size,0,none⟩ 1 1 [.int .i32 r] rfl rfl (cell_one_new _ _ _) (by simp[Value.oneCell']) (by unfold maxLen;omega) (by omega) (by have:=B1.size;simp;omega) ?_;intro v' w2 hown' hgrow _);have B2:Below w.heap.size w w2:=below_grow (B1.alloc B1.size _) (by have:=B1.size;simp;omega) (r1.alloc _) hgrow;have R2:Hid (w2.ownsRow w.heap.size 21 1 v' (pre++[r]).length ((pre++[r]).map (Value.int .i32))):=by show World.ownsRow _ _ _ _ _ _ _;simpa using hown'
   clear hown' hgrow r1 B1;go_wp2
   go_roundw
   case rel=>exact⟨t.extract n t.size,pre++[r],rfl,by simp;omega,by show _=_;rw[HD.out,HC.out];simp,R2.out,B2⟩
   case measure=>simp[DP];omega
  ·have he:t.toList.isEmpty=true:=az t (by omega);have HE:Hid (dec (bn s)=pre):=by show _=_;rw[HD.out,List.length_eq_zero_iff.1 (show(bn t).length=0 by rw[aa];omega),bL,append_nil]
   go_wp2;go_ret;exact⟨_,rfl,by rw[HE.out];exact ag,hB⟩
end U
namespace H
open F (bn)
def w1:ByteArray:=⟨#[69,88,65,77,80,76,69,46,99,111,109]⟩
def x1:ByteArray:=⟨#[101,120,97,109,112,108,101,46,99,111,109]⟩
theorem hp1{A:List Int->List Int->Int->Prop}(hA:Asc A):HP A (bn w1) true (1,bn x1,0,z8,0):=by unfold HP;rw[if_neg (by decide),if_neg (by decide),if_neg (by decide)];exact⟨bn x1,0,by rw[show E.de (bn w1)=[69,88,65,77,80,76,69,46,99,111,109] by decide];exact hA.cap,by decide +kernel⟩
end H
namespace U
def IsRow(k:IntKind)(w:World)(a:Option Addr)(len cap:Nat)(zs:List Int):Prop :=
 (a=none/\len=0/\cap=0/\zs=[]) \/
 ∃ x,a=some x/\len<=cap/\cap<=maxLen/\zs.length=cap/\(∀ i,i<zs.length->w.cell? (x.add i)=some (.int k (zs.getD i 0)))/\∀ n∈zs,(Lit.int k n).wf=true
theorem rK{k:IntKind}{w:World}{a:Option Addr}{len cap:Nat}{zs:List Int}(h:IsRow k w a len cap zs):len<=maxLen:=by
 rcases h with⟨_,rfl,_,rfl⟩ | ⟨x,_,hl,hm,_⟩
 ·exact zero_le _
 ·omega
end U
namespace Y
open F (bn ak hid)
theorem Ctr.cpIs{A:List Int->List Int->Int->Prop}{G:World->Prop}(C:Ctr A G){s:ByteArray}{u:Ur}{er:Int}(hs:s.size<=100000)(x:UP A (bn s) (u,er))(W:World)(hG:G W):
  Calls prog 11 #[.string s] W fun e W'=>(∃ a,Lim u/\At W' a u/\e=.returned (.tuple #[.agg (Us.cs a),.int .i64 er]))/\Below W.heap.size W W' :=
 (C.cp s W hs hG).mono (by
   rintro e W' ⟨⟨a,v,k,y,hl,ha,rfl⟩,hB⟩
   have h:=UP.one C.asc x y
   obtain⟨rfl,rfl⟩:=Prod.mk.inj h
   exact⟨⟨a,hl,ha,rfl⟩,hB⟩)
theorem eP{w:World}{a:Us}{u:Ur}(h:At w a u):∃ ad n c,a={ a with pv:=.slice ad n c }:=by obtain⟨ps,_,hs⟩:=h.pv;obtain⟨ad,c,e,_⟩:=hs.form;exact⟨ad,ps.length,c,by rw[<-e]⟩
theorem aR{w:World}{a:Us}{u:Ur}(h:At w a u):(Us.cs a).all (·.oneCell')=true:=by obtain⟨ad,n,c,e⟩:=eP h;rw[e];exact Aq a ad n c
theorem cV(W:World)(a:Us):((W.alloc (.cells zc 29)).setRow W.heap.size (Us.cs a)).heap[W.heap.size]? = some (.cells (Us.cs a) 29 (0,0))/\Below W.heap.size W ((W.alloc (.cells zc 29)).setRow W.heap.size (Us.cs a)) :=
 ⟨setRow_heap _ _ _ _ _ _ (aA W _ _),cS ((Below.refl _ W).alloc (le_refl _) _) (le_refl _) _⟩
theorem aK{P:Program}{ops:Array Oper}{Q:Exit->Act->World->Prop}{a:Act}{w:World}{rest:List Oper}{o:Oper}
  (hw:Region.wanted o (yielded ops a.tmps)=true) (h:wpList P ops Q ({ o with guard:=none }::rest) a w):wpList P ops Q (o::rest) a w:=by
 have h0:Region.wanted { o with guard:=none } (yielded ops a.tmps)=true:=rfl;simp only[wpList,h0,hw,if_true]at h ⊢;exact h
def k1:ByteArray:=⟨#[72,84,84,80,58,92,92,85,115,101,114,64,69,88,65,77,80,76,69,46,99,111,109,58,56,48,47,97,47,46,46,47,98,63,113,35,102]⟩
def k2:ByteArray:=⟨#[102,111,111,58,47,46,47,47,112]⟩
def k3:ByteArray:=⟨#[104,116,116,112,58,47,47,97,58,57,57,57,57,57]⟩
def k4:ByteArray:=⟨#[49,97,58,98]⟩
def u1:Ur:={ zu with sch:=om,usr:=[85,115,101,114],hh:=true,hst:=(1,[101,120,97,109,112,108,101,46,99,111,109],0,H.z8),pth:=[[98]],hq:=true,qry:=[113],hf:=true,frg:=[102] }
def u2:Ur:={ zu with sch:=[102,111,111],pth:=[[],[112]] }
theorem up1{A:List Int->List Int->Int->Prop}(hA:H.Asc A):UP A (bn k1) (u1,0):=by
 unfold UP;rw[if_neg (by decide)];have hc:cln (bn k1)=bn k1:=by decide +kernel
 rw[hc];have hq:hqy (bn k1)=some ([69,88,65,77,80,76,69,46,99,111,109],true):=by decide +kernel
 refine⟨(1,[101,120,97,109,112,108,101,46,99,111,109],0,H.z8,0),fun x sp hx=>?_,by kernel_rfl⟩;rw[hq]at hx;cases hx;exact H.hp1 hA
theorem up2{A:List Int->List Int->Int->Prop}:UP A (bn k2) (u2,0):=by
 unfold UP;rw[if_neg (by decide)];have hc:cln (bn k2)=bn k2:=by decide +kernel
 rw[hc];have hq:hqy (bn k2)=none:=by decide +kernel
 exact⟨H.non 0,(fun x sp hx=>by rw[hq]at hx;cases hx),by kernel_rfl⟩
theorem up3{A:List Int->List Int->Int->Prop}(hA:H.Asc A):UP A (bn k3) (zu,131):=by
 unfold UP;rw[if_neg (by decide)];have hc:cln (bn k3)=bn k3:=by decide +kernel
 rw[hc];have hq:hqy (bn k3)=some ([97],true):=by decide +kernel
 refine⟨(1,[97],0,H.z8,0),fun x sp hx=>?_,by kernel_rfl⟩;rw[hq]at hx;cases hx;unfold H.HP;rw[if_neg (by decide),if_neg (by decide),if_neg (by decide)];exact⟨[97],0,by rw[show E.de [97]=[97] by decide];exact hA.num (by decide),by decide +kernel⟩
theorem up4{A:List Int->List Int->Int->Prop}:UP A (bn k4) (zu,130):=by
 unfold UP;rw[if_neg (by decide)];have hc:cln (bn k4)=bn k4:=by decide +kernel
 rw[hc];have hq:hqy (bn k4)=none:=by decide +kernel
 exact⟨H.non 0,(fun x sp hx=>by rw[hq]at hx;cases hx),by kernel_rfl⟩
theorem dC{A:List Int->List Int->Int->Prop}{G:World->Prop}(C:Ctr A G)(w:World)(hG:G w):Calls prog 10 #[] w fun e W'=>e=.returned (.bool true)/\Below w.heap.size w W':=by
 have HK:Hid (∀ W,Below w.heap.size w W->G W):=fun W h=>C.keep w W hG h;have P1:=hid (fun W h=>C.cpIs (s:=k1) (by decide) (up1 C.asc) W h);have P2:=hid (fun W h=>C.cpIs (s:=k2) (by decide) up2 W h);have P3:=hid (fun W h=>C.cpIs (s:=k3) (by decide) (up3 C.asc) W h);have P4:=hid (fun W h=>C.cpIs (s:=k4) (by decide) up4 W h);have P5:Hid (∀ W,G W->Calls prog 13 #[.string ⟨#[119,115,115]⟩] W fun e W'=>e=.returned (.tuple #[.int .u16 443,.bool true])/\Below W.heap.size W W'):=fun W h=>C.cq ⟨#[119,115,115]⟩ W (by decide) h
 have T1:Hid (∀ W a,At W a u1->Lim u1->G W->Calls prog 16 #[.agg (Us.cs a)] W fun e W'=>e=.returned (.string ⟨#[104,116,116,112,58,47,47,85,115,101,114,64,101,120,97,109,112,108,101,46,99,111,109,47,98,63,113,35,102]⟩)/\Below W.heap.size W W'):=fun W a h l g=>(C.ct a u1 W h l g).mono (by
   rintro e W' ⟨⟨t,rfl,ht⟩,hB⟩
   obtain rfl:t=⟨#[104,116,116,112,58,47,47,85,115,101,114,64,101,120,97,109,112,108,101,46,99,111,109,47,98,63,113,35,102]⟩:=ak (ht.trans (by decide +kernel))
   exact⟨rfl,hB⟩)
 have T2:Hid (∀ W a,At W a u2->Lim u2->G W->Calls prog 16 #[.agg (Us.cs a)] W fun e W'=>e=.returned (.string ⟨#[102,111,111,58,47,46,47,47,112]⟩)/\Below W.heap.size W W'):=fun W a h l g=>(C.ct a u2 W h l g).mono (by
   rintro e W' ⟨⟨t,rfl,ht⟩,hB⟩
   obtain rfl:t=⟨#[102,111,111,58,47,46,47,47,112]⟩:=ak (ht.trans (by decide +kernel))
   exact⟨rfl,hB⟩)
 have T3:Hid (∀ W a,At W a u2->Lim u2->G W->Calls prog 19 #[.agg (Us.cs a)] W fun e W'=>e=.returned (.string ⟨#[47,47,112]⟩)/\Below W.heap.size W W'):=fun W a h l g=>(C.ch a u2 W h l g).mono (by
   rintro e W' ⟨⟨t,rfl,ht⟩,hB⟩
   obtain rfl:t=⟨#[47,47,112]⟩:=ak (ht.trans (by decide +kernel))
   exact⟨rfl,hB⟩)
 unfold k1 at P1;unfold k2 at P2;unfold k3 at P3;unfold k4 at P4;have HB:Hid (Below w.heap.size w w):=Below.refl _ _;clear C hG;go_enter func10,ntmps10;go_wp2_with fail;refine(P1.out _ (HK.out _ HB.out)).mono ?_;rintro e v1 ⟨⟨a1,hl1,ha1,rfl⟩,B⟩;replace HB:=Bt' HB B;have X1:=hid (aA v1 zc 29);have O1:=hid (aR ha1);obtain⟨pk,pb⟩:=cV v1 a1;have R1:=hid pk;replace HB:=Bt' HB pb;have AT1:=hid (ha1.below pb);have LM1:=hid hl1;obtain⟨q1,hq1⟩:=Ex' ((v1.alloc (.cells zc 29)).setRow v1.heap.size (Us.cs a1));rw[hq1]at R1 HB AT1;clear ha1 hl1 pk pb B;go_wp2_with(refine wpList_store_row rfl 29 (.tmp 1) (.tmp 13) rfl v1.heap.size (Us.cs a1) rfl rfl 29 zc X1.out (aL a1) rfl O1.out ?_);refine(P2.out _ (HK.out _ HB.out)).mono ?_;rintro e v2 ⟨⟨a2,hl2,ha2,rfl⟩,B⟩;replace HB:=Bt' HB B;replace R1:=hid (kept R1.out B);replace AT1:=hid (AT1.out.below B);have X2:=hid (aA v2 zc 29);have O2:=hid (aR ha2);obtain⟨pk,pb⟩:=cV v2 a2;have R2:=hid pk;replace HB:=Bt' HB pb;have AT2:=hid (ha2.below pb);have LM2:=hid hl2;replace R1:=hid (kept R1.out pb);replace AT1:=hid (AT1.out.below pb);obtain⟨q2,hq2⟩:=Ex' ((v2.alloc (.cells zc 29)).setRow v2.heap.size (Us.cs a2));rw[hq2]at R1 AT1 R2 HB AT2;clear ha2 hl2 pk pb B;go_wp2_with(refine wpList_store_row rfl 29 (.tmp 3) (.tmp 17) rfl v2.heap.size (Us.cs a2) rfl rfl 29 zc X2.out (aL a2) rfl O2.out ?_);refine(P3.out _ (HK.out _ HB.out)).mono ?_;rintro e v3 ⟨⟨a3,hl3,ha3,rfl⟩,B⟩;replace HB:=Bt' HB B;replace R1:=hid (kept R1.out B);replace AT1:=hid (AT1.out.below B);replace R2:=hid (kept R2.out B);replace AT2:=hid (AT2.out.below B);have X3:=hid (aA v3 zc 29);have O3:=hid (aR ha3);obtain⟨pk,pb⟩:=cV v3 a3;have R3:=hid pk;replace HB:=Bt' HB pb;have AT3:=hid (ha3.below pb);have LM3:=hid hl3;replace R1:=hid (kept R1.out pb);replace AT1:=hid (AT1.out.below pb);replace R2:=hid (kept R2.out pb);replace AT2:=hid (AT2.out.below pb);obtain⟨q3,hq3⟩:=Ex' ((v3.alloc (.cells zc 29)).setRow v3.heap.size (Us.cs a3));rw[hq3]at R1 AT1 R2 AT2 R3 HB AT3;clear ha3 hl3 pk pb B;go_wp2_with(refine wpList_store_row rfl 29 (.tmp 5) (.tmp 21) rfl v3.heap.size (Us.cs a3) rfl rfl 29 zc X3.out (aL a3) rfl O3.out ?_);refine(P4.out _ (HK.out _ HB.out)).mono ?_;rintro e v4 ⟨⟨a4,hl4,ha4,rfl⟩,B⟩;replace HB:=Bt' HB B;replace R1:=hid (kept R1.out B);replace AT1:=hid (AT1.out.below B);replace R2:=hid (kept R2.out B);replace AT2:=hid (AT2.out.below B);have X4:=hid (aA v4 zc 29);have O4:=hid (aR ha4);obtain⟨pk,pb⟩:=cV v4 a4;have R4:=hid pk;replace HB:=Bt' HB pb;have AT4:=hid (ha4.below pb);have LM4:=hid hl4;replace R1:=hid (kept R1.out pb);replace AT1:=hid (AT1.out.below pb);replace R2:=hid (kept R2.out pb);replace AT2:=hid (AT2.out.below pb);obtain⟨q4,hq4⟩:=Ex' ((v4.alloc (.cells zc 29)).setRow v4.heap.size (Us.cs a4));rw[hq4]at R1 AT1 R2 AT2 R4 HB AT4;clear ha4 hl4 pk pb B;go_wp2_with(refine wpList_store_row rfl 29 (.tmp 7) (.tmp 25) rfl v4.heap.size (Us.cs a4) rfl rfl 29 zc X4.out (aL a4) rfl O4.out ?_);refine(P5.out _ (HK.out _ HB.out)).mono ?_;rintro e v5 ⟨rfl,B⟩;replace R1:=hid (kept R1.out B);replace AT1:=hid (AT1.out.below B);replace R2:=hid (kept R2.out B);replace AT2:=hid (AT2.out.below B);replace HB:=Bt' HB B;clear B P1 P2 P3 P4 P5 X1 X2 X3 X4 O1 O2 O3 O4 R3 R4 AT3 AT4 LM3 LM4 hq1 hq2 hq3 hq4;go_wp2_with(refine aK (by rfl) ?_;refine wpList_load_row rfl 29 (.tmp 1) rfl v1.heap.size rfl 29 (Us.cs a1) (0,0) _ R1.out underlying29 rfl (aL a1) ?_);refine(T1.out _ a1 AT1.out LM1.out (HK.out _ HB.out)).mono ?_;rintro e v6 ⟨rfl,B⟩;replace R2:=hid (kept R2.out B);replace AT2:=hid (AT2.out.below B);replace HB:=Bt' HB B;clear B T1 R1 AT1;go_wp2_with(refine aK (by rfl) ?_;refine wpList_load_row rfl 29 (.tmp 3) rfl v2.heap.size rfl 29 (Us.cs a2) (0,0) _ R2.out underlying29 rfl (aL a2) ?_);refine(T2.out _ a2 AT2.out LM2.out (HK.out _ HB.out)).mono ?_;rintro e v7 ⟨rfl,B⟩;replace R2:=hid (kept R2.out B);replace AT2:=hid (AT2.out.below B);replace HB:=Bt' HB B;clear B T2;go_wp2_with(refine aK (by rfl) ?_;refine wpList_load_row rfl 29 (.tmp 3) rfl v2.heap.size rfl 29 (Us.cs a2) (0,0) _ R2.out underlying29 rfl (aL a2) ?_);refine(T3.out _ a2 AT2.out LM2.out (HK.out _ HB.out)).mono ?_;rintro e v8 ⟨rfl,B⟩;replace HB:=Bt' HB B;clear B T3 R2 AT2;go_wp2;go_ret;exact⟨rfl,HB.out⟩
open F (bn aa hid)
theorem dN{w:World}{a b:Us}{u:Ur}(h:At w a u)(k:At w b u)(hl:Lim u):Calls prog 15 #[.agg (Us.cs a),.agg (Us.cs b)] w fun e W'=>e=.returned (.bool true)/\Below w.heap.size w W':=by obtain⟨ps,e1,s1⟩:=h.pv;obtain⟨qs,e2,s2⟩:=k.pv;obtain rfl:ps=qs:=dD (w:=w) (v:=a.pv) (v':=b.pv) (e1.trans e2.symm);rw[h.same k];refine eN a b.pv ps w s1 s2 ?_;have:=hl.2.2.2.2.2.2;rw[<-e1,List.length_map]at this;exact this
open F (bn aa hid)
open U (below_grow)
theorem IP{w:World}{a:Option Addr}{len cap:Nat}{zs:List Int}(h:U.IsRow .u8 w a len cap zs)(k:Nat)(hk:k<len):∃ b off,a=some ⟨b,off,none⟩/\w.cell? ⟨b,off+k,none⟩=some (.int .u8 ((zs.take len)[k]?.getD 0))/\0<=(zs.take len)[k]?.getD 0/\(zs.take len)[k]?.getD 0<=255:=by
 rcases h with⟨_,rfl,_⟩ | ⟨x,rfl,hl,_,hz,hc,hw⟩
 ·omega
 ·obtain⟨b,off,rfl,hc'⟩:=ints_at hc (by omega);have e:(zs.take len)[k]?.getD 0=zs.getD k 0:=by rw[List.getElem?_take_of_lt hk,List.getD_eq_getElem?_getD]
  have hb:0<=zs.getD k 0/\zs.getD k 0<=255:=by
   have h:(Lit.int .u8 (zs.getD k 0)).wf=true:=hw _ (by
     rw[List.getD_eq_getElem?_getD,List.getElem?_eq_getElem (by omega)]
     exact List.getElem_mem _)
   simp[Lit.wf,IntKind.min,IntKind.max,IntKind.bits,IntKind.signed]at h;simp;omega
  rw[e];exact⟨b,off,rfl,hc' k (by omega),hb⟩
theorem take_len{w:World}{a:Option Addr}{len cap:Nat}{zs:List Int}(h:U.IsRow .u8 w a len cap zs):(zs.take len).length=len:=by
 rcases h with⟨_,rfl,_⟩ | ⟨x,rfl,hl,_,hz,hc,hw⟩
 ·simp
 ·rw[length_take];omega
theorem BQ{w:World}{v:Value}{L:List Int}(h:U.av w v L):∃ a c,v=.slice a L.length c/\(0<L.length->∃ b off,a=some ⟨b,off,none⟩/\∀ j,j<L.length->w.cell? ⟨b,off+j,none⟩=some (.int .i32 (L[j]?.getD 0))):=by
 rcases h with⟨rfl,a,c,rfl⟩ | ⟨h0,b,off,c,rfl,hc⟩
 ·exact⟨a,c,rfl,fun h=>absurd h (by simp)⟩
 ·exact⟨_,c,rfl,fun _=>⟨b,off,rfl,hc⟩⟩
theorem SG(j:Int)(h0:0<=j)(h3:j<3):∃ x:Int,(∀ W,(Instr.index 45 (.agg #[.int .i32 9,.int .i32 10,.int .i32 13]) (.int .i64 j)).run prog W=.ok (.int .i32 x) W)/\(x=9\/x=10\/x=13):=by
 obtain rfl | rfl | rfl:j=0\/j=1\/j=2:=by omega
 ·exact⟨_,fun W=>(by simp[Instr.index,asIntOf,run_underlying underlying45,go_sem]),.inl rfl⟩
 ·exact⟨_,fun W=>(by simp[Instr.index,asIntOf,run_underlying underlying45,go_sem]),.inr (.inl rfl)⟩
 ·exact⟨_,fun W=>(by simp[Instr.index,asIntOf,run_underlying underlying45,go_sem]),.inr (.inr rfl)⟩
def Ob(w0 wr:World)(v:Value)(X:List Int):Prop:=wr.ownsRow w0.heap.size 21 1 v X.length (X.map (Value.int .i32))/\Below w0.heap.size w0 wr
theorem Ob.on{w0 wr w2:World}{v v':Value}{X:List Int}{r:Int}{z:Obj}(h:Ob w0 wr v X)(h1:w2.ownsRow w0.heap.size 21 1 v' (X.length+1) (X.map (Value.int .i32)++[.int .i32 r]))(h2:(wr.alloc z).grownBy w2 v.ownBlock):Ob w0 w2 v' (X++[r]):=by refine⟨?_,below_grow (h.2.alloc h.2.size z) (by have:=h.2.size;simp;omega) (h.1.alloc _) h2⟩;simpa using h1
theorem Af{X:List Int}{a:Int}(h:∀ c∈X,c=a):∀ c∈X++[a],c=a:=fun c hc=>by
 rcases List.mem_append.1 hc with hc | hc
 ·exact h c hc
 ·exact List.mem_singleton.1 hc
theorem qW(i:Nat):∀ ds:List Int,ds.countP (fun d=>decide (d<(i:Int)))+ds.countP (fun d=>decide (d=(i:Int)))=ds.countP (fun d=>decide (d<((i+1:Nat):Int)))
 | []=>rfl
 | d::ds=>by
  have:=qW i ds;by_cases h1:d<(i:Int)
  ·have h2:¬ d=(i:Int):=by omega
   have h3:d<((i+1:Nat):Int):=by omega
   rw[List.countP_cons_of_pos (by simpa using h1),countP_cons_of_neg (by simpa using h2),List.countP_cons_of_pos (by simpa using h3),<-this];omega
  ·by_cases h2:d=(i:Int)
   ·have h3:d<((i+1:Nat):Int):=by omega
    rw[countP_cons_of_neg (by simpa using h1),List.countP_cons_of_pos (by simpa using h2),List.countP_cons_of_pos (by simpa using h3),<-this];omega
   ·have h3:¬ d<((i+1:Nat):Int):=by omega
    rw[countP_cons_of_neg (by simpa using h1),countP_cons_of_neg (by simpa using h2),countP_cons_of_neg (by simp;omega),<-this]
def Md(F D ds:List Int)(i k:Nat)(X:List Int):Prop :=
 ∃ m,X=F++m/\m.filter ntb=(D.take i).filter ntb/\(∀ c∈m,U.ab c=true)/\X.length<=F.length+i+ds.countP (fun d=>decide (d<(i:Int)))+(ds.take k).countP (fun d=>decide (d=(i:Int)))
theorem Md.start(F D ds:List Int):Md F D ds 0 0 F:=⟨[],by simp,rfl,by simp,by omega⟩
theorem Md.skip{F D ds X:List Int}{i k:Nat}(h:Md F D ds i k X):Md F D ds i (k+1) X:=by obtain⟨m,h1,h2,h3,h4⟩:=h;refine⟨m,h1,h2,h3,Nat.le_trans h4 ?_⟩;rw[List.take_add_one,List.countP_append];omega
theorem Md.put{F D ds X:List Int}{i k:Nat}(h:Md F D ds i k X){x:Int}(hx:x=9\/x=10\/x=13)(hk:ds[k]? = some (i:Int)):Md F D ds i (k+1) (X++[x]):=by
 obtain⟨m,h1,h2,h3,h4⟩:=h;refine⟨m++[x],by rw[h1,append_assoc],?_,fun c hc=>?_,?_⟩
 ·have e:[x].filter ntb=[]:=by rcases hx with rfl | rfl | rfl <;> decide
  rw[filter_append,h2,e,append_nil]
 ·rcases List.mem_append.1 hc with hc | hc
  ·exact h3 c hc
  ·rw[List.mem_singleton.1 hc];rcases hx with rfl | rfl | rfl <;> decide
 ·rw[List.take_add_one,List.countP_append,hk,List.length_append];simp only[Option.toList,List.countP_cons,decide_true,if_true,List.countP_nil,List.length_singleton];omega
theorem Md.next{F D ds X:List Int}{i:Nat}(h:Md F D ds i ds.length X){c:Int}(hc:D[i]? = some c)(hs:U.ab c=true):Md F D ds (i+1) 0 (X++[c]):=by
 obtain⟨m,h1,h2,h3,h4⟩:=h;refine⟨m++[c],by rw[h1,append_assoc],?_,fun d hd=>?_,?_⟩
 ·rw[filter_append,h2,List.take_add_one,filter_append,hc];rfl
 ·rcases List.mem_append.1 hd with hd | hd
  ·exact h3 d hd
  ·rw[List.mem_singleton.1 hd];exact hs
 ·rw[take_length]at h4;rw[<-qW,List.length_append,List.length_singleton,List.take_zero,List.countP_nil];omega
theorem Md.len{F D ds X:List Int}{i k:Nat}(h:Md F D ds i k X)(hF:F.length<=3)(hi:i<=600)(hd:ds.length<=60):X.length<=723:=by
 obtain⟨m,_,_,_,h4⟩:=h;have h5:=List.countP_le_length (p:=fun d=>decide (d<(i:Int))) (l:=ds);have h6:=List.countP_le_length (p:=fun d=>decide (d=(i:Int))) (l:=ds.take k);have h7:(ds.take k).length<=60:=by rw[length_take];omega
 omega
theorem kU{c:Int}(h:0<=c/\c<=32):blk c=true/\U.ab c=true:=by
 constructor
 ·unfold blk;exact decide_eq_true (by omega)
 ·unfold U.ab;simp;omega
theorem Ct{A:List Int->List Int->Int->Prop}{s t:ByteArray}{F ds X B:List Int}{c1 c2:Int}{r:Ur×Int}(hs:s.size<=600)(hF:∀ c∈F,c=c1)(hc1:0<=c1/\c1<=32)(hB:∀ c∈B,c=c2)(hc2:0<=c2/\c2<=32)
  (hM:Md F (U.dec (bn s)) ds (U.dec (bn s)).length 0 X) (hZ:(X++B).length<=1000) (ht:U.bn t=U.aj (X++B)) (x:UP A (bn s) r):UP A (bn t) r:=by
 obtain⟨m,h1,h2,h3,_⟩:=hM;rw[take_length]at h2;have hf:∀ c∈F,blk c=true/\U.ab c=true:=fun c hc=>by rw[hF c hc];exact kU hc1
 have hb:∀ c∈B,blk c=true/\U.ab c=true:=fun c hc=>by rw[hB c hc];exact kU hc2
 have hsc:(X++B).all U.ab=true:=by
  rw[List.all_eq_true,h1];intro c hc;rcases List.mem_append.1 hc with hc | hc
  ·rcases List.mem_append.1 hc with hc | hc
   ·exact(hf c hc).2
   ·exact h3 c hc
  ·exact(hb c hc).2
 have hd:U.dec (bn t)=F++(m++B):=by
  have e:U.dec (U.bn t)=X++B:=by rw[ht];exact(U.back _ hsc).1
  rw[show U.dec (bn t)=X++B from e,h1,append_assoc]
 have hl:=U.cX (X++B);refine UP.alike (s:=bn s) (by rw[aa];omega) (by rw[show bn t=U.aj (X++B) from ht];omega) ?_ x;exact(yo (fun c hc=>(hf c hc).1) (fun c hc=>(hb c hc).1) h2 hd).symm
theorem wk{A:List Int->List Int->Int->Prop}{G:World->Prop}(C:Ctr A G)(s:ByteArray)(a:Option Addr)(len cap:Nat)(zs:List Int)(f g:Int)(hf0:0<=f)(hf1:f<=255)(hg0:0<=g)(hg1:g<=255)(w:World)(hG:G w)(hs:s.size<=maxLen)(hr:U.IsRow .u8 w a len cap zs):
  Calls prog 5 #[.string s,.slice a len cap,.int .u8 f,.int .u8 g] w fun e W'=>e=.returned (.bool true)/\Below w.heap.size w W':=by
 have HK:Hid (∀ W,Below w.heap.size w W->G W):=fun W h=>C.keep w W hG h
 have HW:Hid (∀ W,Below w.heap.size w W->Calls prog 10 #[] W fun e W'=>e=.returned (.bool true)/\Below w.heap.size w W'):=fun W h=>(dC C W (HK.out W h)).mono (by
   rintro e W' ⟨rfl,hB⟩
   exact⟨rfl,h.trans (hB.mono h.size)⟩)
 have HB:Hid (Below w.heap.size w w):=Below.refl _ _;have hm:=U.rK hr;unfold maxLen at hs hm;by_cases g1:600<s.size
 ·have g1z:(600:Int)<(s.size:Int):=by omega
  clear C hG hr;go_enter func5,ntmps5;go_wp2_with(go_at_call 10;refine(HW.out _ HB.out).mono ?_;rintro e w2 ⟨rfl,B2⟩);go_ret;exact⟨rfl,B2⟩
 have g1z:¬ (600:Int)<(s.size:Int):=by omega
 by_cases g2:60<len
 ·have g2z:(60:Int)<(len:Int):=by omega
  clear C hG hr;go_enter func5,ntmps5;go_wp2_with(go_at_call 10;refine(HW.out _ HB.out).mono ?_;rintro e w2 ⟨rfl,B2⟩);go_ret;exact⟨rfl,B2⟩
 have g2z:¬ (60:Int)<(len:Int):=by omega
 have HROW:=hid (fun k hk=>IP hr k hk);have HDL:=hid (take_len hr);obtain⟨ds,hds⟩:=Ex' (zs.take len);rw[hds]at HROW HDL;have HC:=hid C;clear hr C hG hds;obtain⟨D,hD⟩:=Ex' (U.dec (bn s));have HDE:=hid hD;have hDl:D.length<=600:=by have:=U.dv s.size (bn s) (by rw[aa];omega) (U.ay s);rw[aa,hD]at this;omega
 have HSC:Hid (∀ c∈D,U.ab c=true):=by have:=U.bJ s.size (bn s) (by rw[aa];omega) (U.ay s);rw[hD]at this;exact List.all_eq_true.1 this
 have HDC:=hid (U.pH s (by omega) w);rw[show U.dec (U.bn s)=D from hD]at HDC;clear hD;obtain⟨c1,hc1⟩:=Ex' (Int.tmod f 33);have c1b:0<=c1/\c1<=32:=by rw[<-hc1,tmod_eq_emod_of_nonneg (by omega)];omega
 obtain⟨n1,hn1⟩:∃ n:Nat,Int.tmod f 4=(n:Int):=⟨(Int.tmod f 4).toNat,by rw[tmod_eq_emod_of_nonneg (by omega)];omega⟩;have n1b:n1<=3:=by have:=hn1;rw[tmod_eq_emod_of_nonneg (by omega)]at this;omega
 have cw1:IntKind.u8.wrap c1=c1:=by simp[IntKind.wrap,IntKind.bits,IntKind.signed];omega
 have cv1:IntKind.i32.wrap c1=c1:=by simp[IntKind.wrap,IntKind.bits,IntKind.signed];omega
 have nw1:IntKind.u8.wrap (n1:Int)=(n1:Int):=by simp[IntKind.wrap,IntKind.bits,IntKind.signed];omega
 have CB1:=hid c1b;clear c1b;obtain⟨c2,hc2⟩:=Ex' (Int.tmod g 33);have c2b:0<=c2/\c2<=32:=by rw[<-hc2,tmod_eq_emod_of_nonneg (by omega)];omega
 obtain⟨n2,hn2⟩:∃ n:Nat,Int.tmod g 4=(n:Int):=⟨(Int.tmod g 4).toNat,by rw[tmod_eq_emod_of_nonneg (by omega)];omega⟩;have n2b:n2<=3:=by have:=hn2;rw[tmod_eq_emod_of_nonneg (by omega)]at this;omega
 have cw2:IntKind.u8.wrap c2=c2:=by simp[IntKind.wrap,IntKind.bits,IntKind.signed];omega
 have cv2:IntKind.i32.wrap c2=c2:=by simp[IntKind.wrap,IntKind.bits,IntKind.signed];omega
 have nw2:IntKind.u8.wrap (n2:Int)=(n2:Int):=by simp[IntKind.wrap,IntKind.bits,IntKind.signed];omega
 have CB2:=hid c2b;clear c2b;obtain⟨i0,hi,hz0,hz1,hz2⟩:=info_parts U.Tryz.iH;go_enter func5,ntmps5;go_wp2_with fail;refine HDC.out.mono ?_;rintro e w0 ⟨v9,rfl,ag,hB0⟩;replace HB:=hid hB0;obtain⟨a9,c9,rfl,hcl⟩:=BQ (U.av.own rfl ag);have HCL:=hid hcl;clear ag hcl HDC hB0;go_wp2_with fail
 go_loopw [10,11] (fun vo vi wr=>∃(i:Nat) (X:List Int),i<=n1/\X.length<=i/\vi=.int .u8 (i:Int)/\Hid (∀ c∈X,c=c1)/\Hid (Ob w0 wr vo X)) (fun _ vi _=>n1 - (intOf vi).toNat)
 case atStart=>exact⟨0,[],zero_le _,le_refl _,rfl,(fun c hc=>by cases hc),⟨ownsRow_nil _ _ _ _,Below.refl _ _⟩⟩
 case round =>
  obtain⟨i,X,hi9,hXl,rfl,HX,HO⟩:=hrel;by_cases hlt:i<n1
  ·have hltz:(i:Int)<(n1:Int):=by omega
   have HX2:=hid (Af HX.out);go_wp2_with(at_builtin;refine wpList_append_own _ rfl _ _ 43 rfl w0.heap.size 21 i0 (.int .i32 0) 1 4 underlying43 hi hz0 hz1 hz2 rfl (by decide) _ _ _ rfl (HO.out.1.alloc _) ⟨wr.heap.size,0,none⟩ 1 1 [.int .i32 c1] rfl rfl (cell_one_new _ _ _) (by simp[Value.oneCell']) (by unfold maxLen;omega) (by omega) (by have:=HO.out.2.size;simp;omega) ?_;intro v' w2 hown' hgrow _);have HO2:=hid (Ob.on (r:=c1) HO.out hown' hgrow);clear hown' hgrow HO;go_wp2
   go_roundw
   case rel=>exact⟨i+1,X++[c1],by omega,by simp;omega,by go_num,HX2,HO2⟩
   case measure=>simp[intOf];omega
  ·have hltz:¬ (i:Int)<(n1:Int):=by omega
   have HF:=HX;have HFO:=HO;have hFl:X.length<=3:=by omega
   obtain⟨F,hF⟩:=Ex' X;rw[hF]at HF HFO hFl;clear hF HX HO hXl hi9 hlt;go_wp2_with fail;clear hltz hn1 nw1 hc1 cw1 cv1
   go_loopw [10,12] (fun vo vi wr=>∃(i:Nat) (X:List Int),i<=D.length/\vi=.int .i64 (i:Int)/\Hid (Md F D ds i 0 X)/\Hid (Ob w0 wr vo X)) (fun _ vi _=>D.length - (intOf vi).toNat)
   case atStart=>exact⟨0,F,zero_le _,rfl,Md.start _ _ _,HFO⟩
   case round =>
    clear HFO;obtain⟨i,X,hi9,rfl,HM,HO⟩:=hrel;by_cases hlt:i<D.length
    ·have hltz:(i:Int)<(D.length:Int):=by omega
     go_wp2_with fail
     go_loopw [10,13] (fun vo vi wr=>∃(k:Nat) (X:List Int),k<=len/\vi=.int .i64 (k:Int)/\Hid (Md F D ds i k X)/\Hid (Ob w0 wr vo X)) (fun _ vi _=>len - (intOf vi).toNat)
     case atStart=>exact⟨0,X,zero_le _,rfl,HM,HO⟩
     case round =>
      clear HM HO;obtain⟨k,X,hk9,rfl,HM,HO⟩:=hrel;have hXl:X.length<=723:=HM.out.len hFl (by omega) (by rw[HDL.out];omega);by_cases hkl:k<len
      ·have hklz:(k:Int)<(len:Int):=by omega
       obtain⟨b,off,rfl,hck0,hd0,hd1⟩:=HROW.out k hkl;have hck:wr.cell? ⟨b,off+k,none⟩=some (.int .u8 (ds[k]?.getD 0)):=((HB.out.trans (HO.out.2.mono HB.out.size)).cell (p:=⟨b,off+k,none⟩) (U.lt_of_cell hck0)).trans hck0;have HDK:Hid (ds[k]? = some (ds[k]?.getD 0)):=by show _=_;rw[List.getElem?_eq_getElem (by rw[HDL.out];exact hkl)];rfl
       obtain⟨d,hd⟩:=Ex' (ds[k]?.getD 0);rw[hd]at hck HDK hd0 hd1;clear hd hck0;by_cases hdi:d=(i:Int)
       ·have hdb:(d==(i:Int))=true:=by simpa using hdi
        have HDI:Hid (ds[k]? = some (i:Int)):=by show _=_;rw[<-hdi];exact HDK.out
        obtain⟨j,hj⟩:=Ex' (Int.tmod (k:Int) 3);have hj0:0<=j:=by rw[<-hj,tmod_eq_emod_of_nonneg (by omega)];omega
        have hj3:j<3:=by rw[<-hj,tmod_eq_emod_of_nonneg (by omega)];omega
        obtain⟨x,hix,hx⟩:=SG j hj0 hj3;have HM2:=hid (HM.out.put hx HDI.out);have hjw:IntKind.i64.wrap j=j:=by simp[IntKind.wrap,IntKind.bits,IntKind.signed];omega
        clear hdi HM HDK HDI hx;go_wp2_with(at_builtin;refine wpList_append_own _ rfl _ _ 43 rfl w0.heap.size 21 i0 (.int .i32 0) 1 4 underlying43 hi hz0 hz1 hz2 rfl (by decide) _ _ _ rfl (HO.out.1.alloc _) ⟨wr.heap.size,0,none⟩ 1 1 [.int .i32 x] rfl rfl (cell_one_new _ _ _) (by simp[Value.oneCell']) (by unfold maxLen;omega) (by omega) (by have:=HO.out.2.size;simp;omega) ?_;intro v' w2 hown' hgrow _);have HO2:=hid (Ob.on (r:=x) HO.out hown' hgrow);clear hown' hgrow HO;go_wp2
        go_roundw
        case rel=>exact⟨k+1,X++[x],by omega,by go_num,HM2,HO2⟩
        case measure=>simp[intOf];omega
       ·have hdb:(d==(i:Int))=false:=by simpa using hdi
        have HM2:=hid HM.out.skip;clear hdi HM HDK;go_wp2
        go_roundw
        case rel=>exact⟨k+1,X,by omega,by go_num,HM2,HO⟩
        case measure=>simp[intOf];omega
      ·have hklz:¬ (k:Int)<(len:Int):=by omega
       have hke:k=len:=by omega
       have HML:Hid (Md F D ds i ds.length X):=by show Md _ _ _ _ _ _;rw[HDL.out,<-hke];exact HM.out
       clear hke;obtain⟨b9,off9,rfl,hcl9⟩:=HCL.out (by omega);have hcd:wr.cell? ⟨b9,off9+i,none⟩=some (.int .i32 (D[i]?.getD 0)):=(HO.out.2.cell (p:=⟨b9,off9+i,none⟩) (U.lt_of_cell (hcl9 i hlt))).trans (hcl9 i hlt);have hDi:D[i]? = some (D[i]?.getD 0):=by rw[List.getElem?_eq_getElem hlt];rfl
       obtain⟨c,hc⟩:=Ex' (D[i]?.getD 0);rw[hc]at hcd hDi;have HM2:=hid (HML.out.next hDi (HSC.out c (List.mem_of_getElem? hDi)));clear HM HML hDi hcl9 hc;go_wp2_with(at_builtin;refine wpList_append_own _ rfl _ _ 43 rfl w0.heap.size 21 i0 (.int .i32 0) 1 4 underlying43 hi hz0 hz1 hz2 rfl (by decide) _ _ _ rfl (HO.out.1.alloc _) ⟨wr.heap.size,0,none⟩ 1 1 [.int .i32 c] rfl rfl (cell_one_new _ _ _) (by simp[Value.oneCell']) (by unfold maxLen;omega) (by omega) (by have:=HO.out.2.size;simp;omega) ?_;intro v' w2 hown' hgrow _);have HO2:=hid (Ob.on (r:=c) HO.out hown' hgrow);clear hown' hgrow HO;go_wp2
       go_roundw
       case rel=>exact⟨i+1,X++[c],by omega,by go_num,HM2,HO2⟩
       case measure=>simp[intOf];omega
    ·have hltz:¬ (i:Int)<(D.length:Int):=by omega
     have hie:i=D.length:=by omega
     rw[hie]at HM;clear hie;have hXl:X.length<=723:=HM.out.len hFl hDl (by rw[HDL.out];omega);have HMX:=HM;clear HM HROW HCL;go_wp2_with fail;clear hltz
     go_loopw [10,14] (fun vo vi wr=>∃(i:Nat) (B:List Int),i<=n2/\(X++B).length<=723+i/\vi=.int .u8 (i:Int)/\Hid (∀ c∈B,c=c2)/\Hid (Ob w0 wr vo (X++B))) (fun _ vi _=>n2 - (intOf vi).toNat)
     case atStart=>exact⟨0,[],zero_le _,by simp;omega,rfl,(fun c hc=>by cases hc),by rw[append_nil];exact HO⟩
     case round =>
      clear HO;obtain⟨i,B,hi9,hZl,rfl,HX,HO⟩:=hrel;obtain⟨Z,hZ⟩:=Ex' (X++B);have HZ:=hid hZ;rw[hZ]at HO hZl;clear hZ;by_cases hlt:i<n2
      ·have hltz:(i:Int)<(n2:Int):=by omega
       have HX2:=hid (Af HX.out);go_wp2_with(at_builtin;refine wpList_append_own _ rfl _ _ 43 rfl w0.heap.size 21 i0 (.int .i32 0) 1 4 underlying43 hi hz0 hz1 hz2 rfl (by decide) _ _ _ rfl (HO.out.1.alloc _) ⟨wr.heap.size,0,none⟩ 1 1 [.int .i32 c2] rfl rfl (cell_one_new _ _ _) (by simp[Value.oneCell']) (by unfold maxLen;omega) (by omega) (by have:=HO.out.2.size;simp;omega) ?_;intro v' w2 hown' hgrow _);have HO2:=hid (Ob.on (r:=c2) HO.out hown' hgrow);clear hown' hgrow HO;replace HO2:Hid (Ob w0 w2 v' (X++(B++[c2]))/\(X++(B++[c2])).length=Z.length+1):=by rw[<-append_assoc,HZ.out];exact⟨HO2.out,by simp⟩
       go_wp2
       go_roundw
       case rel=>exact⟨i+1,B++[c2],by omega,by rw[HO2.out.2];omega,by go_num,HX2,HO2.out.1⟩
       case measure=>simp[intOf];omega
      ·have hltz:¬ (i:Int)<(n2:Int):=by omega
       have HEC:=hid (U.pG _ Z (by omega) wr (U.av.own rfl HO.out.1));replace HB:=hid (HB.out.trans (HO.out.2.mono HB.out.size))
       have HALL:Hid (Z.all U.ab=true):=by
        show _=_;obtain⟨m,h1,_,h3,_⟩:=HMX.out;rw[List.all_eq_true,<-HZ.out,h1];intro c hc;rcases List.mem_append.1 hc with hc | hc
        ·rcases List.mem_append.1 hc with hc | hc
         ·rw[HF.out c hc];exact(kU CB1.out).2
         ·exact h3 c hc
        ·rw[HX.out c hc];exact(kU CB2.out).2
       clear HO;go_wp2_with fail;refine HEC.out.mono ?_;rintro e w5 ⟨⟨t,r,rfl,hq⟩,B5⟩;replace HB:=Bt' HB B5
       have hbt:U.bn t=U.aj Z:=by
        rcases hq with⟨_,_,h⟩ | ⟨h,_⟩
        ·exact h
        ·rw[HALL.out]at h;cases h
       have HSZ:Hid (t.size<=100000):=by have h1:=U.cX Z;rw[<-hbt,U.aa]at h1;show _<=_;omega
       have HUP:Hid (∀ r,UP A (bn s) r->UP A (bn t) r):=fun r x=>by have hM:=HMX.out;rw[<-HDE.out]at hM;exact Ct (by omega) HF.out CB1.out HX.out CB2.out hM (by rw[HZ.out];omega) (by rw[HZ.out];exact hbt) x
       have HCP:=hid (HC.out.cp s w5 (by omega) (HK.out _ HB.out));clear HEC HALL HMX HZ HF HX hq B5 hbt HDE HSC HDL CB1 CB2;go_wp2_with fail;refine HCP.out.mono ?_;rintro e v1 ⟨⟨a,u,er,x,hl,ha,rfl⟩,B⟩;replace HB:=Bt' HB B;have X1:=hid (aA v1 #[.string ⟨#[]⟩,.string ⟨#[]⟩,.string ⟨#[]⟩,.bool false,.int .u8 0,.string ⟨#[]⟩,.int .u32 0,.int .u16 0,.int .u16 0,.int .u16 0,.int .u16 0,.int .u16 0,.int .u16 0,.int .u16 0,.int .u16 0,.bool false,.int .u16 0,.bool false,.slice none 0 0,.string ⟨#[]⟩,.bool false,.string ⟨#[]⟩,.bool false,.string ⟨#[]⟩] 29);have O1:=hid (aR ha);obtain⟨pk,pb⟩:=cV v1 a;have R1:=hid pk;replace HB:=Bt' HB pb;have AT1:=hid (ha.below pb);have LM:=hid hl;have HP2:=hid (HC.out.cpIs HSZ.out (HUP.out _ x) _ (HK.out _ HB.out));clear ha pk pb B HCP x hl HUP HSZ;go_wp2_with(refine wpList_store_row rfl 29 (.tmp 17) (.tmp 97) rfl v1.heap.size (Us.cs a) rfl rfl 29 #[.string ⟨#[]⟩,.string ⟨#[]⟩,.string ⟨#[]⟩,.bool false,.int .u8 0,.string ⟨#[]⟩,.int .u32 0,.int .u16 0,.int .u16 0,.int .u16 0,.int .u16 0,.int .u16 0,.int .u16 0,.int .u16 0,.int .u16 0,.bool false,.int .u16 0,.bool false,.slice none 0 0,.string ⟨#[]⟩,.bool false,.string ⟨#[]⟩,.bool false,.string ⟨#[]⟩] X1.out (aL (a)) rfl O1.out ?_);refine HP2.out.mono ?_;rintro e v2 ⟨⟨a2,_,ha2,rfl⟩,B⟩;replace R1:=hid (kept R1.out B);replace AT1:=hid (AT1.out.below B);replace HB:=Bt' HB B;have X2:=hid (aA v2 #[.string ⟨#[]⟩,.string ⟨#[]⟩,.string ⟨#[]⟩,.bool false,.int .u8 0,.string ⟨#[]⟩,.int .u32 0,.int .u16 0,.int .u16 0,.int .u16 0,.int .u16 0,.int .u16 0,.int .u16 0,.int .u16 0,.int .u16 0,.bool false,.int .u16 0,.bool false,.slice none 0 0,.string ⟨#[]⟩,.bool false,.string ⟨#[]⟩,.bool false,.string ⟨#[]⟩] 29);have O2:=hid (aR ha2);obtain⟨pk,pb⟩:=cV v2 a2;have R2:=hid pk;replace R1:=hid (kept R1.out pb);replace AT1:=hid (AT1.out.below pb);replace HB:=Bt' HB pb;have HSM:=hid (dN AT1.out (ha2.below pb) LM.out);have hee:(er==er)=true:=by simp
       clear ha2 pk pb B HP2 AT1 LM HC HK;go_wp2_with(first | (refine wpList_store_row rfl 29 (.tmp 19) (.tmp 102) rfl v2.heap.size (Us.cs a2) rfl rfl 29 #[.string ⟨#[]⟩,.string ⟨#[]⟩,.string ⟨#[]⟩,.bool false,.int .u8 0,.string ⟨#[]⟩,.int .u32 0,.int .u16 0,.int .u16 0,.int .u16 0,.int .u16 0,.int .u16 0,.int .u16 0,.int .u16 0,.int .u16 0,.bool false,.int .u16 0,.bool false,.slice none 0 0,.string ⟨#[]⟩,.bool false,.string ⟨#[]⟩,.bool false,.string ⟨#[]⟩] X2.out (aL (a2)) rfl O2.out ?_) | (refine aK (by rfl) ?_;refine wpList_load_row rfl 29 (.tmp 17) rfl v1.heap.size rfl 29 (Us.cs (a)) (0,0) _ R1.out underlying29 rfl (aL (a)) ?_) | (refine aK (by rfl) ?_;refine wpList_load_row rfl 29 (.tmp 19) rfl v2.heap.size rfl 29 (Us.cs (a2)) (0,0) _ R2.out underlying29 rfl (aL (a2)) ?_));refine HSM.out.mono ?_;rintro e v3 ⟨rfl,B⟩;replace HB:=Bt' HB B;clear B HSM R1 R2 X1 O1 X2 O2;go_wp2_with(go_at_call 10;refine(HW.out _ HB.out).mono ?_;rintro e w2 ⟨rfl,B2⟩);go_ret;exact⟨rfl,B2⟩
theorem mI{d:Int}(h:(Lit.int .u8 d).wf=true):0<=d/\d<=255:=by simp[Lit.wf,IntKind.min,IntKind.max,IntKind.bits,IntKind.signed]at h;omega
theorem blanks_at(s:ByteArray)(a:Option Addr)(len cap:Nat)(zs:List Int)(f g:Int)(w:World)(hG:GU w)(hs:s.size<=maxLen)(hr:U.IsRow .u8 w a len cap zs)(hf:(Lit.int .u8 f).wf=true)(hg:(Lit.int .u8 g).wf=true):Calls prog 5 #[.string s,.slice a len cap,.int .u8 f,.int .u8 g] w fun e W'=>e=.returned (.bool true)/\Below w.heap.size w W' :=
 wk ctr s a len cap zs f g (mI hf).1 (mI hf).2 (mI hg).1 (mI hg).2 w hG hs hr
end Y
end Go.Proofs.YtlmflmdmolcfhaaGreatDoor
