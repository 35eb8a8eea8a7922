/- Contracts and plain facts. -/
import Derived.Test.YtlmflmdmolcfhaaGreatDoorZ11
set_option maxRecDepth 100000
set_option maxHeartbeats 16000000
set_option linter.unusedVariables false
set_option linter.unnecessarySimpa false
open ByteArray (size_append)
open Nat (le_refl zero_le)
open List (map_cons map_append take_add_one take_length nil_append map_id)
open Bool (false_eq_true)
namespace Go.Proofs.YtlmflmdmolcfhaaGreatDoor
open Go.Proofs.Tryz Go.RowKit
namespace E
theorem bj:∀ {l:List Int},(∀ c∈l,c<128)->U.aj l=l
 | [],_=>rfl
 | c::l,h=>by have e:U.aj (c::l)=U.enc c++U.aj l:=List.flatMap_cons;rw[e,bR (h c (by simp)),bj (fun x hx=>h x (by simp[hx]))];rfl
end E
namespace F
theorem aS{a b:ByteArray}(h:bn a=bn b):(a.toList==b.toList)=true:=by rw[gC];exact decide_eq_true h
end F
namespace H
theorem HP.one{A:List Int->List Int->Int->Prop}(hA:Asc A){s:List Int}{sp:Bool}{h k:Hst}(x:HP A s sp h)(y:HP A s sp k):h=k:=by
 unfold HP at x y;split at x
 ·rename_i c;rw[if_pos c]at y;rw[x,y]
 ·rename_i c;rw[if_neg c]at y;split at x
  ·rename_i c;rw[if_pos c]at y;rw[x,y]
  ·rename_i c;rw[if_neg c]at y;split at x
   ·rename_i c;rw[if_pos c]at y;rw[x,y]
   ·rename_i c;rw[if_neg c]at y;obtain⟨d,r,h1,rfl⟩:=x;obtain⟨d',r',h2,rfl⟩:=y;obtain⟨rfl,rfl⟩:=hA.one h1 h2;rfl
theorem da:∀(n:Nat) (l:List Int),l.length<=n->U.Bytes l->∀ c∈U.dec l,c<128->c∈l
 | 0,[],_,_,c,h,_=>by simp[U.bL]at h
 | n+1,[],_,_,c,h,_=>by simp[U.bL]at h
 | n+1,a::l,hn,hl,c,h,hc=>by
  rw[U.aO (a::l) (by simp) hl]at h;rcases List.mem_cons.1 h with rfl | h
  ·rcases U.iz (a::l) (by simp) hl with⟨a',t,e,h0,h1,e2⟩ | ⟨a',b,t,e,h1,h2,h3,h4,e2⟩ | ⟨a',b,d,t,e,h1,h2,h3,h4,h5,h6,e2⟩ | ⟨a',b,d,f,t,e,h1,h2,h3,h4,h5,h6,h7,h8,e2⟩ | ⟨m,_,_,e2⟩
   ·rw[e2];cases e;simp
   ·rw[e2]at hc;simp only at hc;omega
   ·rw[e2]at hc;simp only at hc;have hlo:a'=224->160<=b:=fun h=>by unfold U.aF at h3;rw[h]at h3;simpa using h3
    have hl2:128<=b:=by unfold U.aF at h3;(repeat' split at h3) <;> omega
    by_cases h224:a'=224
    ·have:=hlo h224;omega
    ·omega
   ·rw[e2]at hc;simp only at hc;have hlo:a'=240->144<=b:=fun h=>by unfold U.aF at h3;rw[h]at h3;simpa using h3
    have hl2:128<=b:=by unfold U.aF at h3;(repeat' split at h3) <;> omega
    by_cases h240:a'=240
    ·have:=hlo h240;omega
    ·omega
   ·rw[e2]at hc;simp only at hc;omega
  ·have hnx:=(U.iy (a::l) (by simp)).1;have:=da n _ (by rw[List.length_drop];simp at hn ⊢;omega) (fun b hb=>hl b (List.mem_of_mem_drop hb)) c h hc;exact List.mem_of_mem_drop this
theorem cD(xs:Array Value)(i:Nat)(x:Int)(h:xs[i]? = some (.int .u16 x))(w:World):(part 23 xs i).run prog w=.ok (.int .u16 x) w:=by unfold part;simp[h,go_sem]
theorem cG(d:Nat)(xs ys:Array Value)(f g:Nat->Int)(w:World):∀(L:List Nat),(∀ i∈L,xs[i]? = some (.int .u16 (f i)))->(∀ i∈L,ys[i]? = some (.int .u16 (g i))) ->
  Sem.run prog (forIn L ((none:Option Bool),()) fun i __s=>do
          let a <-part 23 xs (i * 1)
          let b <-part 23 ys (i * 1)
          let r <-Op.equalIn (d+1) 23 a b
          if (!r)=true then pure (ForInStep.done (some false,())) else pure (ForInStep.yield (none,()))) w=.ok ((if L.all (fun i=>f i==g i)=true then none else some false),()) w
 | [],_,_=>by simp
 | i::L,hx,hy=>by
  have ih:=cG d xs ys f g w L (fun j hj=>hx j (by simp[hj])) (fun j hj=>hy j (by simp[hj]));have e:i * 1=i:=Nat.mul_one i;simp only[List.forIn_cons,Sem.run_bind,e,cD xs i _ (hx i (by simp)),cD ys i _ (hy i (by simp)),Result.andThen_ok,run_equalIn_int w d 23 .u16 .u16 _ _ underlying23];cases h:(f i==g i) with
  | true=>simp only[Bool.not_true,false_eq_true,if_false,Sem.run_pure,Result.andThen_ok,List.all_cons,h,Bool.true_and];simpa using ih
  | false=>simp[h]
theorem xX(d:Nat)(xs ys:Array Value)(f g:Nat->Int)(hx:∀ i,i<8->xs[i]? = some (.int .u16 (f i)))(hy:∀ i,i<8->ys[i]? = some (.int .u16 (g i)))(w:World):(Op.equalIn (d+2) 24 (.agg xs) (.agg ys)).run prog w=.ok ((List.range 8).all (fun i=>f i==g i)) w:=by
 have hs:∀ w,(sizeOf 23).run prog w=.ok 1 w:=fun w=>by kernel_rfl
 rw[Op.equalIn];simp only[Sem.run_bind,run_underlying underlying24,Result.andThen_ok,hs];rw[Std.Legacy.Range.forIn_eq_forIn_range'];have e:List.range' ([:8]:Std.Legacy.Range).start ([:8]:Std.Legacy.Range).size ([:8]:Std.Legacy.Range).step=List.range 8:=by decide
 rw[e];have h:=cG d xs ys f g w (List.range 8) (fun i hi=>hx i (List.mem_range.1 hi)) (fun i hi=>hy i (List.mem_range.1 hi));rw[h];simp only[Result.andThen_ok];cases (List.range 8).all (fun i=>f i==g i) <;> simp
theorem aJ(t:TypeId)(ht:∀ w,(isAgg t).run prog w=.ok false w)(xs:Array Value)(i:Nat)(x:Value)(h:xs[i]? = some x)(w:World):(part t xs i).run prog w=.ok x w:=by unfold part;simp[h,ht w,Sem.run_bind]
theorem cE(xs:Array Value)(w:World):(part 24 xs 3).run prog w=.ok (.agg (xs.extract 3 11)) w:=by
 have h1:(isAgg 24).run prog w=.ok true w:=by kernel_rfl
 unfold part;simp[h1,Sem.run_bind]
theorem fields_host : ((Tryz.prog.fieldsOf 26).toList.map fun f => (f.type, f.offset, decide (f.name = "_"))) = [(5, 0, false), (9, 1, false), (22, 2, false), (24, 3, false)] := by kernel_rfl
def eqh(k:Int)(n:ByteArray)(f:Int)(a:List Int)(k':Int)(n':ByteArray)(f':Int)(b:List Int):Bool:=(k==k')&&((n.toList==n'.toList)&&((f==f')&&(List.range 8).all (fun i=>a[i]?.getD 0==b[i]?.getD 0)))
theorem gT(k:Int)(n:ByteArray)(f a0 a1 a2 a3 a4 a5 a6 a7 k':Int)(n':ByteArray)(f' b0 b1 b2 b3 b4 b5 b6 b7:Int)(w:World):
  (Op.equalIn 10000 26 (hv k n f a0 a1 a2 a3 a4 a5 a6 a7) (hv k' n' f' b0 b1 b2 b3 b4 b5 b6 b7)).run prog w=.ok (eqh k n f [a0,a1,a2,a3,a4,a5,a6,a7] k' n' f' [b0,b1,b2,b3,b4,b5,b6,b7]) w:=by
 rw[run_equalIn_struct w 9999 26 _ _ (by kernel_rfl) (by kernel_rfl)];have hf:=fields_host;generalize (prog.fieldsOf 26).toList=fs at hf ⊢;match fs,hf with
 | [],hf=>cases hf
 | [_],hf=>simp at hf
 | [_,_],hf=>simp at hf
 | [_,_,_],hf=>simp at hf
 | _::_::_::_::_::_,hf=>simp at hf
 | [f0,f1,f2,f3],hf =>
  simp only[map_cons,List.map_nil,List.cons.injEq,Prod.mk.injEq,decide_eq_false_iff_not,and_true]at hf;obtain⟨⟨t0,o0,n0⟩,⟨t1,o1,n1⟩,⟨t2,o2,n2⟩,⟨t3,o3,n3⟩⟩:=hf;have g8:∀ w,(isAgg 5).run prog w=.ok false w:=fun w=>by kernel_rfl
  have gs:∀ w,(isAgg 9).run prog w=.ok false w:=fun w=>by kernel_rfl
  have g32:∀ w,(isAgg 22).run prog w=.ok false w:=fun w=>by kernel_rfl
  simp only[Op.eqFields,ne_eq,n0,n1,n2,n3,not_false_eq_true,if_true,t0,t1,t2,t3,o0,o1,o2,o3,Sem.run_bind];rw[aJ _ g8 _ 0 (.int .u8 k) rfl,Result.andThen_ok,aJ _ g8 _ 0 (.int .u8 k') rfl,Result.andThen_ok,run_equalIn_int w 9998 5 .u8 .u8 _ _ underlying5,Result.andThen_ok];unfold eqh;cases hk:(k==k') with
  | false=>simp
  | true =>
   simp only[Bool.not_true,false_eq_true,if_false,Bool.true_and,Sem.run_bind];rw[aJ _ gs _ 1 (.string n) rfl,Result.andThen_ok,aJ _ gs _ 1 (.string n') rfl,Result.andThen_ok,run_equalIn_string w 9998 9 _ _ underlying9,Result.andThen_ok];cases hn:(n.toList==n'.toList) with
   | false=>simp
   | true =>
    simp only[Bool.not_true,false_eq_true,if_false,Bool.true_and,Sem.run_bind];rw[aJ _ g32 _ 2 (.int .u32 f) rfl,Result.andThen_ok,aJ _ g32 _ 2 (.int .u32 f') rfl,Result.andThen_ok,run_equalIn_int w 9998 22 .u32 .u32 _ _ underlying22,Result.andThen_ok];cases h4:(f==f') with
    | false=>simp
    | true =>
     simp only[Bool.not_true,false_eq_true,if_false,Bool.true_and,Sem.run_bind];rw[cE,Result.andThen_ok,cE,Result.andThen_ok]
     rw[xX 9997 _ _ (fun i=>([a0,a1,a2,a3,a4,a5,a6,a7])[i]?.getD 0) (fun i=>([b0,b1,b2,b3,b4,b5,b6,b7])[i]?.getD 0) (fun i hi=>by
       obtain rfl | rfl | rfl | rfl | rfl | rfl | rfl | rfl:i=0\/i=1\/i=2\/i=3\/i=4\/i=5\/i=6\/i=7:=by omega
       all_goals rfl) (fun i hi=>by
       obtain rfl | rfl | rfl | rfl | rfl | rfl | rfl | rfl:i=0\/i=1\/i=2\/i=3\/i=4\/i=5\/i=6\/i=7:=by omega
       all_goals rfl),Result.andThen_ok]
     cases ((List.range 8).all fun i=>([a0,a1,a2,a3,a4,a5,a6,a7])[i]?.getD 0==([b0,b1,b2,b3,b4,b5,b6,b7])[i]?.getD 0) <;> simp
theorem eZ(k:Int)(n:ByteArray)(f a0 a1 a2 a3 a4 a5 a6 a7 k':Int)(n':ByteArray)(f' b0 b1 b2 b3 b4 b5 b6 b7:Int)(w:World):
  (binOp .eql 26 (hv k n f a0 a1 a2 a3 a4 a5 a6 a7) (hv k' n' f' b0 b1 b2 b3 b4 b5 b6 b7)).run prog w=.ok (.bool (eqh k n f [a0,a1,a2,a3,a4,a5,a6,a7] k' n' f' [b0,b1,b2,b3,b4,b5,b6,b7])) w:=by
 rw[run_eql_struct,gT];rfl
theorem fa(k:Int)(n:ByteArray)(f:Int)(a:List Int):eqh k n f a k n f a=true:=by unfold eqh;simp
end H
namespace Y
open F (bn ak hid aS)
theorem At.below{w W:World}{a:Us}{u:Ur}(h:At w a u)(hb:Below w.heap.size w W):At W a u :=
 ⟨h.sc,h.us,h.pa,h.hh,h.ho,h.hp,h.pr,h.op,h.bo,h.hq,h.qu,h.hf,h.fg,h.pv.imp (fun _ h=>⟨h.1,h.2.below hb⟩)⟩
theorem At.same{w:World}{a b:Us}{u:Ur}(h:At w a u)(k:At w b u):b={ a with pv:=b.pv }:=by have ho:=h.ho.trans k.ho.symm;simp only[Prod.mk.injEq,List.cons.injEq,and_true]at ho;obtain⟨o1,o2,o3,o4,o5,o6,o7,o8,o9,o10,o11⟩:=ho;have e1:=ak (h.sc.trans k.sc.symm);have e2:=ak (h.us.trans k.us.symm);have e3:=ak (h.pa.trans k.pa.symm);have e4:=ak o2;have e5:=ak (h.bo.trans k.bo.symm);have e6:=ak (h.qu.trans k.qu.symm);have e7:=ak (h.fg.trans k.fg.symm);have f1:=h.hh.trans k.hh.symm;have f2:=h.hp.trans k.hp.symm;have f3:=h.pr.trans k.pr.symm;have f4:=h.op.trans k.op.symm;have f5:=h.hq.trans k.hq.symm;have f6:=h.hf.trans k.hf.symm;cases a;cases b;simp only at *;subst e1 e2 e3 e4 e5 e6 e7 f1 f2 f3 f4 f5 f6 o1 o3 o4 o5 o6 o7 o8 o9 o10 o11;rfl
theorem dD{w:World}{v v':Value}{ps qs:List ByteArray}(he:ps.map bn=qs.map bn):ps=qs:=by
 induction ps generalizing qs with
 | nil=>cases qs with
  | nil=>rfl
  | cons _ _=>cases he
 | cons p ps ih=>cases qs with
  | nil=>cases he
  | cons q qs =>
   simp only[map_cons,List.cons.injEq]at he;rw[ak he.1,ih he.2]
theorem kept{W W':World}{g:Nat}{o:Obj}(h:W.heap[g]? = some o)(hb:Below W.heap.size W W'):W'.heap[g]? = some o:=(hb.block g (Array.getElem?_eq_some_iff.1 h).1).trans h
theorem dW{W:World}{g:Nat}{o:Obj}(h:W.heap[g]? = some o)(o':Obj):(W.alloc o').heap[g]? = some o:=kept h ((Below.refl _ W).alloc (le_refl _) o')
theorem eN(a:Us)(pv:Value)(ps:List ByteArray)(w:World)(h1:Strs w a.pv ps)(h2:Strs w pv ps)(hl:ps.length<=1000000):Calls prog 15 #[.agg (Us.cs a),.agg (Us.cs { a with pv:=pv })] w fun e W'=>e=.returned (.bool true)/\Below w.heap.size w W':=by
 obtain⟨b,hb⟩:=Ex' ({ a with pv:=pv }:Us);rw[hb];have A0:((w.alloc (.cells (Us.cs a) 29)).alloc (.cells (Us.cs b) 29)).heap[w.heap.size]? = some (.cells (Us.cs a) 29 (0,0)):=dW (aA w _ _) _
 have A1:((w.alloc (.cells (Us.cs a) 29)).alloc (.cells (Us.cs b) 29)).heap[w.heap.size+1]? = some (.cells (Us.cs b) 29 (0,0)):=by
  have:=aA (w.alloc (.cells (Us.cs a) 29)) (Us.cs b) 29
  rwa [show(w.alloc (.cells (Us.cs a) 29)).heap.size=w.heap.size+1 by simp]at this
 have HB:Hid (Below w.heap.size w ((w.alloc (.cells (Us.cs a) 29)).alloc (.cells (Us.cs b) 29))):=((Below.refl _ w).alloc (le_refl _) _).alloc (by simp) _;obtain⟨ad1,c1,e1,hc1,q1⟩:=(h1.below HB.out).form;obtain⟨ad2,c2,e2,hc2,q2⟩:=(h2.below HB.out).form;have e2':b.pv=.slice ad2 ps.length c2:=by rw[<-hb];exact e2
 have ebs:b={ a with pv:=.slice ad2 ps.length c2 }:=by rw[<-hb,e2]
 have hcz1:(ps.length:Int)<=(c1:Int):=by omega
 have hcz2:(ps.length:Int)<=(c2:Int):=by omega
 obtain⟨v,hv⟩:=Ex' (((w.alloc (.cells (Us.cs a) 29)).alloc (.cells (Us.cs b) 29)));have R0:Hid (∀ wr:World,wr.heap=v.heap->wr.heap[w.heap.size]? = some (.cells (Us.cs a) 29 (0,0))):=fun wr h=>by rw[h,<-hv];exact A0
 have R1:Hid (∀ wr:World,wr.heap=v.heap->wr.heap[w.heap.size+1]? = some (.cells (Us.cs b) 29 (0,0))):=fun wr h=>by rw[h,<-hv];exact A1
 have RP:Hid (∀(wr:World) (i:Nat),wr.heap=v.heap->i<ps.length->∃ b1 o1 b2 o2 x,ad1=some ⟨b1,o1,none⟩/\ad2=some ⟨b2,o2,none⟩/\wr.cell? ⟨b1,o1+i,none⟩=some (.string x)/\wr.cell? ⟨b2,o2+i,none⟩=some (.string x)):=fun wr i h hi=>by
  have hc:∀ p,wr.cell? p=v.cell? p:=fun p=>by unfold World.cell?;rw[h]
  rcases q1 with q1 | ⟨b1,o1,k1,g1⟩
  ·rw[q1]at hi;simp at hi
  rcases q2 with q2 | ⟨b2,o2,k2,g2⟩
  ·rw[q2]at hi;simp at hi
  exact⟨b1,o1,b2,o2,_,k1,k2,(hc _).trans (by rw[<-hv];exact g1 i hi),(hc _).trans (by rw[<-hv];exact g2 i hi)⟩
 have HB2:Hid (Below w.heap.size w v):=by rw[<-hv];exact HB.out
 have F18:v.cell? ⟨w.heap.size,18,none⟩=some (.slice ad1 ps.length c1):=by rw[<-hv];exact(cell_of_row _ _ 18 _ _ _ A0).trans (by rw[<-e1];rfl)
 have D18:v.cell? ⟨w.heap.size+1,18,none⟩=some (.slice ad2 ps.length c2):=by rw[<-hv];exact(cell_of_row _ _ 18 _ _ _ A1).trans (by rw[<-e2'];rfl)
 have E1:=hid e1;have E2:=hid e2';have EB:=hid ebs;clear q1 q2 A0 A1 HB h1 h2 hb e2 e1 e2' ebs;go_enter func15,ntmps15;go_wp2_with fail;clear hv F18 D18
 go_loopw [5] (fun v5 wr=>∃ k:Nat,k<=ps.length/\v5=.int .i64 k/\Hid (wr.heap=v.heap/\Below w.heap.size w wr)) (fun v5 _=>ps.length - (intOf v5).toNat)
 case atStart=>exact⟨0,zero_le _,rfl,rfl,HB2.out⟩
 case round =>
  obtain⟨i,hi,rfl,HW⟩:=hrel;have G18:wr.cell? ⟨w.heap.size,18,none⟩=some (.slice ad1 ps.length c1):=(cell_of_row _ _ 18 _ _ _ (R0.out wr HW.out.1)).trans (by rw[<-E1.out];rfl);have E18:wr.cell? ⟨w.heap.size+1,18,none⟩=some (.slice ad2 ps.length c2):=(cell_of_row _ _ 18 _ _ _ (R1.out wr HW.out.1)).trans (by rw[<-E2.out];rfl);by_cases hlt:i<ps.length
  ·have hltz:(i:Int)<(ps.length:Int):=by omega
   obtain⟨b1,o1,b2,o2,x,rfl,rfl,hx1,hx2⟩:=RP.out wr i HW.out.1 hlt;have hxx:(x.toList==x.toList)=true:=aS rfl;go_wp2_with fail
   go_quiet (fail)
   go_wp2
   go_roundw
   case rel=>exact⟨i+1,by omega,by go_num,HW.out.1,(fun h=>⟨h.os,h.tape,h.output,h.size,h.block⟩) HW.out.2⟩
   case measure=>simp[intOf];omega
  ·have hltz:¬ (i:Int)<(ps.length:Int):=by omega
   have K0:=R0.out wr HW.out.1;have K1:=R1.out wr HW.out.1;rw[EB.out]at K1;have F0:wr.cell? ⟨w.heap.size,0,none⟩=some (.string a.sc):=cell_of_row _ _ 0 _ _ _ K0;have F1:wr.cell? ⟨w.heap.size,1,none⟩=some (.string a.us):=cell_of_row _ _ 1 _ _ _ K0;have F2:wr.cell? ⟨w.heap.size,2,none⟩=some (.string a.pa):=cell_of_row _ _ 2 _ _ _ K0;have F3:wr.cell? ⟨w.heap.size,3,none⟩=some (.bool a.hh):=cell_of_row _ _ 3 _ _ _ K0;have F4:wr.cell? ⟨w.heap.size,4,none⟩=some (.int .u8 (a.k:Nat)):=cell_of_row _ _ 4 _ _ _ K0;have F5:wr.cell? ⟨w.heap.size,5,none⟩=some (.string a.nm):=cell_of_row _ _ 5 _ _ _ K0;have F6:wr.cell? ⟨w.heap.size,6,none⟩=some (.int .u32 (a.f:Nat)):=cell_of_row _ _ 6 _ _ _ K0;have F7:wr.cell? ⟨w.heap.size,7,none⟩=some (.int .u16 (a.x0:Nat)):=cell_of_row _ _ 7 _ _ _ K0;have F8:wr.cell? ⟨w.heap.size,8,none⟩=some (.int .u16 (a.x1:Nat)):=cell_of_row _ _ 8 _ _ _ K0;have F9:wr.cell? ⟨w.heap.size,9,none⟩=some (.int .u16 (a.x2:Nat)):=cell_of_row _ _ 9 _ _ _ K0;have F10:wr.cell? ⟨w.heap.size,10,none⟩=some (.int .u16 (a.x3:Nat)):=cell_of_row _ _ 10 _ _ _ K0;have F11:wr.cell? ⟨w.heap.size,11,none⟩=some (.int .u16 (a.x4:Nat)):=cell_of_row _ _ 11 _ _ _ K0;have F12:wr.cell? ⟨w.heap.size,12,none⟩=some (.int .u16 (a.x5:Nat)):=cell_of_row _ _ 12 _ _ _ K0;have F13:wr.cell? ⟨w.heap.size,13,none⟩=some (.int .u16 (a.x6:Nat)):=cell_of_row _ _ 13 _ _ _ K0;have F14:wr.cell? ⟨w.heap.size,14,none⟩=some (.int .u16 (a.x7:Nat)):=cell_of_row _ _ 14 _ _ _ K0;have F15:wr.cell? ⟨w.heap.size,15,none⟩=some (.bool a.hp):=cell_of_row _ _ 15 _ _ _ K0;have F16:wr.cell? ⟨w.heap.size,16,none⟩=some (.int .u16 (a.pr:Nat)):=cell_of_row _ _ 16 _ _ _ K0;have F17:wr.cell? ⟨w.heap.size,17,none⟩=some (.bool a.op):=cell_of_row _ _ 17 _ _ _ K0;have F19:wr.cell? ⟨w.heap.size,19,none⟩=some (.string a.bo):=cell_of_row _ _ 19 _ _ _ K0;have F20:wr.cell? ⟨w.heap.size,20,none⟩=some (.bool a.hq):=cell_of_row _ _ 20 _ _ _ K0;have F21:wr.cell? ⟨w.heap.size,21,none⟩=some (.string a.qu):=cell_of_row _ _ 21 _ _ _ K0;have F22:wr.cell? ⟨w.heap.size,22,none⟩=some (.bool a.hf):=cell_of_row _ _ 22 _ _ _ K0;have F23:wr.cell? ⟨w.heap.size,23,none⟩=some (.string a.fg):=cell_of_row _ _ 23 _ _ _ K0;have D0:wr.cell? ⟨(w.heap.size+1),0,none⟩=some (.string a.sc):=cell_of_row _ _ 0 _ _ _ K1;have D1:wr.cell? ⟨(w.heap.size+1),1,none⟩=some (.string a.us):=cell_of_row _ _ 1 _ _ _ K1;have D2:wr.cell? ⟨(w.heap.size+1),2,none⟩=some (.string a.pa):=cell_of_row _ _ 2 _ _ _ K1;have D3:wr.cell? ⟨(w.heap.size+1),3,none⟩=some (.bool a.hh):=cell_of_row _ _ 3 _ _ _ K1;have D4:wr.cell? ⟨(w.heap.size+1),4,none⟩=some (.int .u8 (a.k:Nat)):=cell_of_row _ _ 4 _ _ _ K1;have D5:wr.cell? ⟨(w.heap.size+1),5,none⟩=some (.string a.nm):=cell_of_row _ _ 5 _ _ _ K1;have D6:wr.cell? ⟨(w.heap.size+1),6,none⟩=some (.int .u32 (a.f:Nat)):=cell_of_row _ _ 6 _ _ _ K1;have D7:wr.cell? ⟨(w.heap.size+1),7,none⟩=some (.int .u16 (a.x0:Nat)):=cell_of_row _ _ 7 _ _ _ K1;have D8:wr.cell? ⟨(w.heap.size+1),8,none⟩=some (.int .u16 (a.x1:Nat)):=cell_of_row _ _ 8 _ _ _ K1;have D9:wr.cell? ⟨(w.heap.size+1),9,none⟩=some (.int .u16 (a.x2:Nat)):=cell_of_row _ _ 9 _ _ _ K1;have D10:wr.cell? ⟨(w.heap.size+1),10,none⟩=some (.int .u16 (a.x3:Nat)):=cell_of_row _ _ 10 _ _ _ K1;have D11:wr.cell? ⟨(w.heap.size+1),11,none⟩=some (.int .u16 (a.x4:Nat)):=cell_of_row _ _ 11 _ _ _ K1;have D12:wr.cell? ⟨(w.heap.size+1),12,none⟩=some (.int .u16 (a.x5:Nat)):=cell_of_row _ _ 12 _ _ _ K1;have D13:wr.cell? ⟨(w.heap.size+1),13,none⟩=some (.int .u16 (a.x6:Nat)):=cell_of_row _ _ 13 _ _ _ K1;have D14:wr.cell? ⟨(w.heap.size+1),14,none⟩=some (.int .u16 (a.x7:Nat)):=cell_of_row _ _ 14 _ _ _ K1;have D15:wr.cell? ⟨(w.heap.size+1),15,none⟩=some (.bool a.hp):=cell_of_row _ _ 15 _ _ _ K1;have D16:wr.cell? ⟨(w.heap.size+1),16,none⟩=some (.int .u16 (a.pr:Nat)):=cell_of_row _ _ 16 _ _ _ K1;have D17:wr.cell? ⟨(w.heap.size+1),17,none⟩=some (.bool a.op):=cell_of_row _ _ 17 _ _ _ K1;have D19:wr.cell? ⟨(w.heap.size+1),19,none⟩=some (.string a.bo):=cell_of_row _ _ 19 _ _ _ K1;have D20:wr.cell? ⟨(w.heap.size+1),20,none⟩=some (.bool a.hq):=cell_of_row _ _ 20 _ _ _ K1;have D21:wr.cell? ⟨(w.heap.size+1),21,none⟩=some (.string a.qu):=cell_of_row _ _ 21 _ _ _ K1;have D22:wr.cell? ⟨(w.heap.size+1),22,none⟩=some (.bool a.hf):=cell_of_row _ _ 22 _ _ _ K1;have D23:wr.cell? ⟨(w.heap.size+1),23,none⟩=some (.string a.fg):=cell_of_row _ _ 23 _ _ _ K1;have EH:∀ W,(binOp .eql 26 (H.hv (a.k:Nat) a.nm (a.f:Nat) (a.x0:Nat) (a.x1:Nat) (a.x2:Nat) (a.x3:Nat) (a.x4:Nat) (a.x5:Nat) (a.x6:Nat) (a.x7:Nat)) (H.hv (a.k:Nat) a.nm (a.f:Nat) (a.x0:Nat) (a.x1:Nat) (a.x2:Nat) (a.x3:Nat) (a.x4:Nat) (a.x5:Nat) (a.x6:Nat) (a.x7:Nat))).run prog W=.ok (.bool true) W:=fun W=>by rw[H.eZ,H.fa]
   have SE:∀ s:ByteArray,(s.toList==s.toList)=true:=fun s=>aS rfl;clear K0 K1 R0 R1 RP E1 E2 EB;go_wp2;go_ret;exact⟨rfl,HW.out.2⟩
def Vis(l:List Int):Prop:=∀ c∈l,33<=c/\c<=126
theorem Vis.app{a b:List Int}(ha:Vis a)(hb:Vis b):Vis (a++b):=fun c hc=>(List.mem_append.1 hc).elim (ha c) (hb c)
theorem Vis.cons{c:Int}{b:List Int}(h0:33<=c)(h1:c<=126)(hb:Vis b):Vis (c::b):=fun d hd=>by
 rcases List.mem_cons.1 hd with rfl | hd
 ·exact⟨h0,h1⟩
 ·exact hb d hd
theorem Vis.nil:Vis []:=fun c hc=>by simp at hc
theorem eO{l:List Int}(h:hqy l=none)(a b:H.Hst):rdc l a=rdc l b:=by
 unfold hqy at h;unfold rdc;cases hs:sch l with
 | none=>rfl
 | some mr =>
  obtain⟨m,r⟩:=mr;rw[hs]at h;simp only at h ⊢;by_cases hf:m=cA
  ·rw[if_pos hf,if_pos hf]
  ·rw[if_neg hf]at h ⊢;rw[if_neg hf];cases ha:aus m r with
   | none=>rfl
   | some q =>
    rw[ha]at h;simp only at h ⊢;have hn:ask (own m).isSome (q.takeWhile (nau (own m).isSome))=none:=by simpa using h
    have e:∀ z:H.Hst,ath m (q.takeWhile (nau (own m).isSome)) z=(zu,70):=fun z=>by unfold ath;rw[if_pos hn]
    rw[e a,e b]
theorem UP.one{A:List Int->List Int->Int->Prop}(hA:H.Asc A){s:List Int}{r q:Ur×Int}(x:UP A s r)(y:UP A s q):r=q:=by
 unfold UP at x y;split at x
 ·rename_i c;rw[if_pos c]at y;rw[x,y]
 ·rename_i c;rw[if_neg c]at y;obtain⟨h,h1,rfl⟩:=x;obtain⟨k,k1,rfl⟩:=y;cases hq:hqy (cln s) with
  | none=>exact eO hq h k
  | some z =>
   obtain⟨t,sp⟩:=z;rw[H.HP.one hA (h1 t sp hq) (k1 t sp hq)]
def ntb(c:Int):Bool:=!tab c
theorem kc{c:Int}(h:ntb c=false):blk c=true:=by unfold ntb tab at h;simp at h;unfold blk;exact decide_eq_true (by omega)
theorem bC:∀ l:List Int,(l.filter ntb).dropWhile blk=(l.dropWhile blk).filter ntb
 | []=>rfl
 | c::l=>by
  by_cases hb:blk c=true
  ·rw[List.dropWhile_cons_of_pos hb,<-bC l];by_cases hn:ntb c=true
   ·rw[List.filter_cons_of_pos hn,List.dropWhile_cons_of_pos hb]
   ·rw[List.filter_cons_of_neg hn]
  ·have hn:ntb c=true:=by
    cases h:ntb c with
    | true=>rfl
    | false=>exact absurd (kc h) hb
   rw[List.dropWhile_cons_of_neg hb,List.filter_cons_of_pos hn,List.dropWhile_cons_of_neg hb]
theorem dr(l:List Int):(strip l).filter ntb=strip (l.filter ntb):=by unfold strip;rw[List.filter_reverse,<-bC,List.filter_reverse,<-bC]
theorem jR(s:List Int):cln s=U.aj (strip ((U.dec s).filter ntb)):=by rw[<-dr];rfl
end Y
namespace H
open F (bn)
def w1:ByteArray:=⟨#[69,88,65,77,80,76,69,46,99,111,109]⟩
def x1:ByteArray:=⟨#[101,120,97,109,112,108,101,46,99,111,109]⟩
theorem hp1{A:List Int->List Int->Int->Prop}(hA:Asc A):HP A (bn w1) true (1,bn x1,0,z8,0):=by unfold HP;rw[if_neg (by decide),if_neg (by decide),if_neg (by decide)];exact⟨bn x1,0,by rw[show E.de (bn w1)=[69,88,65,77,80,76,69,46,99,111,109] by decide];exact hA.cap,by decide +kernel⟩
end H
namespace U
def IsRow(k:IntKind)(w:World)(a:Option Addr)(len cap:Nat)(zs:List Int):Prop :=
 (a=none/\len=0/\cap=0/\zs=[]) \/
 ∃ x,a=some x/\len<=cap/\cap<=maxLen/\zs.length=cap/\(∀ i,i<zs.length->w.cell? (x.add i)=some (.int k (zs.getD i 0)))/\∀ n∈zs,(Lit.int k n).wf=true
theorem rK{k:IntKind}{w:World}{a:Option Addr}{len cap:Nat}{zs:List Int}(h:IsRow k w a len cap zs):len<=maxLen:=by
 rcases h with⟨_,rfl,_,rfl⟩ | ⟨x,_,hl,hm,_⟩
 ·exact zero_le _
 ·omega
end U
namespace I
theorem kz(c:Int)(b:List Int)(hc:c<128):∀(f:Nat) (t:List Int) (n:Nat) (r lo hi:Int),128<=lo->U.nxl f (t++c::b) n r lo hi=U.nxl f t n r lo hi
 | 0,t,n,r,lo,hi,_=>by simp[U.nxl]
 | f+1,[],n,r,lo,hi,h=>by
  show(if c<lo\/hi<c then ((65533:Int),n,false) else U.nxl f b (n+1) (r * 64+c % 64) 128 191)=(65533,n,false);rw[if_pos (.inl (by omega))]
 | f+1,a::t,n,r,lo,hi,h=>by
  show U.nxl (f+1) (a::(t++c::b)) n r lo hi=_;rw[U.nxl,U.nxl];split
  ·rfl
  ·exact kz c b hc f t _ _ _ _ (by omega)
theorem xr(c:Int)(b a:List Int)(hc:c<128)(h:a≠[]):U.nx (a++c::b)=U.nx a:=by
 cases a with
 | nil=>exact absurd rfl h
 | cons x t =>
  show U.nx (x::(t++c::b))=_;rw[U.nx,U.nx];split
  ·rfl
  ·split
   ·rfl
   ·exact kz c b hc _ t _ _ _ _ (U.fO x)
theorem fu(c:Int)(b:List Int)(h0:0<=c)(hc:c<128)(hb:U.Bytes b):∀(n:Nat) (a:List Int),a.length<=n->U.Bytes a->U.dec (a++c::b)=U.dec a++c::U.dec b
 | n,[],_,_=>by
  have hB:U.Bytes (c::b):=fun x hx=>by
   rcases List.mem_cons.1 hx with rfl | hx
   ·omega
   ·exact hb x hx
  rw[nil_append,U.aO (c::b) (by simp) hB,U.jw c b hc,U.bL];rfl
 | 0,x::t,h,_=>by simp at h
 | n+1,x::t,h,hB=>by
  have hB2:U.Bytes ((x::t)++c::b):=fun y hy=>by
   rcases List.mem_append.1 hy with hy | hy
   ·exact hB y hy
   ·rcases List.mem_cons.1 hy with rfl | hy
    ·omega
    ·exact hb y hy
  have hn:=U.iy (x::t) (by simp)
  rw[U.aO _ (by simp) hB2,xr c b (x::t) hc (by simp),U.aO (x::t) (by simp) hB,List.drop_append_of_le_length hn.2,
    fu c b h0 hc hb n _ (by rw[List.length_drop];simp at h ⊢;omega) (hB.drop _)]
  rfl
end I
namespace Y
open F (bn ak hid)
theorem Ctr.cpIs{A:List Int->List Int->Int->Prop}{G:World->Prop}(C:Ctr A G){s:ByteArray}{u:Ur}{er:Int}(hs:s.size<=100000)(x:UP A (bn s) (u,er))(W:World)(hG:G W):
  Calls prog 11 #[.string s] W fun e W'=>(∃ a,Lim u/\At W' a u/\e=.returned (.tuple #[.agg (Us.cs a),.int .i64 er]))/\Below W.heap.size W W' :=
 (C.cp s W hs hG).mono (by
   rintro e W' ⟨⟨a,v,k,y,hl,ha,rfl⟩,hB⟩
   have h:=UP.one C.asc x y
   obtain⟨rfl,rfl⟩:=Prod.mk.inj h
   exact⟨⟨a,hl,ha,rfl⟩,hB⟩)
theorem eP{w:World}{a:Us}{u:Ur}(h:At w a u):∃ ad n c,a={ a with pv:=.slice ad n c }:=by obtain⟨ps,_,hs⟩:=h.pv;obtain⟨ad,c,e,_⟩:=hs.form;exact⟨ad,ps.length,c,by rw[<-e]⟩
theorem aR{w:World}{a:Us}{u:Ur}(h:At w a u):(Us.cs a).all (·.oneCell')=true:=by obtain⟨ad,n,c,e⟩:=eP h;rw[e];exact Aq a ad n c
theorem cV(W:World)(a:Us):((W.alloc (.cells zc 29)).setRow W.heap.size (Us.cs a)).heap[W.heap.size]? = some (.cells (Us.cs a) 29 (0,0))/\Below W.heap.size W ((W.alloc (.cells zc 29)).setRow W.heap.size (Us.cs a)) :=
 ⟨setRow_heap _ _ _ _ _ _ (aA W _ _),cS ((Below.refl _ W).alloc (le_refl _) _) (le_refl _) _⟩
theorem aK{P:Program}{ops:Array Oper}{Q:Exit->Act->World->Prop}{a:Act}{w:World}{rest:List Oper}{o:Oper}
  (hw:Region.wanted o (yielded ops a.tmps)=true) (h:wpList P ops Q ({ o with guard:=none }::rest) a w):wpList P ops Q (o::rest) a w:=by
 have h0:Region.wanted { o with guard:=none } (yielded ops a.tmps)=true:=rfl;simp only[wpList,h0,hw,if_true]at h ⊢;exact h
def k1:ByteArray:=⟨#[72,84,84,80,58,92,92,85,115,101,114,64,69,88,65,77,80,76,69,46,99,111,109,58,56,48,47,97,47,46,46,47,98,63,113,35,102]⟩
def k2:ByteArray:=⟨#[102,111,111,58,47,46,47,47,112]⟩
def k3:ByteArray:=⟨#[104,116,116,112,58,47,47,97,58,57,57,57,57,57]⟩
def k4:ByteArray:=⟨#[49,97,58,98]⟩
def u1:Ur:={ zu with sch:=om,usr:=[85,115,101,114],hh:=true,hst:=(1,[101,120,97,109,112,108,101,46,99,111,109],0,H.z8),pth:=[[98]],hq:=true,qry:=[113],hf:=true,frg:=[102] }
def u2:Ur:={ zu with sch:=[102,111,111],pth:=[[],[112]] }
theorem up1{A:List Int->List Int->Int->Prop}(hA:H.Asc A):UP A (bn k1) (u1,0):=by
 unfold UP;rw[if_neg (by decide)];have hc:cln (bn k1)=bn k1:=by decide +kernel
 rw[hc];have hq:hqy (bn k1)=some ([69,88,65,77,80,76,69,46,99,111,109],true):=by decide +kernel
 refine⟨(1,[101,120,97,109,112,108,101,46,99,111,109],0,H.z8,0),fun x sp hx=>?_,by kernel_rfl⟩;rw[hq]at hx;cases hx;exact H.hp1 hA
theorem up2{A:List Int->List Int->Int->Prop}:UP A (bn k2) (u2,0):=by
 unfold UP;rw[if_neg (by decide)];have hc:cln (bn k2)=bn k2:=by decide +kernel
 rw[hc];have hq:hqy (bn k2)=none:=by decide +kernel
 exact⟨H.non 0,(fun x sp hx=>by rw[hq]at hx;cases hx),by kernel_rfl⟩
theorem up3{A:List Int->List Int->Int->Prop}(hA:H.Asc A):UP A (bn k3) (zu,131):=by
 unfold UP;rw[if_neg (by decide)];have hc:cln (bn k3)=bn k3:=by decide +kernel
 rw[hc];have hq:hqy (bn k3)=some ([97],true):=by decide +kernel
 refine⟨(1,[97],0,H.z8,0),fun x sp hx=>?_,by kernel_rfl⟩;rw[hq]at hx;cases hx;unfold H.HP;rw[if_neg (by decide),if_neg (by decide),if_neg (by decide)];exact⟨[97],0,by rw[show E.de [97]=[97] by decide];exact hA.num (by decide),by decide +kernel⟩
theorem up4{A:List Int->List Int->Int->Prop}:UP A (bn k4) (zu,130):=by
 unfold UP;rw[if_neg (by decide)];have hc:cln (bn k4)=bn k4:=by decide +kernel
 rw[hc];have hq:hqy (bn k4)=none:=by decide +kernel
 exact⟨H.non 0,(fun x sp hx=>by rw[hq]at hx;cases hx),by kernel_rfl⟩
theorem dC{A:List Int->List Int->Int->Prop}{G:World->Prop}(C:Ctr A G)(w:World)(hG:G w):Calls prog 10 #[] w fun e W'=>e=.returned (.bool true)/\Below w.heap.size w W':=by
 have HK:Hid (∀ W,Below w.heap.size w W->G W):=fun W h=>C.keep w W hG h;have P1:=hid (fun W h=>C.cpIs (s:=k1) (by decide) (up1 C.asc) W h);have P2:=hid (fun W h=>C.cpIs (s:=k2) (by decide) up2 W h);have P3:=hid (fun W h=>C.cpIs (s:=k3) (by decide) (up3 C.asc) W h);have P4:=hid (fun W h=>C.cpIs (s:=k4) (by decide) up4 W h);have P5:Hid (∀ W,G W->Calls prog 13 #[.string ⟨#[119,115,115]⟩] W fun e W'=>e=.returned (.tuple #[.int .u16 443,.bool true])/\Below W.heap.size W W'):=fun W h=>C.cq ⟨#[119,115,115]⟩ W (by decide) h
 have T1:Hid (∀ W a,At W a u1->Lim u1->G W->Calls prog 16 #[.agg (Us.cs a)] W fun e W'=>e=.returned (.string ⟨#[104,116,116,112,58,47,47,85,115,101,114,64,101,120,97,109,112,108,101,46,99,111,109,47,98,63,113,35,102]⟩)/\Below W.heap.size W W'):=fun W a h l g=>(C.ct a u1 W h l g).mono (by
   rintro e W' ⟨⟨t,rfl,ht⟩,hB⟩
   obtain rfl:t=⟨#[104,116,116,112,58,47,47,85,115,101,114,64,101,120,97,109,112,108,101,46,99,111,109,47,98,63,113,35,102]⟩:=ak (ht.trans (by decide +kernel))
   exact⟨rfl,hB⟩)
 have T2:Hid (∀ W a,At W a u2->Lim u2->G W->Calls prog 16 #[.agg (Us.cs a)] W fun e W'=>e=.returned (.string ⟨#[102,111,111,58,47,46,47,47,112]⟩)/\Below W.heap.size W W'):=fun W a h l g=>(C.ct a u2 W h l g).mono (by
   rintro e W' ⟨⟨t,rfl,ht⟩,hB⟩
   obtain rfl:t=⟨#[102,111,111,58,47,46,47,47,112]⟩:=ak (ht.trans (by decide +kernel))
   exact⟨rfl,hB⟩)
 have T3:Hid (∀ W a,At W a u2->Lim u2->G W->Calls prog 19 #[.agg (Us.cs a)] W fun e W'=>e=.returned (.string ⟨#[47,47,112]⟩)/\Below W.heap.size W W'):=fun W a h l g=>(C.ch a u2 W h l g).mono (by
   rintro e W' ⟨⟨t,rfl,ht⟩,hB⟩
   obtain rfl:t=⟨#[47,47,112]⟩:=ak (ht.trans (by decide +kernel))
   exact⟨rfl,hB⟩)
 unfold k1 at P1;unfold k2 at P2;unfold k3 at P3;unfold k4 at P4;have HB:Hid (Below w.heap.size w w):=Below.refl _ _;clear C hG;go_enter func10,ntmps10;go_wp2_with fail;refine(P1.out _ (HK.out _ HB.out)).mono ?_;rintro e v1 ⟨⟨a1,hl1,ha1,rfl⟩,B⟩;replace HB:=Bt' HB B;have X1:=hid (aA v1 zc 29);have O1:=hid (aR ha1);obtain⟨pk,pb⟩:=cV v1 a1;have R1:=hid pk;replace HB:=Bt' HB pb;have AT1:=hid (ha1.below pb);have LM1:=hid hl1;obtain⟨q1,hq1⟩:=Ex' ((v1.alloc (.cells zc 29)).setRow v1.heap.size (Us.cs a1));rw[hq1]at R1 HB AT1;clear ha1 hl1 pk pb B;go_wp2_with(refine wpList_store_row rfl 29 (.tmp 1) (.tmp 13) rfl v1.heap.size (Us.cs a1) rfl rfl 29 zc X1.out (aL a1) rfl O1.out ?_);refine(P2.out _ (HK.out _ HB.out)).mono ?_;rintro e v2 ⟨⟨a2,hl2,ha2,rfl⟩,B⟩;replace HB:=Bt' HB B;replace R1:=hid (kept R1.out B);replace AT1:=hid (AT1.out.below B);have X2:=hid (aA v2 zc 29);have O2:=hid (aR ha2);obtain⟨pk,pb⟩:=cV v2 a2;have R2:=hid pk;replace HB:=Bt' HB pb;have AT2:=hid (ha2.below pb);have LM2:=hid hl2;replace R1:=hid (kept R1.out pb);replace AT1:=hid (AT1.out.below pb);obtain⟨q2,hq2⟩:=Ex' ((v2.alloc (.cells zc 29)).setRow v2.heap.size (Us.cs a2));rw[hq2]at R1 AT1 R2 HB AT2;clear ha2 hl2 pk pb B;go_wp2_with(refine wpList_store_row rfl 29 (.tmp 3) (.tmp 17) rfl v2.heap.size (Us.cs a2) rfl rfl 29 zc X2.out (aL a2) rfl O2.out ?_);refine(P3.out _ (HK.out _ HB.out)).mono ?_;rintro e v3 ⟨⟨a3,hl3,ha3,rfl⟩,B⟩;replace HB:=Bt' HB B;replace R1:=hid (kept R1.out B);replace AT1:=hid (AT1.out.below B);replace R2:=hid (kept R2.out B);replace AT2:=hid (AT2.out.below B);have X3:=hid (aA v3 zc 29);have O3:=hid (aR ha3);obtain⟨pk,pb⟩:=cV v3 a3;have R3:=hid pk;replace HB:=Bt' HB pb;have AT3:=hid (ha3.below pb);have LM3:=hid hl3;replace R1:=hid (kept R1.out pb);replace AT1:=hid (AT1.out.below pb);replace R2:=hid (kept R2.out pb);replace AT2:=hid (AT2.out.below pb);obtain⟨q3,hq3⟩:=Ex' ((v3.alloc (.cells zc 29)).setRow v3.heap.size (Us.cs a3));rw[hq3]at R1 AT1 R2 AT2 R3 HB AT3;clear ha3 hl3 pk pb B;go_wp2_with(refine wpList_store_row rfl 29 (.tmp 5) (.tmp 21) rfl v3.heap.size (Us.cs a3) rfl rfl 29 zc X3.out (aL a3) rfl O3.out ?_);refine(P4.out _ (HK.out _ HB.out)).mono ?_;rintro e v4 ⟨⟨a4,hl4,ha4,rfl⟩,B⟩;replace HB:=Bt' HB B;replace R1:=hid (kept R1.out B);replace AT1:=hid (AT1.out.below B);replace R2:=hid (kept R2.out B);replace AT2:=hid (AT2.out.below B);have X4:=hid (aA v4 zc 29);have O4:=hid (aR ha4);obtain⟨pk,pb⟩:=cV v4 a4;have R4:=hid pk;replace HB:=Bt' HB pb;have AT4:=hid (ha4.below pb);have LM4:=hid hl4;replace R1:=hid (kept R1.out pb);replace AT1:=hid (AT1.out.below pb);replace R2:=hid (kept R2.out pb);replace AT2:=hid (AT2.out.below pb);obtain⟨q4,hq4⟩:=Ex' ((v4.alloc (.cells zc 29)).setRow v4.heap.size (Us.cs a4));rw[hq4]at R1 AT1 R2 AT2 R4 HB AT4;clear ha4 hl4 pk pb B;go_wp2_with(refine wpList_store_row rfl 29 (.tmp 7) (.tmp 25) rfl v4.heap.size (Us.cs a4) rfl rfl 29 zc X4.out (aL a4) rfl O4.out ?_);refine(P5.out _ (HK.out _ HB.out)).mono ?_;rintro e v5 ⟨rfl,B⟩;replace R1:=hid (kept R1.out B);replace AT1:=hid (AT1.out.below B);replace R2:=hid (kept R2.out B);replace AT2:=hid (AT2.out.below B);replace HB:=Bt' HB B;clear B P1 P2 P3 P4 P5 X1 X2 X3 X4 O1 O2 O3 O4 R3 R4 AT3 AT4 LM3 LM4 hq1 hq2 hq3 hq4;go_wp2_with(refine aK (by rfl) ?_;refine wpList_load_row rfl 29 (.tmp 1) rfl v1.heap.size rfl 29 (Us.cs a1) (0,0) _ R1.out underlying29 rfl (aL a1) ?_);refine(T1.out _ a1 AT1.out LM1.out (HK.out _ HB.out)).mono ?_;rintro e v6 ⟨rfl,B⟩;replace R2:=hid (kept R2.out B);replace AT2:=hid (AT2.out.below B);replace HB:=Bt' HB B;clear B T1 R1 AT1;go_wp2_with(refine aK (by rfl) ?_;refine wpList_load_row rfl 29 (.tmp 3) rfl v2.heap.size rfl 29 (Us.cs a2) (0,0) _ R2.out underlying29 rfl (aL a2) ?_);refine(T2.out _ a2 AT2.out LM2.out (HK.out _ HB.out)).mono ?_;rintro e v7 ⟨rfl,B⟩;replace R2:=hid (kept R2.out B);replace AT2:=hid (AT2.out.below B);replace HB:=Bt' HB B;clear B T2;go_wp2_with(refine aK (by rfl) ?_;refine wpList_load_row rfl 29 (.tmp 3) rfl v2.heap.size rfl 29 (Us.cs a2) (0,0) _ R2.out underlying29 rfl (aL a2) ?_);refine(T3.out _ a2 AT2.out LM2.out (HK.out _ HB.out)).mono ?_;rintro e v8 ⟨rfl,B⟩;replace HB:=Bt' HB B;clear B T3 R2 AT2;go_wp2;go_ret;exact⟨rfl,HB.out⟩
open F (bn aa hid)
theorem dN{w:World}{a b:Us}{u:Ur}(h:At w a u)(k:At w b u)(hl:Lim u):Calls prog 15 #[.agg (Us.cs a),.agg (Us.cs b)] w fun e W'=>e=.returned (.bool true)/\Below w.heap.size w W':=by obtain⟨ps,e1,s1⟩:=h.pv;obtain⟨qs,e2,s2⟩:=k.pv;obtain rfl:ps=qs:=dD (w:=w) (v:=a.pv) (v':=b.pv) (e1.trans e2.symm);rw[h.same k];refine eN a b.pv ps w s1 s2 ?_;have:=hl.2.2.2.2.2.2;rw[<-e1,List.length_map]at this;exact this
def nz(c:Int):Int:=if c=92 then 47 else c
theorem nV{l:List Int}(h:92∉l):l.map nz=l:=by refine(List.map_congr_left (g:=id) (fun c hc=>?_)).trans (map_id l);unfold nz;rw[if_neg (fun e:c=92=>h (e ▸ hc))];rfl
theorem Fu{l:List Int}(h:U.Bytes l):U.Bytes (l.map nz):=fun b hb=>by obtain⟨c,hc,rfl⟩:=List.mem_map.1 hb;have:=h c hc;unfold nz;split <;> omega
theorem Ii:∀(n:Nat) (l:List Int),l.length<=n->U.Bytes l->U.dec (l.map nz)=(U.dec l).map nz:=by
 intro n
 induction n with
 | zero=>intro l hn _;rw[List.length_eq_zero_iff.1 (Nat.le_zero.1 hn)];simp[U.bL]
 | succ n ih =>
  intro l hn hl;by_cases h:92∈l
  ·obtain⟨a,b,rfl,ha⟩:=List.eq_append_cons_of_mem h;have hba:U.Bytes a:=fun c hc=>hl c (by simp[hc]);have hbb:U.Bytes b:=fun c hc=>hl c (by simp[hc]);have e:(a++92::b).map nz=a++47::b.map nz:=by rw[map_append,nV ha];rfl
   have hda:92∉U.dec a:=fun hm=>ha (H.da a.length a (le_refl _) hba 92 hm (by decide));rw[e,I.fu 47 _ (by decide) (by decide) (Fu hbb) a.length a (le_refl _) hba,I.fu 92 b (by decide) (by decide) hbb a.length a (le_refl _) hba,ih b (by simp at hn;omega) hbb,map_append,nV hda];rfl
  ·rw[nV h,nV (fun hm=>h (H.da l.length l (le_refl _) hl 92 hm (by decide)))]
def ic(x:List Int):List Int:=(x.reverse.dropWhile blk).reverse
def cr(x:List Int):List Int:=U.aj (ic ((U.dec x).filter ntb))
theorem kf{p x:List Int}(h:∀ c,p.getLast? = some c->33<=c)(hp:p≠[]):ic (p++x)=p++ic x:=by
 unfold ic;rw[List.reverse_append];cases hx:x.reverse.dropWhile blk with
 | nil =>
  have hall:∀ c∈x.reverse,blk c=true:=by have:=List.takeWhile_append_dropWhile (p:=blk) (l:=x.reverse);rw[hx,List.append_nil]at this;intro c hc;rw[<-this]at hc;exact(cg hc).1
  rw[List.dropWhile_append_of_pos hall];cases hr:p.reverse with
  | nil=>exact absurd (List.reverse_eq_nil_iff.1 hr) hp
  | cons c t =>
   have hc:=h c (by rw[<-List.head?_reverse,hr];rfl);rw[List.dropWhile_cons_of_neg (by unfold blk;simp;omega),<-hr];simp
 | cons c t =>
  rw[List.dropWhile_append,hx];simp
theorem qT:∀ {p x:List Int},(∀ c∈p,0<=c/\c<128)->U.Bytes x->U.dec (p++x)=p++U.dec x
 | [],x,_,_=>rfl
 | c::p,x,h,hx=>by
  have hc:=h c (by simp)
  have hb:U.Bytes (p++x):=fun b hb=>by
   rcases List.mem_append.1 hb with hb | hb
   ·have:=h b (by simp[hb]);omega
   ·exact hx b hb
  have:=I.fu c (p++x) hc.1 hc.2 hb 0 [] (le_refl _) (fun b hb=>by simp at hb);rw[nil_append,U.bL,nil_append]at this;show U.dec (c::(p++x))=_;rw[this,qT (fun d hd=>h d (by simp[hd])) hx];rfl
theorem Vis.ntb{p:List Int}(h:Vis p):p.filter Y.ntb=p:=by rw[List.filter_eq_self];intro c hc;have:=h c hc;unfold Y.ntb tab;simp;omega
theorem du(a b:List Int):U.aj (a++b)=U.aj a++U.aj b:=by show(a++b).flatMap U.enc=a.flatMap U.enc++b.flatMap U.enc;simp
theorem MY{p x:List Int}(hp:Vis p)(hne:p≠[])(hx:U.Bytes x):cln (p++x)=p++cr x:=by
 rw[jR,qT (fun c hc=>by have:=hp c hc;omega) hx,List.filter_append,hp.ntb]
 have hs:strip (p++(U.dec x).filter Y.ntb)=p++ic ((U.dec x).filter Y.ntb):=by
  rw[<-kf (fun c hc=>(hp c (List.mem_of_getLast? hc)).1) hne];unfold strip ic;congr 3;cases p with
  | nil=>exact absurd rfl hne
  | cons c t =>
   have:=hp c (by simp);rw[List.cons_append,List.dropWhile_cons_of_neg (by unfold blk;simp;omega)]
 rw[hs,du,E.bj (fun c hc=>by have:=hp c hc;omega)];rfl
def Sr(x y:List Int):Prop:=∃ u v r,x=u++r/\y=v++r/\u.map nz=v.map nz/\(∀ c∈u,qm c=false)/\(∀ c∈v,qm c=false)/\(r=[]\/∃ d t,r=d::t/\qm d=true)
theorem PA(c:Int):blk (nz c)=blk c:=by unfold nz blk;split <;> (try rename_i h;rw[h]) <;> rfl
theorem rV(c:Int):Y.ntb (nz c)=Y.ntb c:=by unfold nz;split <;> (try rename_i h;rw[h]) <;> rfl
theorem eU{f:Int->Bool}(h:∀ c,f (nz c)=f c):∀ l:List Int,(l.map nz).filter f=(l.filter f).map nz
 | []=>rfl
 | c::l=>by rw[map_cons,List.filter_cons,List.filter_cons,h c,eU h l];split <;> rfl
theorem map_drop{f:Int->Bool}(h:∀ c,f (nz c)=f c):∀ l:List Int,(l.map nz).dropWhile f=(l.dropWhile f).map nz
 | []=>rfl
 | c::l=>by rw[map_cons,List.dropWhile_cons,List.dropWhile_cons,h c,map_drop h l];split <;> rfl
theorem map_take{f:Int->Bool}(h:∀ c,f (nz c)=f c):∀ l:List Int,(l.map nz).takeWhile f=(l.takeWhile f).map nz
 | []=>rfl
 | c::l=>by rw[map_cons,List.takeWhile_cons,List.takeWhile_cons,h c,map_take h l];split <;> rfl
theorem uA(l:List Int):ic (l.map nz)=(ic l).map nz:=by unfold ic;rw[<-List.map_reverse,map_drop PA,List.map_reverse]
theorem Qt{c:Int}(h:U.ab c=true):U.enc (nz c)=(U.enc c).map nz:=by
 by_cases h92:c=92
 ·rw[h92];decide
 ·have e:nz c=c:=by unfold nz;rw[if_neg h92]
  rw[e,nV];intro hm;by_cases hc:c<128
  ·rw[E.bR hc]at hm;exact h92 (List.mem_singleton.1 hm).symm
  ·have hb:=E.aN h;unfold U.enc at hm;rw[if_neg hc]at hm;split at hm
   ·simp at hm;omega
   ·split at hm
    ·simp at hm;omega
    ·simp at hm;omega
theorem kI:∀ {l:List Int},(∀ c∈l,U.ab c=true)->U.aj (l.map nz)=(U.aj l).map nz
 | [],_=>rfl
 | c::l,h=>by
  have e:∀(d:Int) (t:List Int),U.aj (d::t)=U.enc d++U.aj t:=fun d t=>by show(d::t).flatMap U.enc=_++t.flatMap U.enc;simp
  rw[map_cons,e,e,map_append,Qt (h c (by simp)),kI (fun d hd=>h d (by simp[hd]))]
theorem oP{L:List Int}(h:∀ c∈L,U.ab c=true){y:Int}(hy:y∈U.aj L)(h128:y<128):y∈L:=by
 obtain⟨c,hc,hyc⟩:=List.mem_flatMap.1 (show y∈L.flatMap U.enc from hy);by_cases hlow:c<128
 ·rw[E.bR hlow]at hyc;rw[List.mem_singleton.1 hyc];exact hc
 ·have hb:=E.aN (h c hc);unfold U.enc at hyc;rw[if_neg hlow]at hyc;split at hyc
  ·simp at hyc;omega
  ·split at hyc
   ·simp at hyc;omega
   ·simp at hyc;omega
theorem ke{x:List Int}{c:Int}(h:c∈ic x):c∈x:=by unfold ic at h;exact List.mem_reverse.1 (dJ (List.mem_reverse.1 h))
theorem gG{c:Int}(h:qm c=true):c=63\/c=35:=by unfold qm at h;simpa using h
theorem gW{x:List Int}(hb:U.Bytes x):∀ c∈U.dec x,U.ab c=true:=List.all_eq_true.1 (U.bJ x.length x (le_refl _) hb)
theorem Ln{u:List Int}(hb:U.Bytes u)(h:∀ c∈u,qm c=false){L:List Int}(hL:∀ c∈L,c∈U.dec u):∀ c∈U.aj L,qm c=false:=fun c hc=>by
 cases hq:qm c with
 | false=>rfl
 | true =>
  have h2:=gG hq;have h1:=oP (fun d hd=>gW hb d (hL d hd)) hc (by omega);have:=h c (H.da u.length u (le_refl _) hb c (hL c h1) (by omega));rw[hq]at this;cases this
theorem Sr.clean{s t:List Int}(hs:U.Bytes s)(ht:U.Bytes t)(h:Sr s t):Sr (cr s) (cr t):=by
 obtain⟨u,v,r,rfl,rfl,hm,hu,hv,hr⟩:=h;have hub:U.Bytes u:=fun c hc=>hs c (by simp[hc]);have hvb:U.Bytes v:=fun c hc=>ht c (by simp[hc]);have hd:(U.dec u).map nz=(U.dec v).map nz:=by rw[<-Ii u.length u (le_refl _) hub,<-Ii v.length v (le_refl _) hvb,hm]
 rcases hr with rfl | ⟨d,r',rfl,hq⟩
 ·refine⟨cr u,cr v,[],by simp,by simp,?_,Ln hub hu (fun c hc=>(List.mem_filter.1 (ke hc)).1),Ln hvb hv (fun c hc=>(List.mem_filter.1 (ke hc)).1),.inl rfl⟩;unfold cr;rw[<-kI (fun c hc=>gW hub c (List.mem_filter.1 (ke hc)).1),<-kI (fun c hc=>gW hvb c (List.mem_filter.1 (ke hc)).1),<-uA,<-uA,<-eU rV,<-eU rV,hd]
 ·have hrb:U.Bytes r':=fun c hc=>hs c (by simp[hc]);have hdd:=gG hq
  have e:∀ w:List Int,U.Bytes w->cr (w++d::r')=U.aj ((U.dec w).filter ntb)++d::cr r':=fun w hw=>by
   unfold cr;have hn:ntb d=true:=by unfold Y.ntb tab;simp;omega
   rw[I.fu d r' (by omega) (by omega) hrb w.length w (le_refl _) hw,List.filter_append,List.filter_cons_of_pos hn]
   rw[show(U.dec w).filter ntb++d::(U.dec r').filter ntb=((U.dec w).filter ntb++[d])++(U.dec r').filter ntb by simp,kf (fun c hc=>by
     have:d=c:=by simpa using hc
     omega) (by simp),du,du]
   rw[show U.aj [d]=[d] from E.bj (fun c hc=>by rw[List.mem_singleton.1 hc];omega)];simp
  refine⟨_,_,d::cr r',e u hub,e v hvb,?_,Ln hub hu (fun c hc=>(List.mem_filter.1 hc).1),Ln hvb hv (fun c hc=>(List.mem_filter.1 hc).1),.inr ⟨d,_,rfl,hq⟩⟩;rw[<-kI (fun c hc=>gW hub c (List.mem_filter.1 hc).1),<-kI (fun c hc=>gW hvb c (List.mem_filter.1 hc).1),<-eU rV,<-eU rV,hd]
theorem Ft(c:Int):sl true (nz c)=sl true c:=by unfold nz;split <;> (try rename_i h;rw[h]) <;> rfl
theorem xp(c:Int):nau true (nz c)=nau true c:=by unfold nz;split <;> (try rename_i h;rw[h]) <;> rfl
theorem Ec:∀ l:List Int,spl (sl true) (l.map nz)=spl (sl true) l
 | []=>rfl
 | c::l=>by
  rw[map_cons,spl,spl,Ft c,Ec l];by_cases h:sl true c=true
  ·rw[if_pos h,if_pos h]
  ·have hc:nz c=c:=by unfold nz;rw[if_neg];intro e;rw[e]at h;exact h (by decide)
   rw[if_neg h,if_neg h,hc]
theorem Rj(l:List Int):un (sl true) (l.map nz)=(un (sl true) l).map nz:=by
 cases l with
 | nil=>rfl
 | cons c t =>
  rw[map_cons,un,un,Ft c];split <;> rfl
theorem Gh(l:List Int):lst true (l.map nz)=lst true l:=by unfold lst;rw[Rj,Ec]
theorem dk{f:Int->Bool}{u r:List Int}(hr:r=[]\/∃ d t,r=d::t/\f d=false):(u++r).takeWhile f=u.takeWhile f/\(u++r).dropWhile f=u.dropWhile f++r:=by
 have e:=List.takeWhile_append_dropWhile (p:=f) (l:=u);cases hd:u.dropWhile f with
 | nil =>
  rw[hd,List.append_nil]at e;have h:=bW (f:=f) (p:=u) (q:=r) (fun c hc=>by rw[<-e]at hc;exact(cg hc).1) hr;rw[h.1,h.2,e];exact⟨rfl,rfl⟩
 | cons c t =>
  have hc:f c=false:=by have:=List.head?_dropWhile_not f u;rw[hd]at this;simpa using this
  have e2:u++r=u.takeWhile f++(c::(t++r)):=by rw[hd]at e;rw[<-List.cons_append,<-List.append_assoc,e]
  have h:=bW (f:=f) (p:=u.takeWhile f) (q:=c::(t++r)) (fun x hx=>(cg hx).1) (.inr ⟨c,_,rfl,hc⟩);rw[e2,h.1,h.2];exact⟨rfl,rfl⟩
theorem Sr.drop{x y:List Int}(h:Sr x y){f:Int->Bool}(hf:∀ c,f (nz c)=f c)(hq:∀ d,qm d=true->f d=false):Sr (x.dropWhile f) (y.dropWhile f):=by obtain⟨u,v,r,rfl,rfl,hm,hu,hv,hr⟩:=h;have hr2:r=[]\/∃ d t,r=d::t/\f d=false:=hr.imp id (fun⟨d,t,e,hd⟩=>⟨d,t,e,hq d hd⟩);refine⟨u.dropWhile f,v.dropWhile f,r,(dk hr2).2,(dk hr2).2,?_,fun c hc=>hu c (dJ hc),fun c hc=>hv c (dJ hc),hr⟩;rw[<-map_drop hf,<-map_drop hf,hm]
theorem Sr.take{x y:List Int}(h:Sr x y):x.takeWhile (nau true)=y.takeWhile (nau true):=by obtain⟨u,v,r,rfl,rfl,hm,hu,hv,hr⟩:=h;have hr2:r=[]\/∃ d t,r=d::t/\nau true d=false:=hr.imp id (fun⟨d,t,e,hd⟩=>⟨d,t,e,by unfold nau;rw[hd];simp⟩);rw[(dk hr2).1,(dk hr2).1];have hn:∀ l:List Int,92∉l.takeWhile (nau true):=fun l hm=>absurd (cg hm).1 (by decide);rw[<-nV (hn u),<-nV (hn v),<-map_take xp,<-map_take xp,hm]
theorem Sr.tl{x y:List Int}(h:Sr x y)(w:Ur):tl true true w x=tl true true w y:=by obtain⟨u,v,r,rfl,rfl,hm,hu,hv,hr⟩:=h;have hr2:r=[]\/∃ d t,r=d::t/\npq d=false:=hr.imp id (fun⟨d,t,e,hd⟩=>⟨d,t,e,by unfold npq;rw[hd];rfl⟩);have hx:=bW (f:=npq) (p:=u) (q:=r) (fun c hc=>by unfold npq;rw[hu c hc];rfl) hr2;have hy:=bW (f:=npq) (p:=v) (q:=r) (fun c hc=>by unfold npq;rw[hv c hc];rfl) hr2;unfold Y.tl;rw[hx.1,hx.2,hy.1,hy.2,if_pos (.inl rfl),if_pos (.inl rfl),<-Gh u,<-Gh v,hm]
theorem Kj{M R:List Int}{c:Int}{t:List Int}(hM:M=c::t)(hc:ltr c=true)(ht:∀ d∈t,sgs d=true):sch (M++58::R)=some (M.map low,R):=by rw[hM];show sch (c::(t++58::R))=_;obtain⟨e1,e2⟩:=bW (f:=sgs) (p:=t) (q:=58::R) ht (.inr ⟨58,R,rfl,by decide⟩);simp only[sch];rw[if_pos hc,e1,e2];simp
theorem JY{A:List Int->List Int->Int->Prop}{m M s t:List Int}{r:Ur×Int}(hs:U.Bytes s)(ht:U.Bytes t)(h:Sr s t)(hmv:Vis m)(hMv:Vis M)(hm0:m≠[])(hM0:M≠[])(hm:∀ R,sch (m++58::R)=some (m,R))(hM:∀ R,sch (M++58::R)=some (m,R))(hf:m≠cA)(ho:(own m).isSome=true)
  (l1:(m++58::s).length<=4096) (l2:(M++58::t).length<=4096) (x:UP A (m++58::s) r):UP A (M++58::t) r:=by
 have e:∀(p z:List Int),Vis p->p≠[]->U.Bytes z->cln (p++58::z)=p++58::cr z:=fun p z hp h0 hz=>by rw[show p++58::z=(p++[58])++z by simp,MY (Vis.app hp (Vis.cons (by decide) (by decide) Vis.nil)) (by simp) hz];simp
 have hc:=h.clean hs ht;have hb:=hc.drop (f:=sl true) Ft (fun d hd=>by have:=gG hd;unfold sl;simp;omega);have hd:=hb.drop (f:=nau true) xp (fun d hd=>by unfold nau;rw[hd];simp);have htk:=hb.take;unfold UP at x ⊢;rw[if_neg (by omega)]at x ⊢;rw[e m s hmv hm0 hs]at x;rw[e M t hMv hM0 ht];obtain⟨k,k1,k2⟩:=x;have ha:∀ z,aus m z=some (z.dropWhile (sl true)):=fun z=>by unfold aus;rw[if_pos ho]
 refine⟨k,fun y sp hy=>k1 y sp ?_,k2.trans ?_⟩
 ·unfold hqy at hy ⊢;rw[hM]at hy;rw[hm];simp only at hy ⊢;rw[if_neg hf,ha]at hy ⊢;simp only[ho]at hy ⊢;rw[htk];exact hy
 ·unfold rdc;rw[hM,hm];simp only;rw[if_neg hf,if_neg hf,ha,ha];simp only[ho];rw[htk,hd.tl]
open F (bn aa aD bz cj hid)
theorem jy(w:World)(x:Int)(h0:0<=x)(h1:x<=255):∃ q:ByteArray,(convert 42 9 (.slice (some ⟨w.heap.size,0,none⟩) 1 1)).run prog (w.alloc (.cells #[.int .u8 x] 5))=.ok (.string q) (w.alloc (.cells #[.int .u8 x] 5))/\bn q=[x]/\q.size=1:=by
 have ag:(w.alloc (.cells #[.int .u8 x] 5)).ownsRow w.heap.size 5 1 (.slice (some ⟨w.heap.size,0,none⟩) 1 1) 1 ([x].map (Value.int .u8)) :=
  ⟨rfl,.inr ⟨w.heap.size,1,_,rfl,le_refl _,World.alloc_heap_new w _,le_refl _,by unfold maxLen;omega,rfl,rfl⟩⟩
 obtain⟨q,h,hq⟩:=U.aV _ w.heap.size _ 1 [x] rfl (fun b hb=>by simp at hb;omega) ag;exact⟨q,h,hq,by rw[<-aa,show bn q=[x] from hq];rfl⟩
theorem Db{d:Int}(h:(Lit.int .u8 d).wf=true):0<=d/\d<=255:=by simp[Lit.wf,IntKind.min,IntKind.max,IntKind.bits,IntKind.signed]at h;omega
theorem Dc{w:World}{a:Option Addr}{len cap:Nat}{zs:List Int}(h:U.IsRow .u8 w a len cap zs)(k:Nat)(hk:k<len):∃ b off d,a=some ⟨b,off,none⟩/\w.cell? ⟨b,off+k,none⟩=some (.int .u8 d)/\0<=d/\d<=255:=by
 rcases h with⟨_,rfl,_⟩ | ⟨x,rfl,hl,_,hz,hc,hw⟩
 ·omega
 ·obtain⟨b,off,rfl,hc'⟩:=ints_at hc (by omega);refine⟨b,off,zs.getD k 0,rfl,hc' k (by omega),Db (hw _ ?_)⟩;rw[List.getD_eq_getElem?_getD,List.getElem?_eq_getElem (by omega)];exact List.getElem_mem _
structure Nm(m:List Int):Prop where
 ne:m≠[]
 sm:∀ c∈m,97<=c/\c<=122
 fi:m≠cA
 ow:(own m).isSome=true
 le:m.length<=5
theorem names(j:Int)(h0:0<=j)(h5:j<5):∃ m:ByteArray,(∀ W,(Instr.index 49 (.agg #[Value.string ⟨#[104,116,116,112]⟩,Value.string ⟨#[104,116,116,112,115]⟩,Value.string ⟨#[119,115]⟩,Value.string ⟨#[119,115,115]⟩,Value.string ⟨#[102,116,112]⟩]) (.int .u8 j)).run prog W=.ok (.string m) W)/\Nm (bn m):=by
 obtain rfl | rfl | rfl | rfl | rfl:j=0\/j=1\/j=2\/j=3\/j=4:=by omega
 all_goals exact⟨_,fun W=>(by simp[Instr.index,asIntOf,run_underlying underlying49,go_sem];rfl),by decide,by decide,by decide,by decide,by decide⟩
def Big(m:List Int)(i:Nat)(M:List Int):Prop:=M.map low=m.take i/\(∀ c∈M,ltr c=true)
theorem Big.step{m M:List Int}{i:Nat}(h:Big m i M){y c:Int}(hy:m[i]? = some y)(hl:low c=y)(hc:ltr c=true):Big m (i+1) (M++[c]):=by
 refine⟨?_,fun d hd=>?_⟩
 ·rw[map_append,h.1,take_add_one,hy,List.map_singleton,hl];rfl
 ·rcases List.mem_append.1 hd with hd | hd
  ·exact h.2 d hd
  ·rw[List.mem_singleton.1 hd];exact hc
theorem LO{c:Int}(h:ltr c=true):33<=c/\c<=126:=by unfold ltr at h;have:=of_decide_eq_true h;omega
theorem LP{c:Int}(h:ltr c=true):sgs c=true:=by unfold sgs;rw[h];rfl
theorem lj{c:Int}(h:97<=c/\c<=122):ltr c=true/\low c=c:=by
 refine⟨?_,?_⟩
 ·unfold ltr;exact decide_eq_true (by omega)
 ·unfold low;rw[if_neg (by omega)]
theorem Nc{c:Int}(h:97<=c/\c<=122):ltr (c - 32)=true/\low (c - 32)=c:=by
 refine⟨?_,?_⟩
 ·unfold ltr;exact decide_eq_true (by omega)
 ·unfold low;rw[if_pos (by omega)];omega
theorem Big.sch{m M:List Int}(hm:Nm m)(h:Big m m.length M)(R:List Int):Y.sch (M++58::R)=some (m,R):=by
 have e:M.map low=m:=by rw[h.1,take_length]
 cases M with
 | nil=>exact absurd e.symm hm.ne
 | cons c t =>
  rw[Kj rfl (h.2 c List.mem_cons_self) (fun d hd=>LP (h.2 d (List.mem_cons_of_mem _ hd))),e]
theorem Nm.big{m:List Int}(hm:Nm m):Big m m.length m:=by refine⟨?_,fun c hc=>(lj (hm.sm c hc)).1⟩;rw[take_length];exact(List.map_congr_left (g:=id) (fun c hc=>(lj (hm.sm c hc)).2)).trans (map_id m)
theorem Big.vis{m M:List Int}{i:Nat}(h:Big m i M):Vis M:=fun c hc=>LO (h.2 c hc)
def Sl(l:List Int)(i:Nat)(ah:Bool)(t:List Int):Prop :=
 ∃ u v r,l.take i=u++r/\t=v++r/\u.map nz=v.map nz/\(∀ c∈u,qm c=false)/\(∀ c∈v,qm c=false)/\((ah=true/\r=[])\/(ah=false/\∃ d x,r=d::x/\qm d=true))
theorem Sl.sr{l t:List Int}{ah:Bool}(h:Sl l l.length ah t):Sr l t:=by
 obtain⟨u,v,r,h1,h2,h3,h4,h5,h6⟩:=h;rw[take_length]at h1;refine⟨u,v,r,h1,h2,h3,h4,h5,?_⟩;rcases h6 with⟨_,h⟩ | ⟨_,h⟩
 ·exact .inl h
 ·exact .inr h
theorem Sl.late{l t:List Int}{i:Nat}{y:Int}(h:Sl l i false t)(hy:l[i]? = some y):Sl l (i+1) false (t++[y]):=by
 obtain⟨u,v,r,h1,h2,h3,h4,h5,⟨h,_⟩ | ⟨_,d,x,rfl,hd⟩⟩:=h
 ·cases h
 ·refine⟨u,v,d::x++[y],by rw[take_add_one,hy,h1];simp,by rw[h2];simp,h3,h4,h5,.inr ⟨rfl,d,x++[y],rfl,hd⟩⟩
theorem Sl.turn{l t:List Int}{i:Nat}{y:Int}(h:Sl l i true t)(hy:l[i]? = some y)(hq:qm y=true):Sl l (i+1) false (t++[y]):=by
 obtain⟨u,v,r,h1,h2,h3,h4,h5,⟨_,rfl⟩ | ⟨h,_⟩⟩:=h
 ·refine⟨u,v,[y],by rw[take_add_one,hy,h1];simp,by rw[h2];simp,h3,h4,h5,.inr ⟨rfl,y,[],rfl,hq⟩⟩
 ·cases h
theorem Sl.on{l t:List Int}{i:Nat}{y c:Int}(h:Sl l i true t)(hy:l[i]? = some y)(hq:qm y=false)(hc:qm c=false)(hn:nz y=nz c):Sl l (i+1) true (t++[c]):=by
 obtain⟨u,v,r,h1,h2,h3,h4,h5,⟨_,rfl⟩ | ⟨h,_⟩⟩:=h
 ·refine⟨u++[y],v++[c],[],by rw[take_add_one,hy,h1];simp,by rw[h2];simp,by rw[map_append,map_append,h3,List.map_singleton,List.map_singleton,hn],?_,?_,.inl ⟨rfl,rfl⟩⟩
  ·intro d hd;rcases List.mem_append.1 hd with hd | hd
   ·exact h4 d hd
   ·rw[List.mem_singleton.1 hd];exact hq
  ·intro d hd;rcases List.mem_append.1 hd with hd | hd
   ·exact h5 d hd
   ·rw[List.mem_singleton.1 hd];exact hc
 ·cases h
theorem Ab{s:ByteArray}{i:Nat}(h:i<s.size):(bn s)[i]? = some ((bn s)[i]?.getD 0):=by rw[List.getElem?_eq_getElem (by rw[aa];exact h)];rfl
theorem rE{A:List Int->List Int->Int->Prop}{G:World->Prop}(C:Ctr A G)(k:Int)(hk0:0<=k)(hk1:k<=255)(s:ByteArray)(a:Option Addr)(len cap:Nat)(zs:List Int)(w:World)(hG:G w)(hs:s.size<=maxLen)(hr:U.IsRow .u8 w a len cap zs):
  Calls prog 6 #[.int .u8 k,.string s,.slice a len cap] w fun e W'=>e=.returned (.bool true)/\Below w.heap.size w W':=by
 have HK:Hid (∀ W,Below w.heap.size w W->G W):=fun W h=>C.keep w W hG h
 have HW:Hid (∀ W,Below w.heap.size w W->Calls prog 10 #[] W fun e W'=>e=.returned (.bool true)/\Below w.heap.size w W'):=fun W h=>(dC C W (HK.out W h)).mono (by
   rintro e W' ⟨rfl,hB⟩
   exact⟨rfl,h.trans (hB.mono h.size)⟩)
 have HB:Hid (Below w.heap.size w w):=Below.refl _ _;have hm:=U.rK hr;unfold maxLen at hs hm;by_cases g1:600<s.size
 ·have g1z:(600:Int)<(s.size:Int):=by omega
  clear C hG hr;go_enter func6,ntmps6;go_wp2_with(go_at_call 10;refine(HW.out _ HB.out).mono ?_;rintro e w2 ⟨rfl,B2⟩);go_ret;exact⟨rfl,B2⟩
 have g1z:¬ (600:Int)<(s.size:Int):=by omega
 by_cases g2:600<len
 ·have g2z:(600:Int)<(len:Int):=by omega
  clear C hG hr;go_enter func6,ntmps6;go_wp2_with(go_at_call 10;refine(HW.out _ HB.out).mono ?_;rintro e w2 ⟨rfl,B2⟩);go_ret;exact⟨rfl,B2⟩
 have g2z:¬ (600:Int)<(len:Int):=by omega
 have HROW:=hid (fun k hk=>Dc hr k hk);have HC:=hid C;clear hr C hG;have kt0:0<=Int.tmod k 5:=by rw[Int.tmod_eq_emod_of_nonneg hk0];omega
 have kt5:Int.tmod k 5<5:=by rw[Int.tmod_eq_emod_of_nonneg hk0];omega
 obtain⟨j,hj⟩:=Ex' (Int.tmod k 5);rw[hj]at kt0 kt5;obtain⟨m,hix,nmm⟩:=names j kt0 kt5;have HNM:=hid nmm;have hms:m.size<=5:=by rw[<-aa];exact nmm.le
 have HGM:=hid (bz m);have HGT:=hid (bz s);have kwr:IntKind.u8.wrap j=j:=by simp[IntKind.wrap,IntKind.bits,IntKind.signed];omega
 clear nmm;go_enter func6,ntmps6;go_wp2_with fail
 go_loopw [8,9] (fun vt vi wr=>∃(i:Nat) (M:ByteArray),i<=m.size/\vt=.string M/\vi=.int .i64 (i:Int)/\M.size=i/\Hid (Big (bn m) i (bn M))/\Hid (Below w.heap.size w wr)) (fun _ vi _=>m.size - (intOf vi).toNat)
 case atStart=>exact⟨0,⟨#[]⟩,zero_le _,rfl,rfl,rfl,⟨by simp[F.bn],by simp[F.bn]⟩,Below.refl _ _⟩
 case round =>
  obtain⟨i,M,hi,rfl,rfl,hM,HBG,HBR⟩:=hrel;by_cases hlt:i<m.size
  ·have hltz:(i:Int)<(m.size:Int):=by omega
   have hg:=(HGM.out i hlt).symm;obtain⟨y,hy⟩:=Ex' ((bn m)[i]?.getD 0);have hyi:(bn m)[i]? = some y:=by rw[Ab hlt,hy]
   have hyr:=HNM.out.sm y (List.mem_of_getElem? hyi);rw[hy]at hg;have HYS:=hid hyi;have sl1:=lj hyr;have cl1:=Nc hyr;have HADD:Hid (∀(q:ByteArray) (c:Int),q.size=1->bn q=[c]->low c=y->ltr c=true->(M++q).size=i+1/\Big (bn m) (i+1) (bn (M++q))):=fun q c h1 h2 h3 h4=>⟨by rw[size_append];omega,by rw[aD,h2];exact HBG.out.step hyi h3 h4⟩;obtain⟨y0,y1⟩:=hyr;clear hy hyi HBG HGM;by_cases hil:i<len
   ·have hilz:(i:Int)<(len:Int):=by omega
    obtain⟨b,off,d,rfl,hck0,hd0,hd1⟩:=HROW.out i hil;have hck:wr.cell? ⟨b,off+i,none⟩=some (.int .u8 d):=(HBR.out.cell (p:=⟨b,off+i,none⟩) (U.lt_of_cell hck0)).trans hck0;obtain⟨p,hp⟩:=Ex' (d % 2:Int);have hpt:Int.tmod d 2=p:=by rw[Int.tmod_eq_emod_of_nonneg hd0];exact hp
    have hp0:0<=p:=by omega
    have hp2:p<=1:=by omega
    have hpw:IntKind.u8.wrap p=p:=by simp[IntKind.wrap,IntKind.bits,IntKind.signed];omega
    clear hp hck0;by_cases hp1:p=1
    ·have hpb:(p==1)=true:=by simpa using hp1
     obtain⟨q,hcv,hq1,hq2⟩:=jy wr (y - 32) (by omega) (by omega);have HQ:=hid (HADD.out q _ hq2 hq1 cl1.2 cl1.1);clear hq1 HADD HROW HGT HYS HC HK HNM;go_wp2
     go_roundw
     case rel=>exact⟨i+1,M++q,by omega,rfl,by go_num,HQ.out.1,HQ.out.2,HBR.out.alloc HBR.out.size _⟩
     case measure=>simp[intOf];omega
    ·have hpb:(p==1)=false:=by simpa using hp1
     obtain⟨q,hcv,hq1,hq2⟩:=jy wr (y) (by omega) (by omega);have HQ:=hid (HADD.out q _ hq2 hq1 sl1.2 sl1.1);clear hq1 HADD HROW HGT HYS HC HK HNM;go_wp2
     go_roundw
     case rel=>exact⟨i+1,M++q,by omega,rfl,by go_num,HQ.out.1,HQ.out.2,HBR.out.alloc HBR.out.size _⟩
     case measure=>simp[intOf];omega
   ·have hilz:¬ (i:Int)<(len:Int):=by omega
    obtain⟨q,hcv,hq1,hq2⟩:=jy wr (y) (by omega) (by omega);have HQ:=hid (HADD.out q _ hq2 hq1 sl1.2 sl1.1);clear hq1 HADD HROW HGT HYS HC HK HNM;go_wp2
    go_roundw
    case rel=>exact⟨i+1,M++q,by omega,rfl,by go_num,HQ.out.1,HQ.out.2,HBR.out.alloc HBR.out.size _⟩
    case measure=>simp[intOf];omega
  ·have hltz:¬ (i:Int)<(m.size:Int):=by omega
   obtain rfl:i=m.size:=by omega
   have HBIG:=hid HBG.out;replace HB:=hid HBR.out;clear HBG HGM HBR;go_wp2_with fail
   go_loopw [11,12,13] (fun vt va vi wr=>∃(i:Nat) (T:ByteArray) (ah:Bool),i<=s.size/\vt=.string T/\va=.bool ah/\vi=.int .i64 (i:Int)/\T.size=i/\Hid (Sl (bn s) i ah (bn T))/\Hid (Below w.heap.size w wr)) (fun _ _ vi _=>s.size - (intOf vi).toNat)
   case atStart=>exact⟨0,⟨#[]⟩,true,zero_le _,rfl,rfl,rfl,rfl,⟨[],[],[],rfl,rfl,rfl,by simp,by simp,.inl ⟨rfl,rfl⟩⟩,HB⟩
   case round =>
    clear HB;obtain⟨i,T,ah,hi,rfl,rfl,rfl,hT,HSL,HBR⟩:=hrel;by_cases hlt:i<s.size
    ·have hltz:(i:Int)<(s.size:Int):=by omega
     have hg:=(HGT.out i hlt).symm;obtain⟨q0,q1⟩:=cj (s:=s) hlt;obtain⟨y,hy⟩:=Ex' ((bn s)[i]?.getD 0);have hyi:(bn s)[i]? = some y:=by rw[Ab hlt,hy]
     rw[hy]at hg q0 q1;have HYS:=hid hyi;clear hy hyi;cases ah with
     | false =>
      obtain⟨q,hcv,hq1,hq2⟩:=jy wr (y) q0 q1;have HQ:Hid ((T++q).size=i+1/\Sl (bn s) (i+1) false (bn (T++q))):=⟨by rw[size_append];omega,by rw[aD,hq1];exact HSL.out.late HYS.out⟩;clear hq1 HROW HGT HYS HC HK HNM HSL HBIG;go_wp2
      go_roundw
      case rel=>exact⟨i+1,T++q,false,by omega,rfl,rfl,by go_num,HQ.out.1,HQ.out.2,HBR.out.alloc HBR.out.size _⟩
      case measure=>simp[intOf];omega
     | true =>
      by_cases h63:y=63
      ·have b63:(y != 63)=false:=by rw[h63];rfl
       have hq:qm y=true:=by rw[h63];rfl
       clear h63;obtain⟨q,hcv,hq1,hq2⟩:=jy wr (y) q0 q1;have HQ:Hid ((T++q).size=i+1/\Sl (bn s) (i+1) false (bn (T++q))):=⟨by rw[size_append];omega,by rw[aD,hq1];exact HSL.out.turn HYS.out hq⟩;clear hq1 HROW HGT HYS HC HK HNM HSL HBIG;go_wp2
       go_roundw
       case rel=>exact⟨i+1,T++q,false,by omega,rfl,rfl,by go_num,HQ.out.1,HQ.out.2,HBR.out.alloc HBR.out.size _⟩
       case measure=>simp[intOf];omega
      have b63:(y != 63)=true:=by simpa using h63
      by_cases h35:y=35
      ·have b35:(y != 35)=false:=by rw[h35];rfl
       have hq:qm y=true:=by rw[h35];rfl
       clear h35 h63;obtain⟨q,hcv,hq1,hq2⟩:=jy wr (y) q0 q1;have HQ:Hid ((T++q).size=i+1/\Sl (bn s) (i+1) false (bn (T++q))):=⟨by rw[size_append];omega,by rw[aD,hq1];exact HSL.out.turn HYS.out hq⟩;clear hq1 HROW HGT HYS HC HK HNM HSL HBIG;go_wp2
       go_roundw
       case rel=>exact⟨i+1,T++q,false,by omega,rfl,rfl,by go_num,HQ.out.1,HQ.out.2,HBR.out.alloc HBR.out.size _⟩
       case measure=>simp[intOf];omega
      have b35:(y != 35)=true:=by simpa using h35
      have hq:qm y=false:=by unfold qm;simp[h63,h35]
      clear h35 h63;by_cases h47:y=47
      ·have b47:(y==47)=true:=by rw[h47];rfl
       have n47:nz y=nz 92:=by rw[h47];rfl
       clear h47;by_cases hil:i<len
       ·have hilz:(i:Int)<(len:Int):=by omega
        obtain⟨b,off,d,rfl,hck0,hd0,hd1⟩:=HROW.out i hil;have hck:wr.cell? ⟨b,off+i,none⟩=some (.int .u8 d):=(HBR.out.cell (p:=⟨b,off+i,none⟩) (U.lt_of_cell hck0)).trans hck0;obtain⟨p,hp⟩:=Ex' (d % 3:Int);have hpt:Int.tmod d 3=p:=by rw[Int.tmod_eq_emod_of_nonneg hd0];exact hp
        have hp0:0<=p:=by omega
        have hp2:p<=2:=by omega
        have hpw:IntKind.u8.wrap p=p:=by simp[IntKind.wrap,IntKind.bits,IntKind.signed];omega
        clear hp hck0;by_cases hp1:p=1
        ·have hpb:(p==1)=true:=by simpa using hp1
         obtain⟨q,hcv,hq1,hq2⟩:=jy wr (92) (by decide) (by decide);have HQ:Hid ((T++q).size=i+1/\Sl (bn s) (i+1) true (bn (T++q))):=⟨by rw[size_append];omega,by rw[aD,hq1];exact HSL.out.on HYS.out hq (by decide) n47⟩;clear hq1 HROW HGT HYS HC HK HNM HSL HBIG;go_wp2
         go_roundw
         case rel=>exact⟨i+1,T++q,true,by omega,rfl,rfl,by go_num,HQ.out.1,HQ.out.2,HBR.out.alloc HBR.out.size _⟩
         case measure=>simp[intOf];omega
        ·have hpb:(p==1)=false:=by simpa using hp1
         obtain⟨q,hcv,hq1,hq2⟩:=jy wr (y) q0 q1;have HQ:Hid ((T++q).size=i+1/\Sl (bn s) (i+1) true (bn (T++q))):=⟨by rw[size_append];omega,by rw[aD,hq1];exact HSL.out.on HYS.out hq hq rfl⟩;clear hq1 HROW HGT HYS HC HK HNM HSL HBIG;go_wp2
         go_roundw
         case rel=>exact⟨i+1,T++q,true,by omega,rfl,rfl,by go_num,HQ.out.1,HQ.out.2,HBR.out.alloc HBR.out.size _⟩
         case measure=>simp[intOf];omega
       ·have hilz:¬ (i:Int)<(len:Int):=by omega
        obtain⟨q,hcv,hq1,hq2⟩:=jy wr (y) q0 q1;have HQ:Hid ((T++q).size=i+1/\Sl (bn s) (i+1) true (bn (T++q))):=⟨by rw[size_append];omega,by rw[aD,hq1];exact HSL.out.on HYS.out hq hq rfl⟩;clear hq1 HROW HGT HYS HC HK HNM HSL HBIG;go_wp2
        go_roundw
        case rel=>exact⟨i+1,T++q,true,by omega,rfl,rfl,by go_num,HQ.out.1,HQ.out.2,HBR.out.alloc HBR.out.size _⟩
        case measure=>simp[intOf];omega
      ·have b47:(y==47)=false:=by simpa using h47
       clear h47;obtain⟨q,hcv,hq1,hq2⟩:=jy wr (y) q0 q1;have HQ:Hid ((T++q).size=i+1/\Sl (bn s) (i+1) true (bn (T++q))):=⟨by rw[size_append];omega,by rw[aD,hq1];exact HSL.out.on HYS.out hq hq rfl⟩;clear hq1 HROW HGT HYS HC HK HNM HSL HBIG;go_wp2
       go_roundw
       case rel=>exact⟨i+1,T++q,true,by omega,rfl,rfl,by go_num,HQ.out.1,HQ.out.2,HBR.out.alloc HBR.out.size _⟩
       case measure=>simp[intOf];omega
    ·have hltz:¬ (i:Int)<(s.size:Int):=by omega
     obtain rfl:i=s.size:=by omega
     have HSR:Hid (Sr (bn s) (bn T)):=by have:=HSL.out;rw[<-aa s]at this;exact this.sr
     have HB:=HBR;have hb1:bn (m++⟨#[58]⟩++s)=bn m++58::bn s:=by rw[F.aD,F.aD];simp[F.bn]
     have hb2:bn (M++⟨#[58]⟩++T)=bn M++58::bn T:=by rw[F.aD,F.aD];simp[F.bn]
     have hz1:(m++⟨#[58]⟩++s).size<=700:=by rw[<-aa,hb1];simp[aa];omega
     have hz2:(M++⟨#[58]⟩++T).size<=700:=by rw[<-aa,hb2];simp[aa];omega
     have HUP:Hid (∀ r,UP A (bn (m++⟨#[58]⟩++s)) r->UP A (bn (M++⟨#[58]⟩++T)) r):=fun r x=>by
      have hbg:Big (bn m) (bn m).length (bn M):=by rw[aa];exact HBIG.out
      rw[hb2];rw[hb1]at x;refine JY (s:=bn s) (t:=bn T) (U.ay s) (U.ay T) HSR.out HNM.out.big.vis hbg.vis HNM.out.ne (fun h=>HNM.out.ne ?_) (HNM.out.big.sch HNM.out) (hbg.sch HNM.out) HNM.out.fi HNM.out.ow ?_ ?_ x
      ·have:=hbg.1;rw[h,take_length]at this;exact this.symm
      ·rw[<-hb1,aa];omega
      ·rw[<-hb2,aa];omega
     have HCP:=hid (HC.out.cp (m++⟨#[58]⟩++s) wr (by omega) (HK.out _ HB.out));have HSZ:Hid ((M++⟨#[58]⟩++T).size<=100000):=by show _<=_;omega
     clear HSL HBR HBIG HSR hb1 hb2 hz1 hz2 HROW HNM HGT;go_wp2_with fail;refine HCP.out.mono ?_;rintro e v1 ⟨⟨a,u,er,x,hl,ha,rfl⟩,B⟩;replace HB:=Bt' HB B;have X1:=hid (aA v1 zc 29);have O1:=hid (aR ha);obtain⟨pk,pb⟩:=cV v1 a;have R1:=hid pk;replace HB:=Bt' HB pb;have AT1:=hid (ha.below pb);have LM:=hid hl;have HP2:=hid (HC.out.cpIs HSZ.out (HUP.out _ x) _ (HK.out _ HB.out));clear ha pk pb B HCP x hl HUP HSZ;go_wp2_with(refine wpList_store_row rfl 29 (.tmp 15) (.tmp 108) rfl v1.heap.size (Us.cs a) rfl rfl 29 zc X1.out (aL (a)) rfl O1.out ?_);refine HP2.out.mono ?_;rintro e v2 ⟨⟨a2,_,ha2,rfl⟩,B⟩;replace R1:=hid (kept R1.out B);replace AT1:=hid (AT1.out.below B);replace HB:=Bt' HB B;have X2:=hid (aA v2 zc 29);have O2:=hid (aR ha2);obtain⟨pk,pb⟩:=cV v2 a2;have R2:=hid pk;replace R1:=hid (kept R1.out pb);replace AT1:=hid (AT1.out.below pb);replace HB:=Bt' HB pb;have HSM:=hid (dN AT1.out (ha2.below pb) LM.out);have hee:(er==er)=true:=by simp
     clear ha2 pk pb B HP2 AT1 LM HC HK;go_wp2_with(first | (refine wpList_store_row rfl 29 (.tmp 17) (.tmp 116) rfl v2.heap.size (Us.cs a2) rfl rfl 29 zc X2.out (aL (a2)) rfl O2.out ?_) | (refine aK (by rfl) ?_;refine wpList_load_row rfl 29 (.tmp 15) rfl v1.heap.size rfl 29 (Us.cs (a)) (0,0) _ R1.out underlying29 rfl (aL (a)) ?_) | (refine aK (by rfl) ?_;refine wpList_load_row rfl 29 (.tmp 17) rfl v2.heap.size rfl 29 (Us.cs (a2)) (0,0) _ R2.out underlying29 rfl (aL (a2)) ?_));refine HSM.out.mono ?_;rintro e v3 ⟨rfl,B⟩;replace HB:=Bt' HB B;clear B HSM R1 R2 X1 O1 X2 O2;go_wp2_with(go_at_call 10;refine(HW.out _ HB.out).mono ?_;rintro e w2 ⟨rfl,B2⟩);go_ret;exact⟨rfl,B2⟩
theorem slashes_at(k:Int)(s:ByteArray)(a:Option Addr)(len cap:Nat)(zs:List Int)(w:World)(hG:GU w)(hk:(Lit.int .u8 k).wf=true)(hs:s.size<=maxLen)(hr:U.IsRow .u8 w a len cap zs):Calls prog 6 #[.int .u8 k,.string s,.slice a len cap] w fun e W'=>e=.returned (.bool true)/\Below w.heap.size w W' :=
 rE ctr k (Db hk).1 (Db hk).2 s a len cap zs w hG hs hr
end Y
end Go.Proofs.YtlmflmdmolcfhaaGreatDoor
