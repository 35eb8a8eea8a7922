/- Contracts and plain facts. -/
import Derived.Test.YtlmflmdmolcfhaaGreatDoorZ11
set_option maxRecDepth 100000
set_option maxHeartbeats 16000000
set_option linter.unusedVariables false
set_option linter.unnecessarySimpa false
open Nat (le_refl)
open List (dropWhile_cons_of_neg cons_append nil_append append_nil)
open Bool (false_eq_true)
open Option (map_some)
namespace Go.Proofs.YtlmflmdmolcfhaaGreatDoor
open Go.Proofs.Tryz Go.RowKit
namespace E
theorem bj:∀ {l:List Int},(∀ c∈l,c<128)->U.aj l=l
 | [],_=>rfl
 | c::l,h=>by have e:U.aj (c::l)=U.enc c++U.aj l:=List.flatMap_cons;rw[e,bR (h c (by simp)),bj (fun x hx=>h x (by simp[hx]))];rfl
end E
namespace F
theorem aS{a b:ByteArray}(h:bn a=bn b):(a.toList==b.toList)=true:=by rw[gC];exact decide_eq_true h
end F
namespace H
theorem HP.one{A:List Int->List Int->Int->Prop}(hA:Asc A){s:List Int}{sp:Bool}{h k:Hst}(x:HP A s sp h)(y:HP A s sp k):h=k:=by
 unfold HP at x y;split at x
 ·rename_i c;rw[if_pos c]at y;rw[x,y]
 ·rename_i c;rw[if_neg c]at y;split at x
  ·rename_i c;rw[if_pos c]at y;rw[x,y]
  ·rename_i c;rw[if_neg c]at y;split at x
   ·rename_i c;rw[if_pos c]at y;rw[x,y]
   ·rename_i c;rw[if_neg c]at y;obtain⟨d,r,h1,rfl⟩:=x;obtain⟨d',r',h2,rfl⟩:=y;obtain⟨rfl,rfl⟩:=hA.one h1 h2;rfl
theorem da:∀(n:Nat) (l:List Int),l.length<=n->U.Bytes l->∀ c∈U.dec l,c<128->c∈l
 | 0,[],_,_,c,h,_=>by simp[U.bL]at h
 | n+1,[],_,_,c,h,_=>by simp[U.bL]at h
 | n+1,a::l,hn,hl,c,h,hc=>by
  rw[U.aO (a::l) (by simp) hl]at h;rcases List.mem_cons.1 h with rfl | h
  ·rcases U.iz (a::l) (by simp) hl with⟨a',t,e,h0,h1,e2⟩ | ⟨a',b,t,e,h1,h2,h3,h4,e2⟩ | ⟨a',b,d,t,e,h1,h2,h3,h4,h5,h6,e2⟩ | ⟨a',b,d,f,t,e,h1,h2,h3,h4,h5,h6,h7,h8,e2⟩ | ⟨m,_,_,e2⟩
   ·rw[e2];cases e;simp
   ·rw[e2]at hc;simp only at hc;omega
   ·rw[e2]at hc;simp only at hc;have hlo:a'=224->160<=b:=fun h=>by unfold U.aF at h3;rw[h]at h3;simpa using h3
    have hl2:128<=b:=by unfold U.aF at h3;(repeat' split at h3) <;> omega
    by_cases h224:a'=224
    ·have:=hlo h224;omega
    ·omega
   ·rw[e2]at hc;simp only at hc;have hlo:a'=240->144<=b:=fun h=>by unfold U.aF at h3;rw[h]at h3;simpa using h3
    have hl2:128<=b:=by unfold U.aF at h3;(repeat' split at h3) <;> omega
    by_cases h240:a'=240
    ·have:=hlo h240;omega
    ·omega
   ·rw[e2]at hc;simp only at hc;omega
  ·have hnx:=(U.iy (a::l) (by simp)).1;have:=da n _ (by rw[List.length_drop];simp at hn ⊢;omega) (fun b hb=>hl b (List.mem_of_mem_drop hb)) c h hc;exact List.mem_of_mem_drop this
theorem cD(xs:Array Value)(i:Nat)(x:Int)(h:xs[i]? = some (.int .u16 x))(w:World):(part 23 xs i).run prog w=.ok (.int .u16 x) w:=by unfold part;simp[h,go_sem]
theorem cG(d:Nat)(xs ys:Array Value)(f g:Nat->Int)(w:World):∀(L:List Nat),(∀ i∈L,xs[i]? = some (.int .u16 (f i)))->(∀ i∈L,ys[i]? = some (.int .u16 (g i))) ->
  Sem.run prog (forIn L ((none:Option Bool),()) fun i __s=>do
          let a <-part 23 xs (i * 1)
          let b <-part 23 ys (i * 1)
          let r <-Op.equalIn (d+1) 23 a b
          if (!r)=true then pure (ForInStep.done (some false,())) else pure (ForInStep.yield (none,()))) w=.ok ((if L.all (fun i=>f i==g i)=true then none else some false),()) w
 | [],_,_=>by simp
 | i::L,hx,hy=>by
  have ih:=cG d xs ys f g w L (fun j hj=>hx j (by simp[hj])) (fun j hj=>hy j (by simp[hj]));have e:i * 1=i:=Nat.mul_one i;simp only[List.forIn_cons,Sem.run_bind,e,cD xs i _ (hx i (by simp)),cD ys i _ (hy i (by simp)),Result.andThen_ok,run_equalIn_int w d 23 .u16 .u16 _ _ underlying23];cases h:(f i==g i) with
  | true=>simp only[Bool.not_true,false_eq_true,if_false,Sem.run_pure,Result.andThen_ok,List.all_cons,h,Bool.true_and];simpa using ih
  | false=>simp[h]
theorem xX(d:Nat)(xs ys:Array Value)(f g:Nat->Int)(hx:∀ i,i<8->xs[i]? = some (.int .u16 (f i)))(hy:∀ i,i<8->ys[i]? = some (.int .u16 (g i)))(w:World):(Op.equalIn (d+2) 24 (.agg xs) (.agg ys)).run prog w=.ok ((List.range 8).all (fun i=>f i==g i)) w:=by
 have hs:∀ w,(sizeOf 23).run prog w=.ok 1 w:=fun w=>by kernel_rfl
 rw[Op.equalIn];simp only[Sem.run_bind,run_underlying underlying24,Result.andThen_ok,hs];rw[Std.Legacy.Range.forIn_eq_forIn_range'];have e:List.range' ([:8]:Std.Legacy.Range).start ([:8]:Std.Legacy.Range).size ([:8]:Std.Legacy.Range).step=List.range 8:=by decide
 rw[e];have h:=cG d xs ys f g w (List.range 8) (fun i hi=>hx i (List.mem_range.1 hi)) (fun i hi=>hy i (List.mem_range.1 hi));rw[h];simp only[Result.andThen_ok];cases (List.range 8).all (fun i=>f i==g i) <;> simp
theorem aJ(t:TypeId)(ht:∀ w,(isAgg t).run prog w=.ok false w)(xs:Array Value)(i:Nat)(x:Value)(h:xs[i]? = some x)(w:World):(part t xs i).run prog w=.ok x w:=by unfold part;simp[h,ht w,Sem.run_bind]
theorem cE(xs:Array Value)(w:World):(part 24 xs 3).run prog w=.ok (.agg (xs.extract 3 11)) w:=by
 have h1:(isAgg 24).run prog w=.ok true w:=by kernel_rfl
 unfold part;simp[h1,Sem.run_bind]
theorem fields_host : ((Tryz.prog.fieldsOf 26).toList.map fun f => (f.type, f.offset, decide (f.name = "_"))) = [(5, 0, false), (9, 1, false), (22, 2, false), (24, 3, false)] := by kernel_rfl
def eqh(k:Int)(n:ByteArray)(f:Int)(a:List Int)(k':Int)(n':ByteArray)(f':Int)(b:List Int):Bool:=(k==k')&&((n.toList==n'.toList)&&((f==f')&&(List.range 8).all (fun i=>a[i]?.getD 0==b[i]?.getD 0)))
theorem gT(k:Int)(n:ByteArray)(f a0 a1 a2 a3 a4 a5 a6 a7 k':Int)(n':ByteArray)(f' b0 b1 b2 b3 b4 b5 b6 b7:Int)(w:World):
  (Op.equalIn 10000 26 (hv k n f a0 a1 a2 a3 a4 a5 a6 a7) (hv k' n' f' b0 b1 b2 b3 b4 b5 b6 b7)).run prog w=.ok (eqh k n f [a0,a1,a2,a3,a4,a5,a6,a7] k' n' f' [b0,b1,b2,b3,b4,b5,b6,b7]) w:=by
 rw[run_equalIn_struct w 9999 26 _ _ (by kernel_rfl) (by kernel_rfl)];have hf:=fields_host;generalize (prog.fieldsOf 26).toList=fs at hf ⊢;match fs,hf with
 | [],hf=>cases hf
 | [_],hf=>simp at hf
 | [_,_],hf=>simp at hf
 | [_,_,_],hf=>simp at hf
 | _::_::_::_::_::_,hf=>simp at hf
 | [f0,f1,f2,f3],hf =>
  simp only[List.map_cons,List.map_nil,List.cons.injEq,Prod.mk.injEq,decide_eq_false_iff_not,and_true]at hf;obtain⟨⟨t0,o0,n0⟩,⟨t1,o1,n1⟩,⟨t2,o2,n2⟩,⟨t3,o3,n3⟩⟩:=hf;have g8:∀ w,(isAgg 5).run prog w=.ok false w:=fun w=>by kernel_rfl
  have gs:∀ w,(isAgg 9).run prog w=.ok false w:=fun w=>by kernel_rfl
  have g32:∀ w,(isAgg 22).run prog w=.ok false w:=fun w=>by kernel_rfl
  simp only[Op.eqFields,ne_eq,n0,n1,n2,n3,not_false_eq_true,if_true,t0,t1,t2,t3,o0,o1,o2,o3,Sem.run_bind];rw[aJ _ g8 _ 0 (.int .u8 k) rfl,Result.andThen_ok,aJ _ g8 _ 0 (.int .u8 k') rfl,Result.andThen_ok,run_equalIn_int w 9998 5 .u8 .u8 _ _ underlying5,Result.andThen_ok];unfold eqh;cases hk:(k==k') with
  | false=>simp
  | true =>
   simp only[Bool.not_true,false_eq_true,if_false,Bool.true_and,Sem.run_bind];rw[aJ _ gs _ 1 (.string n) rfl,Result.andThen_ok,aJ _ gs _ 1 (.string n') rfl,Result.andThen_ok,run_equalIn_string w 9998 9 _ _ underlying9,Result.andThen_ok];cases hn:(n.toList==n'.toList) with
   | false=>simp
   | true =>
    simp only[Bool.not_true,false_eq_true,if_false,Bool.true_and,Sem.run_bind];rw[aJ _ g32 _ 2 (.int .u32 f) rfl,Result.andThen_ok,aJ _ g32 _ 2 (.int .u32 f') rfl,Result.andThen_ok,run_equalIn_int w 9998 22 .u32 .u32 _ _ underlying22,Result.andThen_ok];cases h4:(f==f') with
    | false=>simp
    | true =>
     simp only[Bool.not_true,false_eq_true,if_false,Bool.true_and,Sem.run_bind];rw[cE,Result.andThen_ok,cE,Result.andThen_ok]
     rw[xX 9997 _ _ (fun i=>([a0,a1,a2,a3,a4,a5,a6,a7])[i]?.getD 0) (fun i=>([b0,b1,b2,b3,b4,b5,b6,b7])[i]?.getD 0) (fun i hi=>by
       obtain rfl | rfl | rfl | rfl | rfl | rfl | rfl | rfl:i=0\/i=1\/i=2\/i=3\/i=4\/i=5\/i=6\/i=7:=by omega
       all_goals rfl) (fun i hi=>by
       obtain rfl | rfl | rfl | rfl | rfl | rfl | rfl | rfl:i=0\/i=1\/i=2\/i=3\/i=4\/i=5\/i=6\/i=7:=by omega
       all_goals rfl),Result.andThen_ok]
     cases ((List.range 8).all fun i=>([a0,a1,a2,a3,a4,a5,a6,a7])[i]?.getD 0==([b0,b1,b2,b3,b4,b5,b6,b7])[i]?.getD 0) <;> simp
theorem eZ(k:Int)(n:ByteArray)(f a0 a1 a2 a3 a4 a5 a6 a7 k':Int)(n':ByteArray)(f' b0 b1 b2 b3 b4 b5 b6 b7:Int)(w:World):
  (binOp .eql 26 (hv k n f a0 a1 a2 a3 a4 a5 a6 a7) (hv k' n' f' b0 b1 b2 b3 b4 b5 b6 b7)).run prog w=.ok (.bool (eqh k n f [a0,a1,a2,a3,a4,a5,a6,a7] k' n' f' [b0,b1,b2,b3,b4,b5,b6,b7])) w:=by
 rw[run_eql_struct,gT];rfl
theorem fa(k:Int)(n:ByteArray)(f:Int)(a:List Int):eqh k n f a k n f a=true:=by unfold eqh;simp
end H
namespace Y
open F (bn ak hid aS)
theorem At.below{w W:World}{a:Us}{u:Ur}(h:At w a u)(hb:Below w.heap.size w W):At W a u :=
 ⟨h.sc,h.us,h.pa,h.hh,h.ho,h.hp,h.pr,h.op,h.bo,h.hq,h.qu,h.hf,h.fg,h.pv.imp (fun _ h=>⟨h.1,h.2.below hb⟩)⟩
theorem At.same{w:World}{a b:Us}{u:Ur}(h:At w a u)(k:At w b u):b={ a with pv:=b.pv }:=by have ho:=h.ho.trans k.ho.symm;simp only[Prod.mk.injEq,List.cons.injEq,and_true]at ho;obtain⟨o1,o2,o3,o4,o5,o6,o7,o8,o9,o10,o11⟩:=ho;have e1:=ak (h.sc.trans k.sc.symm);have e2:=ak (h.us.trans k.us.symm);have e3:=ak (h.pa.trans k.pa.symm);have e4:=ak o2;have e5:=ak (h.bo.trans k.bo.symm);have e6:=ak (h.qu.trans k.qu.symm);have e7:=ak (h.fg.trans k.fg.symm);have f1:=h.hh.trans k.hh.symm;have f2:=h.hp.trans k.hp.symm;have f3:=h.pr.trans k.pr.symm;have f4:=h.op.trans k.op.symm;have f5:=h.hq.trans k.hq.symm;have f6:=h.hf.trans k.hf.symm;cases a;cases b;simp only at *;subst e1 e2 e3 e4 e5 e6 e7 f1 f2 f3 f4 f5 f6 o1 o3 o4 o5 o6 o7 o8 o9 o10 o11;rfl
theorem dD{w:World}{v v':Value}{ps qs:List ByteArray}(he:ps.map bn=qs.map bn):ps=qs:=by
 induction ps generalizing qs with
 | nil=>cases qs with
  | nil=>rfl
  | cons _ _=>cases he
 | cons p ps ih=>cases qs with
  | nil=>cases he
  | cons q qs =>
   simp only[List.map_cons,List.cons.injEq]at he;rw[ak he.1,ih he.2]
theorem kept{W W':World}{g:Nat}{o:Obj}(h:W.heap[g]? = some o)(hb:Below W.heap.size W W'):W'.heap[g]? = some o:=(hb.block g (Array.getElem?_eq_some_iff.1 h).1).trans h
theorem dW{W:World}{g:Nat}{o:Obj}(h:W.heap[g]? = some o)(o':Obj):(W.alloc o').heap[g]? = some o:=kept h ((Below.refl _ W).alloc (le_refl _) o')
theorem eN(a:Us)(pv:Value)(ps:List ByteArray)(w:World)(h1:Strs w a.pv ps)(h2:Strs w pv ps)(hl:ps.length<=1000000):Calls prog 15 #[.agg (Us.cs a),.agg (Us.cs { a with pv:=pv })] w fun e W'=>e=.returned (.bool true)/\Below w.heap.size w W':=by
 obtain⟨b,hb⟩:=Ex' ({ a with pv:=pv }:Us);rw[hb];have A0:((w.alloc (.cells (Us.cs a) 29)).alloc (.cells (Us.cs b) 29)).heap[w.heap.size]? = some (.cells (Us.cs a) 29 (0,0)):=dW (aA w _ _) _
 have A1:((w.alloc (.cells (Us.cs a) 29)).alloc (.cells (Us.cs b) 29)).heap[w.heap.size+1]? = some (.cells (Us.cs b) 29 (0,0)):=by
  have:=aA (w.alloc (.cells (Us.cs a) 29)) (Us.cs b) 29
  rwa [show(w.alloc (.cells (Us.cs a) 29)).heap.size=w.heap.size+1 by simp]at this
 have HB:Hid (Below w.heap.size w ((w.alloc (.cells (Us.cs a) 29)).alloc (.cells (Us.cs b) 29))):=((Below.refl _ w).alloc (le_refl _) _).alloc (by simp) _;obtain⟨ad1,c1,e1,hc1,q1⟩:=(h1.below HB.out).form;obtain⟨ad2,c2,e2,hc2,q2⟩:=(h2.below HB.out).form;have e2':b.pv=.slice ad2 ps.length c2:=by rw[<-hb];exact e2
 have ebs:b={ a with pv:=.slice ad2 ps.length c2 }:=by rw[<-hb,e2]
 have hcz1:(ps.length:Int)<=(c1:Int):=by omega
 have hcz2:(ps.length:Int)<=(c2:Int):=by omega
 obtain⟨v,hv⟩:=Ex' (((w.alloc (.cells (Us.cs a) 29)).alloc (.cells (Us.cs b) 29)));have R0:Hid (∀ wr:World,wr.heap=v.heap->wr.heap[w.heap.size]? = some (.cells (Us.cs a) 29 (0,0))):=fun wr h=>by rw[h,<-hv];exact A0
 have R1:Hid (∀ wr:World,wr.heap=v.heap->wr.heap[w.heap.size+1]? = some (.cells (Us.cs b) 29 (0,0))):=fun wr h=>by rw[h,<-hv];exact A1
 have RP:Hid (∀(wr:World) (i:Nat),wr.heap=v.heap->i<ps.length->∃ b1 o1 b2 o2 x,ad1=some ⟨b1,o1,none⟩/\ad2=some ⟨b2,o2,none⟩/\wr.cell? ⟨b1,o1+i,none⟩=some (.string x)/\wr.cell? ⟨b2,o2+i,none⟩=some (.string x)):=fun wr i h hi=>by
  have hc:∀ p,wr.cell? p=v.cell? p:=fun p=>by unfold World.cell?;rw[h]
  rcases q1 with q1 | ⟨b1,o1,k1,g1⟩
  ·rw[q1]at hi;simp at hi
  rcases q2 with q2 | ⟨b2,o2,k2,g2⟩
  ·rw[q2]at hi;simp at hi
  exact⟨b1,o1,b2,o2,_,k1,k2,(hc _).trans (by rw[<-hv];exact g1 i hi),(hc _).trans (by rw[<-hv];exact g2 i hi)⟩
 have HB2:Hid (Below w.heap.size w v):=by rw[<-hv];exact HB.out
 have F18:v.cell? ⟨w.heap.size,18,none⟩=some (.slice ad1 ps.length c1):=by rw[<-hv];exact(cell_of_row _ _ 18 _ _ _ A0).trans (by rw[<-e1];rfl)
 have D18:v.cell? ⟨w.heap.size+1,18,none⟩=some (.slice ad2 ps.length c2):=by rw[<-hv];exact(cell_of_row _ _ 18 _ _ _ A1).trans (by rw[<-e2'];rfl)
 have E1:=hid e1;have E2:=hid e2';have EB:=hid ebs;clear q1 q2 A0 A1 HB h1 h2 hb e2 e1 e2' ebs;go_enter func15,ntmps15;go_wp2_with fail;clear hv F18 D18
 go_loopw [5] (fun v5 wr=>∃ k:Nat,k<=ps.length/\v5=.int .i64 k/\Hid (wr.heap=v.heap/\Below w.heap.size w wr)) (fun v5 _=>ps.length - (intOf v5).toNat)
 case atStart=>exact⟨0,Nat.zero_le _,rfl,rfl,HB2.out⟩
 case round =>
  obtain⟨i,hi,rfl,HW⟩:=hrel;have G18:wr.cell? ⟨w.heap.size,18,none⟩=some (.slice ad1 ps.length c1):=(cell_of_row _ _ 18 _ _ _ (R0.out wr HW.out.1)).trans (by rw[<-E1.out];rfl);have E18:wr.cell? ⟨w.heap.size+1,18,none⟩=some (.slice ad2 ps.length c2):=(cell_of_row _ _ 18 _ _ _ (R1.out wr HW.out.1)).trans (by rw[<-E2.out];rfl);by_cases hlt:i<ps.length
  ·have hltz:(i:Int)<(ps.length:Int):=by omega
   obtain⟨b1,o1,b2,o2,x,rfl,rfl,hx1,hx2⟩:=RP.out wr i HW.out.1 hlt;have hxx:(x.toList==x.toList)=true:=aS rfl;go_wp2_with fail
   go_quiet (fail)
   go_wp2
   go_roundw
   case rel=>exact⟨i+1,by omega,by go_num,HW.out.1,(fun h=>⟨h.os,h.tape,h.output,h.size,h.block⟩) HW.out.2⟩
   case measure=>simp[intOf];omega
  ·have hltz:¬ (i:Int)<(ps.length:Int):=by omega
   have K0:=R0.out wr HW.out.1;have K1:=R1.out wr HW.out.1;rw[EB.out]at K1;have F0:wr.cell? ⟨w.heap.size,0,none⟩=some (.string a.sc):=cell_of_row _ _ 0 _ _ _ K0;have F1:wr.cell? ⟨w.heap.size,1,none⟩=some (.string a.us):=cell_of_row _ _ 1 _ _ _ K0;have F2:wr.cell? ⟨w.heap.size,2,none⟩=some (.string a.pa):=cell_of_row _ _ 2 _ _ _ K0;have F3:wr.cell? ⟨w.heap.size,3,none⟩=some (.bool a.hh):=cell_of_row _ _ 3 _ _ _ K0;have F4:wr.cell? ⟨w.heap.size,4,none⟩=some (.int .u8 (a.k:Nat)):=cell_of_row _ _ 4 _ _ _ K0;have F5:wr.cell? ⟨w.heap.size,5,none⟩=some (.string a.nm):=cell_of_row _ _ 5 _ _ _ K0;have F6:wr.cell? ⟨w.heap.size,6,none⟩=some (.int .u32 (a.f:Nat)):=cell_of_row _ _ 6 _ _ _ K0;have F7:wr.cell? ⟨w.heap.size,7,none⟩=some (.int .u16 (a.x0:Nat)):=cell_of_row _ _ 7 _ _ _ K0;have F8:wr.cell? ⟨w.heap.size,8,none⟩=some (.int .u16 (a.x1:Nat)):=cell_of_row _ _ 8 _ _ _ K0;have F9:wr.cell? ⟨w.heap.size,9,none⟩=some (.int .u16 (a.x2:Nat)):=cell_of_row _ _ 9 _ _ _ K0;have F10:wr.cell? ⟨w.heap.size,10,none⟩=some (.int .u16 (a.x3:Nat)):=cell_of_row _ _ 10 _ _ _ K0;have F11:wr.cell? ⟨w.heap.size,11,none⟩=some (.int .u16 (a.x4:Nat)):=cell_of_row _ _ 11 _ _ _ K0;have F12:wr.cell? ⟨w.heap.size,12,none⟩=some (.int .u16 (a.x5:Nat)):=cell_of_row _ _ 12 _ _ _ K0;have F13:wr.cell? ⟨w.heap.size,13,none⟩=some (.int .u16 (a.x6:Nat)):=cell_of_row _ _ 13 _ _ _ K0;have F14:wr.cell? ⟨w.heap.size,14,none⟩=some (.int .u16 (a.x7:Nat)):=cell_of_row _ _ 14 _ _ _ K0;have F15:wr.cell? ⟨w.heap.size,15,none⟩=some (.bool a.hp):=cell_of_row _ _ 15 _ _ _ K0;have F16:wr.cell? ⟨w.heap.size,16,none⟩=some (.int .u16 (a.pr:Nat)):=cell_of_row _ _ 16 _ _ _ K0;have F17:wr.cell? ⟨w.heap.size,17,none⟩=some (.bool a.op):=cell_of_row _ _ 17 _ _ _ K0;have F19:wr.cell? ⟨w.heap.size,19,none⟩=some (.string a.bo):=cell_of_row _ _ 19 _ _ _ K0;have F20:wr.cell? ⟨w.heap.size,20,none⟩=some (.bool a.hq):=cell_of_row _ _ 20 _ _ _ K0;have F21:wr.cell? ⟨w.heap.size,21,none⟩=some (.string a.qu):=cell_of_row _ _ 21 _ _ _ K0;have F22:wr.cell? ⟨w.heap.size,22,none⟩=some (.bool a.hf):=cell_of_row _ _ 22 _ _ _ K0;have F23:wr.cell? ⟨w.heap.size,23,none⟩=some (.string a.fg):=cell_of_row _ _ 23 _ _ _ K0;have D0:wr.cell? ⟨(w.heap.size+1),0,none⟩=some (.string a.sc):=cell_of_row _ _ 0 _ _ _ K1;have D1:wr.cell? ⟨(w.heap.size+1),1,none⟩=some (.string a.us):=cell_of_row _ _ 1 _ _ _ K1;have D2:wr.cell? ⟨(w.heap.size+1),2,none⟩=some (.string a.pa):=cell_of_row _ _ 2 _ _ _ K1;have D3:wr.cell? ⟨(w.heap.size+1),3,none⟩=some (.bool a.hh):=cell_of_row _ _ 3 _ _ _ K1;have D4:wr.cell? ⟨(w.heap.size+1),4,none⟩=some (.int .u8 (a.k:Nat)):=cell_of_row _ _ 4 _ _ _ K1;have D5:wr.cell? ⟨(w.heap.size+1),5,none⟩=some (.string a.nm):=cell_of_row _ _ 5 _ _ _ K1;have D6:wr.cell? ⟨(w.heap.size+1),6,none⟩=some (.int .u32 (a.f:Nat)):=cell_of_row _ _ 6 _ _ _ K1;have D7:wr.cell? ⟨(w.heap.size+1),7,none⟩=some (.int .u16 (a.x0:Nat)):=cell_of_row _ _ 7 _ _ _ K1;have D8:wr.cell? ⟨(w.heap.size+1),8,none⟩=some (.int .u16 (a.x1:Nat)):=cell_of_row _ _ 8 _ _ _ K1;have D9:wr.cell? ⟨(w.heap.size+1),9,none⟩=some (.int .u16 (a.x2:Nat)):=cell_of_row _ _ 9 _ _ _ K1;have D10:wr.cell? ⟨(w.heap.size+1),10,none⟩=some (.int .u16 (a.x3:Nat)):=cell_of_row _ _ 10 _ _ _ K1;have D11:wr.cell? ⟨(w.heap.size+1),11,none⟩=some (.int .u16 (a.x4:Nat)):=cell_of_row _ _ 11 _ _ _ K1;have D12:wr.cell? ⟨(w.heap.size+1),12,none⟩=some (.int .u16 (a.x5:Nat)):=cell_of_row _ _ 12 _ _ _ K1;have D13:wr.cell? ⟨(w.heap.size+1),13,none⟩=some (.int .u16 (a.x6:Nat)):=cell_of_row _ _ 13 _ _ _ K1;have D14:wr.cell? ⟨(w.heap.size+1),14,none⟩=some (.int .u16 (a.x7:Nat)):=cell_of_row _ _ 14 _ _ _ K1;have D15:wr.cell? ⟨(w.heap.size+1),15,none⟩=some (.bool a.hp):=cell_of_row _ _ 15 _ _ _ K1;have D16:wr.cell? ⟨(w.heap.size+1),16,none⟩=some (.int .u16 (a.pr:Nat)):=cell_of_row _ _ 16 _ _ _ K1;have D17:wr.cell? ⟨(w.heap.size+1),17,none⟩=some (.bool a.op):=cell_of_row _ _ 17 _ _ _ K1;have D19:wr.cell? ⟨(w.heap.size+1),19,none⟩=some (.string a.bo):=cell_of_row _ _ 19 _ _ _ K1;have D20:wr.cell? ⟨(w.heap.size+1),20,none⟩=some (.bool a.hq):=cell_of_row _ _ 20 _ _ _ K1;have D21:wr.cell? ⟨(w.heap.size+1),21,none⟩=some (.string a.qu):=cell_of_row _ _ 21 _ _ _ K1;have D22:wr.cell? ⟨(w.heap.size+1),22,none⟩=some (.bool a.hf):=cell_of_row _ _ 22 _ _ _ K1;have D23:wr.cell? ⟨(w.heap.size+1),23,none⟩=some (.string a.fg):=cell_of_row _ _ 23 _ _ _ K1;have EH:∀ W,(binOp .eql 26 (H.hv (a.k:Nat) a.nm (a.f:Nat) (a.x0:Nat) (a.x1:Nat) (a.x2:Nat) (a.x3:Nat) (a.x4:Nat) (a.x5:Nat) (a.x6:Nat) (a.x7:Nat)) (H.hv (a.k:Nat) a.nm (a.f:Nat) (a.x0:Nat) (a.x1:Nat) (a.x2:Nat) (a.x3:Nat) (a.x4:Nat) (a.x5:Nat) (a.x6:Nat) (a.x7:Nat))).run prog W=.ok (.bool true) W:=fun W=>by rw[H.eZ,H.fa]
   have SE:∀ s:ByteArray,(s.toList==s.toList)=true:=fun s=>aS rfl;clear K0 K1 R0 R1 RP E1 E2 EB;go_wp2;go_ret;exact⟨rfl,HW.out.2⟩
theorem nr{l:List Int}(h1:∀ c,l.head? = some c->33<=c)(h2:∀ c,l.getLast? = some c->33<=c):strip l=l:=by
 unfold strip
 have d1:l.dropWhile blk=l:=by
  cases l with
  | nil=>rfl
  | cons c t =>
   rw[dropWhile_cons_of_neg];have:=h1 c rfl;unfold blk;simp;omega
 rw[d1]
 have d2:l.reverse.dropWhile blk=l.reverse:=by
  cases hr:l.reverse with
  | nil=>rfl
  | cons c t =>
   rw[dropWhile_cons_of_neg];have:=h2 c (by rw[<-List.head?_reverse,hr];rfl);unfold blk;simp;omega
 rw[d2,List.reverse_reverse]
theorem eO{l:List Int}(h:hqy l=none)(a b:H.Hst):rdc l a=rdc l b:=by
 unfold hqy at h;unfold rdc;cases hs:sch l with
 | none=>rfl
 | some mr =>
  obtain⟨m,r⟩:=mr;rw[hs]at h;simp only at h ⊢;by_cases hf:m=cA
  ·rw[if_pos hf,if_pos hf]
  ·rw[if_neg hf]at h ⊢;rw[if_neg hf];cases ha:aus m r with
   | none=>rfl
   | some q =>
    rw[ha]at h;simp only at h ⊢;have hn:ask (own m).isSome (q.takeWhile (nau (own m).isSome))=none:=by simpa using h
    have e:∀ z:H.Hst,ath m (q.takeWhile (nau (own m).isSome)) z=(zu,70):=fun z=>by unfold ath;rw[if_pos hn]
    rw[e a,e b]
theorem UP.one{A:List Int->List Int->Int->Prop}(hA:H.Asc A){s:List Int}{r q:Ur×Int}(x:UP A s r)(y:UP A s q):r=q:=by
 unfold UP at x y;split at x
 ·rename_i c;rw[if_pos c]at y;rw[x,y]
 ·rename_i c;rw[if_neg c]at y;obtain⟨h,h1,rfl⟩:=x;obtain⟨k,k1,rfl⟩:=y;cases hq:hqy (cln s) with
  | none=>exact eO hq h k
  | some z =>
   obtain⟨t,sp⟩:=z;rw[H.HP.one hA (h1 t sp hq) (k1 t sp hq)]
def ntb(c:Int):Bool:=!tab c
theorem kc{c:Int}(h:ntb c=false):blk c=true:=by unfold ntb tab at h;simp at h;unfold blk;exact decide_eq_true (by omega)
theorem bC:∀ l:List Int,(l.filter ntb).dropWhile blk=(l.dropWhile blk).filter ntb
 | []=>rfl
 | c::l=>by
  by_cases hb:blk c=true
  ·rw[List.dropWhile_cons_of_pos hb,<-bC l];by_cases hn:ntb c=true
   ·rw[List.filter_cons_of_pos hn,List.dropWhile_cons_of_pos hb]
   ·rw[List.filter_cons_of_neg hn]
  ·have hn:ntb c=true:=by
    cases h:ntb c with
    | true=>rfl
    | false=>exact absurd (kc h) hb
   rw[dropWhile_cons_of_neg hb,List.filter_cons_of_pos hn,dropWhile_cons_of_neg hb]
theorem dr(l:List Int):(strip l).filter ntb=strip (l.filter ntb):=by unfold strip;rw[List.filter_reverse,<-bC,List.filter_reverse,<-bC]
theorem jR(s:List Int):cln s=U.aj (strip ((U.dec s).filter ntb)):=by rw[<-dr];rfl
end Y
namespace H
open F (bn)
def w1:ByteArray:=⟨#[69,88,65,77,80,76,69,46,99,111,109]⟩
def x1:ByteArray:=⟨#[101,120,97,109,112,108,101,46,99,111,109]⟩
theorem hp1{A:List Int->List Int->Int->Prop}(hA:Asc A):HP A (bn w1) true (1,bn x1,0,z8,0):=by unfold HP;rw[if_neg (by decide),if_neg (by decide),if_neg (by decide)];exact⟨bn x1,0,by rw[show E.de (bn w1)=[69,88,65,77,80,76,69,46,99,111,109] by decide];exact hA.cap,by decide +kernel⟩
end H
namespace I
theorem kz(c:Int)(b:List Int)(hc:c<128):∀(f:Nat) (t:List Int) (n:Nat) (r lo hi:Int),128<=lo->U.nxl f (t++c::b) n r lo hi=U.nxl f t n r lo hi
 | 0,t,n,r,lo,hi,_=>by simp[U.nxl]
 | f+1,[],n,r,lo,hi,h=>by
  show(if c<lo\/hi<c then ((65533:Int),n,false) else U.nxl f b (n+1) (r * 64+c % 64) 128 191)=(65533,n,false);rw[if_pos (.inl (by omega))]
 | f+1,a::t,n,r,lo,hi,h=>by
  show U.nxl (f+1) (a::(t++c::b)) n r lo hi=_;rw[U.nxl,U.nxl];split
  ·rfl
  ·exact kz c b hc f t _ _ _ _ (by omega)
theorem xr(c:Int)(b a:List Int)(hc:c<128)(h:a≠[]):U.nx (a++c::b)=U.nx a:=by
 cases a with
 | nil=>exact absurd rfl h
 | cons x t =>
  show U.nx (x::(t++c::b))=_;rw[U.nx,U.nx];split
  ·rfl
  ·split
   ·rfl
   ·exact kz c b hc _ t _ _ _ _ (U.fO x)
theorem fu(c:Int)(b:List Int)(h0:0<=c)(hc:c<128)(hb:U.Bytes b):∀(n:Nat) (a:List Int),a.length<=n->U.Bytes a->U.dec (a++c::b)=U.dec a++c::U.dec b
 | n,[],_,_=>by
  have hB:U.Bytes (c::b):=fun x hx=>by
   rcases List.mem_cons.1 hx with rfl | hx
   ·omega
   ·exact hb x hx
  rw[nil_append,U.aO (c::b) (by simp) hB,U.jw c b hc,U.bL];rfl
 | 0,x::t,h,_=>by simp at h
 | n+1,x::t,h,hB=>by
  have hB2:U.Bytes ((x::t)++c::b):=fun y hy=>by
   rcases List.mem_append.1 hy with hy | hy
   ·exact hB y hy
   ·rcases List.mem_cons.1 hy with rfl | hy
    ·omega
    ·exact hb y hy
  have hn:=U.iy (x::t) (by simp)
  rw[U.aO _ (by simp) hB2,xr c b (x::t) hc (by simp),U.aO (x::t) (by simp) hB,List.drop_append_of_le_length hn.2,
    fu c b h0 hc hb n _ (by rw[List.length_drop];simp at h ⊢;omega) (hB.drop _)]
  rfl
end I
namespace Y
open F (bn ak hid)
theorem Ctr.cpIs{A:List Int->List Int->Int->Prop}{G:World->Prop}(C:Ctr A G){s:ByteArray}{u:Ur}{er:Int}(hs:s.size<=100000)(x:UP A (bn s) (u,er))(W:World)(hG:G W):
  Calls prog 11 #[.string s] W fun e W'=>(∃ a,Lim u/\At W' a u/\e=.returned (.tuple #[.agg (Us.cs a),.int .i64 er]))/\Below W.heap.size W W' :=
 (C.cp s W hs hG).mono (by
   rintro e W' ⟨⟨a,v,k,y,hl,ha,rfl⟩,hB⟩
   have h:=UP.one C.asc x y
   obtain⟨rfl,rfl⟩:=Prod.mk.inj h
   exact⟨⟨a,hl,ha,rfl⟩,hB⟩)
theorem eP{w:World}{a:Us}{u:Ur}(h:At w a u):∃ ad n c,a={ a with pv:=.slice ad n c }:=by obtain⟨ps,_,hs⟩:=h.pv;obtain⟨ad,c,e,_⟩:=hs.form;exact⟨ad,ps.length,c,by rw[<-e]⟩
theorem aR{w:World}{a:Us}{u:Ur}(h:At w a u):(Us.cs a).all (·.oneCell')=true:=by obtain⟨ad,n,c,e⟩:=eP h;rw[e];exact Aq a ad n c
theorem cV(W:World)(a:Us):((W.alloc (.cells zc 29)).setRow W.heap.size (Us.cs a)).heap[W.heap.size]? = some (.cells (Us.cs a) 29 (0,0))/\Below W.heap.size W ((W.alloc (.cells zc 29)).setRow W.heap.size (Us.cs a)) :=
 ⟨setRow_heap _ _ _ _ _ _ (aA W _ _),cS ((Below.refl _ W).alloc (le_refl _) _) (le_refl _) _⟩
theorem aK{P:Program}{ops:Array Oper}{Q:Exit->Act->World->Prop}{a:Act}{w:World}{rest:List Oper}{o:Oper}
  (hw:Region.wanted o (yielded ops a.tmps)=true) (h:wpList P ops Q ({ o with guard:=none }::rest) a w):wpList P ops Q (o::rest) a w:=by
 have h0:Region.wanted { o with guard:=none } (yielded ops a.tmps)=true:=rfl;simp only[wpList,h0,hw,if_true]at h ⊢;exact h
def k1:ByteArray:=⟨#[72,84,84,80,58,92,92,85,115,101,114,64,69,88,65,77,80,76,69,46,99,111,109,58,56,48,47,97,47,46,46,47,98,63,113,35,102]⟩
def k2:ByteArray:=⟨#[102,111,111,58,47,46,47,47,112]⟩
def k3:ByteArray:=⟨#[104,116,116,112,58,47,47,97,58,57,57,57,57,57]⟩
def k4:ByteArray:=⟨#[49,97,58,98]⟩
def u1:Ur:={ zu with sch:=om,usr:=[85,115,101,114],hh:=true,hst:=(1,[101,120,97,109,112,108,101,46,99,111,109],0,H.z8),pth:=[[98]],hq:=true,qry:=[113],hf:=true,frg:=[102] }
def u2:Ur:={ zu with sch:=[102,111,111],pth:=[[],[112]] }
theorem up1{A:List Int->List Int->Int->Prop}(hA:H.Asc A):UP A (bn k1) (u1,0):=by
 unfold UP;rw[if_neg (by decide)];have hc:cln (bn k1)=bn k1:=by decide +kernel
 rw[hc];have hq:hqy (bn k1)=some ([69,88,65,77,80,76,69,46,99,111,109],true):=by decide +kernel
 refine⟨(1,[101,120,97,109,112,108,101,46,99,111,109],0,H.z8,0),fun x sp hx=>?_,by kernel_rfl⟩;rw[hq]at hx;cases hx;exact H.hp1 hA
theorem up2{A:List Int->List Int->Int->Prop}:UP A (bn k2) (u2,0):=by
 unfold UP;rw[if_neg (by decide)];have hc:cln (bn k2)=bn k2:=by decide +kernel
 rw[hc];have hq:hqy (bn k2)=none:=by decide +kernel
 exact⟨H.non 0,(fun x sp hx=>by rw[hq]at hx;cases hx),by kernel_rfl⟩
theorem up3{A:List Int->List Int->Int->Prop}(hA:H.Asc A):UP A (bn k3) (zu,131):=by
 unfold UP;rw[if_neg (by decide)];have hc:cln (bn k3)=bn k3:=by decide +kernel
 rw[hc];have hq:hqy (bn k3)=some ([97],true):=by decide +kernel
 refine⟨(1,[97],0,H.z8,0),fun x sp hx=>?_,by kernel_rfl⟩;rw[hq]at hx;cases hx;unfold H.HP;rw[if_neg (by decide),if_neg (by decide),if_neg (by decide)];exact⟨[97],0,by rw[show E.de [97]=[97] by decide];exact hA.num (by decide),by decide +kernel⟩
theorem up4{A:List Int->List Int->Int->Prop}:UP A (bn k4) (zu,130):=by
 unfold UP;rw[if_neg (by decide)];have hc:cln (bn k4)=bn k4:=by decide +kernel
 rw[hc];have hq:hqy (bn k4)=none:=by decide +kernel
 exact⟨H.non 0,(fun x sp hx=>by rw[hq]at hx;cases hx),by kernel_rfl⟩
theorem dC{A:List Int->List Int->Int->Prop}{G:World->Prop}(C:Ctr A G)(w:World)(hG:G w):Calls prog 10 #[] w fun e W'=>e=.returned (.bool true)/\Below w.heap.size w W':=by
 have HK:Hid (∀ W,Below w.heap.size w W->G W):=fun W h=>C.keep w W hG h;have P1:=hid (fun W h=>C.cpIs (s:=k1) (by decide) (up1 C.asc) W h);have P2:=hid (fun W h=>C.cpIs (s:=k2) (by decide) up2 W h);have P3:=hid (fun W h=>C.cpIs (s:=k3) (by decide) (up3 C.asc) W h);have P4:=hid (fun W h=>C.cpIs (s:=k4) (by decide) up4 W h);have P5:Hid (∀ W,G W->Calls prog 13 #[.string ⟨#[119,115,115]⟩] W fun e W'=>e=.returned (.tuple #[.int .u16 443,.bool true])/\Below W.heap.size W W'):=fun W h=>C.cq ⟨#[119,115,115]⟩ W (by decide) h
 have T1:Hid (∀ W a,At W a u1->Lim u1->G W->Calls prog 16 #[.agg (Us.cs a)] W fun e W'=>e=.returned (.string ⟨#[104,116,116,112,58,47,47,85,115,101,114,64,101,120,97,109,112,108,101,46,99,111,109,47,98,63,113,35,102]⟩)/\Below W.heap.size W W'):=fun W a h l g=>(C.ct a u1 W h l g).mono (by
   rintro e W' ⟨⟨t,rfl,ht⟩,hB⟩
   obtain rfl:t=⟨#[104,116,116,112,58,47,47,85,115,101,114,64,101,120,97,109,112,108,101,46,99,111,109,47,98,63,113,35,102]⟩:=ak (ht.trans (by decide +kernel))
   exact⟨rfl,hB⟩)
 have T2:Hid (∀ W a,At W a u2->Lim u2->G W->Calls prog 16 #[.agg (Us.cs a)] W fun e W'=>e=.returned (.string ⟨#[102,111,111,58,47,46,47,47,112]⟩)/\Below W.heap.size W W'):=fun W a h l g=>(C.ct a u2 W h l g).mono (by
   rintro e W' ⟨⟨t,rfl,ht⟩,hB⟩
   obtain rfl:t=⟨#[102,111,111,58,47,46,47,47,112]⟩:=ak (ht.trans (by decide +kernel))
   exact⟨rfl,hB⟩)
 have T3:Hid (∀ W a,At W a u2->Lim u2->G W->Calls prog 19 #[.agg (Us.cs a)] W fun e W'=>e=.returned (.string ⟨#[47,47,112]⟩)/\Below W.heap.size W W'):=fun W a h l g=>(C.ch a u2 W h l g).mono (by
   rintro e W' ⟨⟨t,rfl,ht⟩,hB⟩
   obtain rfl:t=⟨#[47,47,112]⟩:=ak (ht.trans (by decide +kernel))
   exact⟨rfl,hB⟩)
 unfold k1 at P1;unfold k2 at P2;unfold k3 at P3;unfold k4 at P4;have HB:Hid (Below w.heap.size w w):=Below.refl _ _;clear C hG;go_enter func10,ntmps10;go_wp2_with fail;refine(P1.out _ (HK.out _ HB.out)).mono ?_;rintro e v1 ⟨⟨a1,hl1,ha1,rfl⟩,B⟩;replace HB:=Bt' HB B;have X1:=hid (aA v1 zc 29);have O1:=hid (aR ha1);obtain⟨pk,pb⟩:=cV v1 a1;have R1:=hid pk;replace HB:=Bt' HB pb;have AT1:=hid (ha1.below pb);have LM1:=hid hl1;obtain⟨q1,hq1⟩:=Ex' ((v1.alloc (.cells zc 29)).setRow v1.heap.size (Us.cs a1));rw[hq1]at R1 HB AT1;clear ha1 hl1 pk pb B;go_wp2_with(refine wpList_store_row rfl 29 (.tmp 1) (.tmp 13) rfl v1.heap.size (Us.cs a1) rfl rfl 29 zc X1.out (aL a1) rfl O1.out ?_);refine(P2.out _ (HK.out _ HB.out)).mono ?_;rintro e v2 ⟨⟨a2,hl2,ha2,rfl⟩,B⟩;replace HB:=Bt' HB B;replace R1:=hid (kept R1.out B);replace AT1:=hid (AT1.out.below B);have X2:=hid (aA v2 zc 29);have O2:=hid (aR ha2);obtain⟨pk,pb⟩:=cV v2 a2;have R2:=hid pk;replace HB:=Bt' HB pb;have AT2:=hid (ha2.below pb);have LM2:=hid hl2;replace R1:=hid (kept R1.out pb);replace AT1:=hid (AT1.out.below pb);obtain⟨q2,hq2⟩:=Ex' ((v2.alloc (.cells zc 29)).setRow v2.heap.size (Us.cs a2));rw[hq2]at R1 AT1 R2 HB AT2;clear ha2 hl2 pk pb B;go_wp2_with(refine wpList_store_row rfl 29 (.tmp 3) (.tmp 17) rfl v2.heap.size (Us.cs a2) rfl rfl 29 zc X2.out (aL a2) rfl O2.out ?_);refine(P3.out _ (HK.out _ HB.out)).mono ?_;rintro e v3 ⟨⟨a3,hl3,ha3,rfl⟩,B⟩;replace HB:=Bt' HB B;replace R1:=hid (kept R1.out B);replace AT1:=hid (AT1.out.below B);replace R2:=hid (kept R2.out B);replace AT2:=hid (AT2.out.below B);have X3:=hid (aA v3 zc 29);have O3:=hid (aR ha3);obtain⟨pk,pb⟩:=cV v3 a3;have R3:=hid pk;replace HB:=Bt' HB pb;have AT3:=hid (ha3.below pb);have LM3:=hid hl3;replace R1:=hid (kept R1.out pb);replace AT1:=hid (AT1.out.below pb);replace R2:=hid (kept R2.out pb);replace AT2:=hid (AT2.out.below pb);obtain⟨q3,hq3⟩:=Ex' ((v3.alloc (.cells zc 29)).setRow v3.heap.size (Us.cs a3));rw[hq3]at R1 AT1 R2 AT2 R3 HB AT3;clear ha3 hl3 pk pb B;go_wp2_with(refine wpList_store_row rfl 29 (.tmp 5) (.tmp 21) rfl v3.heap.size (Us.cs a3) rfl rfl 29 zc X3.out (aL a3) rfl O3.out ?_);refine(P4.out _ (HK.out _ HB.out)).mono ?_;rintro e v4 ⟨⟨a4,hl4,ha4,rfl⟩,B⟩;replace HB:=Bt' HB B;replace R1:=hid (kept R1.out B);replace AT1:=hid (AT1.out.below B);replace R2:=hid (kept R2.out B);replace AT2:=hid (AT2.out.below B);have X4:=hid (aA v4 zc 29);have O4:=hid (aR ha4);obtain⟨pk,pb⟩:=cV v4 a4;have R4:=hid pk;replace HB:=Bt' HB pb;have AT4:=hid (ha4.below pb);have LM4:=hid hl4;replace R1:=hid (kept R1.out pb);replace AT1:=hid (AT1.out.below pb);replace R2:=hid (kept R2.out pb);replace AT2:=hid (AT2.out.below pb);obtain⟨q4,hq4⟩:=Ex' ((v4.alloc (.cells zc 29)).setRow v4.heap.size (Us.cs a4));rw[hq4]at R1 AT1 R2 AT2 R4 HB AT4;clear ha4 hl4 pk pb B;go_wp2_with(refine wpList_store_row rfl 29 (.tmp 7) (.tmp 25) rfl v4.heap.size (Us.cs a4) rfl rfl 29 zc X4.out (aL a4) rfl O4.out ?_);refine(P5.out _ (HK.out _ HB.out)).mono ?_;rintro e v5 ⟨rfl,B⟩;replace R1:=hid (kept R1.out B);replace AT1:=hid (AT1.out.below B);replace R2:=hid (kept R2.out B);replace AT2:=hid (AT2.out.below B);replace HB:=Bt' HB B;clear B P1 P2 P3 P4 P5 X1 X2 X3 X4 O1 O2 O3 O4 R3 R4 AT3 AT4 LM3 LM4 hq1 hq2 hq3 hq4;go_wp2_with(refine aK (by rfl) ?_;refine wpList_load_row rfl 29 (.tmp 1) rfl v1.heap.size rfl 29 (Us.cs a1) (0,0) _ R1.out underlying29 rfl (aL a1) ?_);refine(T1.out _ a1 AT1.out LM1.out (HK.out _ HB.out)).mono ?_;rintro e v6 ⟨rfl,B⟩;replace R2:=hid (kept R2.out B);replace AT2:=hid (AT2.out.below B);replace HB:=Bt' HB B;clear B T1 R1 AT1;go_wp2_with(refine aK (by rfl) ?_;refine wpList_load_row rfl 29 (.tmp 3) rfl v2.heap.size rfl 29 (Us.cs a2) (0,0) _ R2.out underlying29 rfl (aL a2) ?_);refine(T2.out _ a2 AT2.out LM2.out (HK.out _ HB.out)).mono ?_;rintro e v7 ⟨rfl,B⟩;replace R2:=hid (kept R2.out B);replace AT2:=hid (AT2.out.below B);replace HB:=Bt' HB B;clear B T2;go_wp2_with(refine aK (by rfl) ?_;refine wpList_load_row rfl 29 (.tmp 3) rfl v2.heap.size rfl 29 (Us.cs a2) (0,0) _ R2.out underlying29 rfl (aL a2) ?_);refine(T3.out _ a2 AT2.out LM2.out (HK.out _ HB.out)).mono ?_;rintro e v8 ⟨rfl,B⟩;replace HB:=Bt' HB B;clear B T3 R2 AT2;go_wp2;go_ret;exact⟨rfl,HB.out⟩
open F (bn aa hid)
theorem dN{w:World}{a b:Us}{u:Ur}(h:At w a u)(k:At w b u)(hl:Lim u):Calls prog 15 #[.agg (Us.cs a),.agg (Us.cs b)] w fun e W'=>e=.returned (.bool true)/\Below w.heap.size w W':=by obtain⟨ps,e1,s1⟩:=h.pv;obtain⟨qs,e2,s2⟩:=k.pv;obtain rfl:ps=qs:=dD (w:=w) (v:=a.pv) (v':=b.pv) (e1.trans e2.symm);rw[h.same k];refine eN a b.pv ps w s1 s2 ?_;have:=hl.2.2.2.2.2.2;rw[<-e1,List.length_map]at this;exact this
open F (bn aa hid)
def Sf(l:List Int)(i:Nat)(m:Bool):Prop:=(∀ c∈l.take i,33<=c/\c≠35)/\m=(l.take i).contains 63
theorem Sf.step{l:List Int}{i:Nat}{m:Bool}(h:Sf l i m){y:Int}(hi:l[i]? = some y)(h1:33<=y/\y≠35):Sf l (i+1) (m||decide (y=63)):=by
 unfold Sf at *;rw[List.take_add_one,hi];refine⟨fun c hc=>?_,?_⟩
 ·rcases List.mem_append.1 hc with hc | hc
  ·exact h.1 c hc
  ·have:c=y:=by simpa using hc
   rw[this];exact h1
 ·rw[h.2,List.contains_eq_any_beq,List.contains_eq_any_beq,List.any_append];congr 1;simp;rw[Bool.eq_iff_iff];simp;exact eq_comm
theorem yV{W:World}{g:Nat}{b:Us}(R:W.heap[g]? = some (.cells (Us.cs b) 29 (0,0)))(h:Bool)(t:ByteArray):((W.setCell ⟨g,22,none⟩ (.bool h)).setCell ⟨g,23,none⟩ (.string t)).heap[g]? = some (.cells (Us.cs { b with hf:=h,fg:=t }) 29 (0,0)) :=
 (heap_setCell_same _ g 23 _ 29 _ (heap_setCell_same W g 22 _ 29 _ R)).trans (by rfl)
theorem tK{W:World}{g:Nat}{b:Us}(R:W.heap[g]? = some (.cells (Us.cs b) 29 (0,0)))(k:Bool)(q:ByteArray)(h:Bool)(t:ByteArray):((((W.setCell ⟨g,20,none⟩ (.bool k)).setCell ⟨g,21,none⟩ (.string q)).setCell ⟨g,22,none⟩ (.bool h)).setCell ⟨g,23,none⟩ (.string t)).heap[g]? = some (.cells (Us.cs { b with hq:=k,qu:=q,hf:=h,fg:=t }) 29 (0,0)) :=
 (yV (b:={ b with hq:=k,qu:=q }) ((heap_setCell_same _ g 21 _ 29 _ (heap_setCell_same W g 20 _ 29 _ R)).trans (by rfl)) h t)
theorem oK{A:List Int->List Int->Int->Prop}{G:World->Prop}(C:Ctr A G)(H35:∀(s f:List Int) (r:Ur×Int),U.Bytes s->U.Bytes f->(∀ c∈s,33<=c/\c≠35)->(s++35::f).length<=4096->UP A s r->∃ g,UP A (s++35::f) (if r.2=0 then ({ r.1 with hf:=true,frg:=g },0) else r))
  (H63:∀(s f:List Int) (r:Ur×Int),U.Bytes s->U.Bytes f->(∀ c∈s,33<=c/\c≠35/\c≠63)->(s++63::f).length<=4096->UP A s r->∃ a b c,UP A (s++63::f) (if r.2=0 then ({ r.1 with hq:=true,qry:=a,hf:=b,frg:=c },0) else r)) (s q f:ByteArray) (w:World) (hG:G w):Calls prog 8 #[.string s,.string q,.string f] w fun e W'=>e=.returned (.bool true)/\Below w.heap.size w W':=by
 have HK:Hid (∀ W,Below w.heap.size w W->G W):=fun W h=>C.keep w W hG h
 have HW:Hid (∀ W,Below w.heap.size w W->Calls prog 10 #[] W fun e W'=>e=.returned (.bool true)/\Below w.heap.size w W'):=fun W h=>(dC C W (HK.out W h)).mono (by
   rintro e W' ⟨rfl,hB⟩
   exact⟨rfl,h.trans (hB.mono h.size)⟩)
 have HB:Hid (Below w.heap.size w w):=Below.refl _ _;by_cases g1:300<s.size
 ·have g1z:(300:Int)<(s.size:Int):=by omega
  clear C hG H35 H63;go_enter func8,ntmps8;go_wp2_with(go_at_call 10;refine(HW.out _ HB.out).mono ?_;rintro e w2 ⟨rfl,B2⟩);go_ret;exact⟨rfl,B2⟩
 by_cases g2:300<q.size
 ·have g1z:¬ (300:Int)<(s.size:Int):=by omega
  have g2z:(300:Int)<(q.size:Int):=by omega
  clear C hG H35 H63;go_enter func8,ntmps8;go_wp2_with(go_at_call 10;refine(HW.out _ HB.out).mono ?_;rintro e w2 ⟨rfl,B2⟩);go_ret;exact⟨rfl,B2⟩
 by_cases g3:300<f.size
 ·have g1z:¬ (300:Int)<(s.size:Int):=by omega
  have g2z:¬ (300:Int)<(q.size:Int):=by omega
  have g3z:(300:Int)<(f.size:Int):=by omega
  clear C hG H35 H63;go_enter func8,ntmps8;go_wp2_with(go_at_call 10;refine(HW.out _ HB.out).mono ?_;rintro e w2 ⟨rfl,B2⟩);go_ret;exact⟨rfl,B2⟩
 have g1z:¬ (300:Int)<(s.size:Int):=by omega
 have g2z:¬ (300:Int)<(q.size:Int):=by omega
 have g3z:¬ (300:Int)<(f.size:Int):=by omega
 have HC:=hid C;have HE35:=hid H35;have HE63:=hid H63;clear C H35 H63 hG;go_enter func8,ntmps8;go_wp2_with fail
 go_loopw [7,8] (fun v7 v8 wr=>∃(i:Nat) (m:Bool),i<=s.size/\v7=.bool m/\v8=.int .i64 i/\wr=w/\Hid (Sf (bn s) i m)) (fun _ v8 _=>s.size - (intOf v8).toNat)
 case atStart=>exact⟨0,false,Nat.zero_le _,rfl,rfl,rfl,⟨by simp,by simp⟩⟩
 case round =>
  obtain⟨i,m,hi,rfl,rfl,rfl,HS⟩:=hrel;by_cases hlt:i<s.size
  ·have hltz:(i:Int)<(s.size:Int):=by omega
   obtain⟨y,hy⟩:=Ex' ((s[i]'hlt).toNat:Nat);have hyb:y<256:=by rw[<-hy];exact(s[i]'hlt).toNat_lt
   have hyl:(bn s)[i]? = some (y:Int):=by unfold F.bn;rw[List.getElem?_map,Lib.data_getElem? s i hlt,<-hy];rfl
   have HYL:=hid hyl;clear hyl;by_cases hb:(y:Int)<=32
   ·clear HC HE35 HE63 HYL;go_wp2_with(go_at_call 10;refine(HW.out _ HB.out).mono ?_;rintro e w2 ⟨rfl,B2⟩);go_ret;exact⟨rfl,B2⟩
   ·by_cases h35:y=35
    ·have h35b:((y:Int)==35)=true:=by rw[h35];rfl
     clear HC HE35 HE63 HYL;go_wp2_with(go_at_call 10;refine(HW.out _ HB.out).mono ?_;rintro e w2 ⟨rfl,B2⟩);go_ret;exact⟨rfl,B2⟩
    ·have h35b:((y:Int)==35)=false:=by simp;omega
     have HS2:=hid (HS.out.step HYL.out ⟨by omega,by omega⟩);cases m with
     | true =>
      go_wp2
      go_roundw
      case rel=>exact⟨i+1,true,by omega,rfl,by go_num,by first | rfl | trivial,HS2⟩
      case measure=>simp[intOf];omega
     | false =>
      have h63b:((y:Int)==63)=decide ((y:Int)=63):=by rw[Bool.eq_iff_iff];simp
      go_wp2
      go_roundw
      case rel=>exact⟨i+1,_,by omega,rfl,by go_num,by first | rfl | trivial,HS2⟩
      case measure=>simp[intOf];omega
  ·have hltz:¬ (i:Int)<(s.size:Int):=by omega
   have hall:(bn s).take i=bn s:=List.take_of_length_le (by rw[aa];omega);have HS3:Hid ((∀ c∈bn s,33<=c/\c≠35)/\m=(bn s).contains 63):=by have:=HS.out;unfold Sf at this;rw[hall]at this;exact this
   have HCP:=hid (HC.out.cp s wr (by omega) (HK.out _ HB.out));clear HS hall;go_wp2_with fail;refine HCP.out.mono ?_;rintro e v1 ⟨⟨a,u,er,x,hl,ha,rfl⟩,B⟩;replace HB:=Bt' HB B;have X1:=hid (aA v1 zc 29);have O1:=hid (aR ha);obtain⟨pk,pb⟩:=cV v1 a;have R1:=hid pk;replace HB:=Bt' HB pb;have AT1:=hid (ha.below pb);have LM:=hid hl;have HX:=hid x;have hbn:bn (s++⟨#[35]⟩++f)=bn s++35::bn f:=by rw[F.aD,F.aD];simp[F.bn]
   have hbz:(s++⟨#[35]⟩++f).size<=700:=by rw[<-aa,hbn];simp[aa];omega
   obtain⟨u2,hu2,hf2,ux⟩:∃ u2,UP A (bn (s++⟨#[35]⟩++f)) (u2,er)/\(er=0->u2.hf=true)/\{ u2 with hf:=u.hf,frg:=u.frg }=u:=by
    obtain⟨g,hg⟩:=HE35.out (bn s) (bn f) (u,er) (U.ay s) (U.ay f) HS3.out.1 (by rw[<-hbn,aa];omega) x;rw[hbn];by_cases he:er=0
    ·rw[if_pos he]at hg;exact⟨{ u with hf:=true,frg:=g },by rw[he];exact hg,fun _=>rfl,rfl⟩
    ·rw[if_neg he]at hg;exact⟨u,hg,fun h=>absurd h he,rfl⟩
   have HP2:=hid (HC.out.cpIs (by omega) hu2 _ (HK.out _ HB.out));have HF2:=hid hf2;have HUX:=hid ux;clear ha pk pb B HCP x hl hu2 hf2 ux hbn;go_wp2_with(refine wpList_store_row rfl 29 (.tmp 9) (.tmp 56) rfl v1.heap.size (Us.cs a) rfl rfl 29 zc X1.out (aL (a)) rfl O1.out ?_);refine HP2.out.mono ?_;rintro e v2 ⟨⟨a2,_,ha2,rfl⟩,B⟩;replace R1:=hid (kept R1.out B);replace AT1:=hid (AT1.out.below B);replace HB:=Bt' HB B;have X2:=hid (aA v2 zc 29);have O2:=hid (aR ha2);obtain⟨q2,hq2⟩:=Ex' ((v2.alloc (.cells zc 29)).setRow v2.heap.size (Us.cs a2));obtain⟨pk,pb⟩:=cV v2 a2;rw[hq2]at pk pb;have hne:v1.heap.size≠v2.heap.size:=by have:=(Array.getElem?_eq_some_iff.1 R1.out).1;omega
   have K1:=kept R1.out pb;have D22:q2.cell? ⟨v1.heap.size,22,none⟩=some (.bool a.hf):=cell_of_row _ _ 22 _ _ _ K1;have E22:q2.cell? ⟨v2.heap.size,22,none⟩=some (.bool a2.hf):=cell_of_row _ _ 22 _ _ _ pk;have E22f:q2.frozen? ⟨v2.heap.size,22,none⟩=false:=frozen_of_row _ _ 22 _ _ pk;have K2:=heap_setCell_same q2 v2.heap.size 22 _ 29 (.bool a.hf) pk;have K3:(q2.setCell ⟨v2.heap.size,22,none⟩ (.bool a.hf)).heap[v1.heap.size]? = _:=(heap_setCell_other q2 ⟨v2.heap.size,22,none⟩ v1.heap.size (.bool a.hf) hne).trans K1;have D23:(q2.setCell ⟨v2.heap.size,22,none⟩ (.bool a.hf)).cell? ⟨v1.heap.size,23,none⟩=some (.string a.fg):=cell_of_row _ _ 23 _ _ _ K3;have E23:(q2.setCell ⟨v2.heap.size,22,none⟩ (.bool a.hf)).cell? ⟨v2.heap.size,23,none⟩=some (.string a2.fg):=(cell_of_row _ _ 23 _ _ _ K2).trans (by rfl);have E23f:(q2.setCell ⟨v2.heap.size,22,none⟩ (.bool a.hf)).frozen? ⟨v2.heap.size,23,none⟩=false:=frozen_of_row _ _ 23 _ _ K2;have S2:=hid (yV pk a.hf a.fg);have S1:Hid (((q2.setCell ⟨v2.heap.size,22,none⟩ (.bool a.hf)).setCell ⟨v2.heap.size,23,none⟩ (.string a.fg)).heap[v1.heap.size]? = some (.cells (Us.cs a) 29 (0,0))):=(heap_setCell_other _ ⟨v2.heap.size,23,none⟩ v1.heap.size (.string a.fg) hne).trans K3;have pb2:=(pb.setCell (p:=⟨v2.heap.size,22,none⟩) (le_refl _) (.bool a.hf)).setCell (p:=⟨v2.heap.size,23,none⟩) (le_refl _) (.string a.fg);replace HB:=Bt' HB pb2;have AS1:=hid (AT1.out.below pb2);have h2:=ha2.below pb2;have AS2:At ((q2.setCell ⟨v2.heap.size,22,none⟩ (.bool a.hf)).setCell ⟨v2.heap.size,23,none⟩ (.string a.fg)) { a2 with hf:=a.hf,fg:=a.fg } u:=by rw[<-HUX.out];exact⟨h2.sc,h2.us,h2.pa,h2.hh,h2.ho,h2.hp,h2.pr,h2.op,h2.bo,h2.hq,h2.qu,AS1.out.hf,AS1.out.fg,h2.pv⟩
   have HSM:=hid (dN AS1.out AS2 LM.out)
   have hflag:(er=0/\a2.hf=true)\/¬ er=0:=by
    by_cases he:er=0
    ·exact .inl ⟨he,ha2.hf.trans (HF2.out he)⟩
    ·exact .inr he
   clear K1 K2 K3 pk pb pb2 h2 AS2 ha2 B HP2 HUX HF2 R1 AT1;rcases hflag with⟨rfl,hf⟩ | he
   ·rw[hf]at E22;clear hf;go_wp2_with(first | (refine wpList_store_row rfl 29 (.tmp 11) (.tmp 64) rfl v2.heap.size (Us.cs a2) rfl rfl 29 zc X2.out (aL (a2)) rfl O2.out ?_) | (refine wpList_load_row rfl 29 (.tmp 9) rfl v1.heap.size rfl 29 (Us.cs (a)) (0,0) _ S1.out underlying29 rfl (aL (a)) ?_) | (refine wpList_load_row rfl 29 (.tmp 11) rfl v2.heap.size rfl 29 (Us.cs ({ a2 with hf:=a.hf,fg:=a.fg })) (0,0) _ S2.out underlying29 rfl (aL ({ a2 with hf:=a.hf,fg:=a.fg })) ?_));refine HSM.out.mono ?_;rintro e v3 ⟨rfl,B⟩;replace HB:=Bt' HB B;replace S1:=hid (kept S1.out B);replace AS1:=hid (AS1.out.below B);clear B HSM D22 D23 E22 E22f E23 E23f S2 X1 O1 X2 O2 hq2 hne;cases m with
    | true =>
     clear HX HC HE35 HE63 HS3 S1 AS1;go_wp2_with(go_at_call 10;refine(HW.out _ HB.out).mono ?_;rintro e w2 ⟨rfl,B2⟩);go_ret;exact⟨rfl,B2⟩
    | false =>
     have hbn:bn (s++⟨#[63]⟩++q)=bn s++63::bn q:=by rw[F.aD,F.aD];simp[F.bn]
     have hbz:(s++⟨#[63]⟩++q).size<=700:=by rw[<-aa,hbn];simp[aa];omega
     have hn63:∀ c∈bn s,33<=c/\c≠35/\c≠63:=by intro c hc;obtain⟨h1,h2⟩:=HS3.out.1 c hc;refine⟨h1,h2,?_⟩;rintro rfl;have:=HS3.out.2;rw[List.contains_iff_mem.2 hc]at this;exact absurd this (by decide)
     obtain⟨u4,hu4,hf4,ux⟩:∃ u4,UP A (bn (s++⟨#[63]⟩++q)) (u4,0)/\((0:Int)=0->u4.hq=true)/\{ u4 with hq:=u.hq,qry:=u.qry,hf:=u.hf,frg:=u.frg }=u:=by
      obtain⟨g,b,c,hg⟩:=HE63.out (bn s) (bn q) (u,0) (U.ay s) (U.ay q) hn63 (by rw[<-hbn,aa];omega) HX.out;rw[hbn];by_cases he0:(0:Int)=0
      ·rw[if_pos he0]at hg;exact⟨{ u with hq:=true,qry:=g,hf:=b,frg:=c },by first | exact hg | (rw[he0];exact hg),fun _=>rfl,rfl⟩
      ·rw[if_neg he0]at hg;exact⟨u,hg,fun h=>absurd h he0,rfl⟩
     have HP4:=hid (HC.out.cpIs (by omega) hu4 _ (HK.out _ HB.out));have HF4:=hid hf4;have HUX:=hid ux;clear hu4 hf4 ux hbn hn63 HE35 HE63 HX HS3;go_wp2_with fail;refine HP4.out.mono ?_;rintro e v4 ⟨⟨a4,_,ha4,rfl⟩,B⟩;replace S1:=hid (kept S1.out B);replace AS1:=hid (AS1.out.below B);replace HB:=Bt' HB B;have X4:=hid (aA v4 zc 29);have O4:=hid (aR ha4);obtain⟨q4,hq4⟩:=Ex' ((v4.alloc (.cells zc 29)).setRow v4.heap.size (Us.cs a4));obtain⟨pk,pb⟩:=cV v4 a4;rw[hq4]at pk pb;have hne:v1.heap.size≠v4.heap.size:=by have:=(Array.getElem?_eq_some_iff.1 S1.out).1;omega
     have K10:=kept S1.out pb;have K20:=pk;have SF:=tK pk a.hq a.qu a.hf a.fg;have PB:=((((pb.setCell (p:=⟨v4.heap.size,20,none⟩) (le_refl _) (.bool a.hq)).setCell (p:=⟨v4.heap.size,21,none⟩) (le_refl _) (.string a.qu)).setCell (p:=⟨v4.heap.size,22,none⟩) (le_refl _) (.bool a.hf)).setCell (p:=⟨v4.heap.size,23,none⟩) (le_refl _) (.string a.fg));have D20:q4.cell? ⟨v1.heap.size,20,none⟩=some (.bool a.hq):=cell_of_row _ _ 20 _ _ _ K10;have E20:q4.cell? ⟨v4.heap.size,20,none⟩=some (.bool a4.hq):=(cell_of_row _ _ 20 _ _ _ K20).trans (by rfl);have F20:q4.frozen? ⟨v4.heap.size,20,none⟩=false:=frozen_of_row _ _ 20 _ _ K20;have K21:=heap_setCell_same q4 v4.heap.size 20 _ 29 (.bool a.hq) K20;have K11:(q4.setCell ⟨v4.heap.size,20,none⟩ (.bool a.hq)).heap[v1.heap.size]? = _:=(heap_setCell_other q4 ⟨v4.heap.size,20,none⟩ v1.heap.size (.bool a.hq) hne).trans K10;obtain⟨q5,hq5⟩:=Ex' (q4.setCell ⟨v4.heap.size,20,none⟩ (.bool a.hq));rw[hq5]at K11 K21 SF PB;have D21:q5.cell? ⟨v1.heap.size,21,none⟩=some (.string a.qu):=cell_of_row _ _ 21 _ _ _ K11;have E21:q5.cell? ⟨v4.heap.size,21,none⟩=some (.string a4.qu):=(cell_of_row _ _ 21 _ _ _ K21).trans (by rfl);have F21:q5.frozen? ⟨v4.heap.size,21,none⟩=false:=frozen_of_row _ _ 21 _ _ K21;have K22:=heap_setCell_same q5 v4.heap.size 21 _ 29 (.string a.qu) K21;have K12:(q5.setCell ⟨v4.heap.size,21,none⟩ (.string a.qu)).heap[v1.heap.size]? = _:=(heap_setCell_other q5 ⟨v4.heap.size,21,none⟩ v1.heap.size (.string a.qu) hne).trans K11;obtain⟨q6,hq6⟩:=Ex' (q5.setCell ⟨v4.heap.size,21,none⟩ (.string a.qu));rw[hq6]at K12 K22 SF PB;have D22:q6.cell? ⟨v1.heap.size,22,none⟩=some (.bool a.hf):=cell_of_row _ _ 22 _ _ _ K12;have E22:q6.cell? ⟨v4.heap.size,22,none⟩=some (.bool a4.hf):=(cell_of_row _ _ 22 _ _ _ K22).trans (by rfl);have F22:q6.frozen? ⟨v4.heap.size,22,none⟩=false:=frozen_of_row _ _ 22 _ _ K22;have K23:=heap_setCell_same q6 v4.heap.size 22 _ 29 (.bool a.hf) K22;have K13:(q6.setCell ⟨v4.heap.size,22,none⟩ (.bool a.hf)).heap[v1.heap.size]? = _:=(heap_setCell_other q6 ⟨v4.heap.size,22,none⟩ v1.heap.size (.bool a.hf) hne).trans K12;obtain⟨q7,hq7⟩:=Ex' (q6.setCell ⟨v4.heap.size,22,none⟩ (.bool a.hf));rw[hq7]at K13 K23 SF PB;have D23:q7.cell? ⟨v1.heap.size,23,none⟩=some (.string a.fg):=cell_of_row _ _ 23 _ _ _ K13;have E23:q7.cell? ⟨v4.heap.size,23,none⟩=some (.string a4.fg):=(cell_of_row _ _ 23 _ _ _ K23).trans (by rfl);have F23:q7.frozen? ⟨v4.heap.size,23,none⟩=false:=frozen_of_row _ _ 23 _ _ K23;have K24:=heap_setCell_same q7 v4.heap.size 23 _ 29 (.string a.fg) K23;have K14:(q7.setCell ⟨v4.heap.size,23,none⟩ (.string a.fg)).heap[v1.heap.size]? = _:=(heap_setCell_other q7 ⟨v4.heap.size,23,none⟩ v1.heap.size (.string a.fg) hne).trans K13;obtain⟨q8,hq8⟩:=Ex' (q7.setCell ⟨v4.heap.size,23,none⟩ (.string a.fg));rw[hq8]at K14 K24 SF PB;have T4:=hid SF;have T1:Hid (q8.heap[v1.heap.size]? = some (.cells (Us.cs a) 29 (0,0))):=K14;have pb2:=PB;replace HB:=Bt' HB pb2;have h4:=ha4.below pb2;have AT1:=AS1.out.below pb2;have AT4:At q8 { a4 with hq:=a.hq,qu:=a.qu,hf:=a.hf,fg:=a.fg } u:=by rw[<-HUX.out];exact⟨h4.sc,h4.us,h4.pa,h4.hh,h4.ho,h4.hp,h4.pr,h4.op,h4.bo,AT1.hq,AT1.qu,AT1.hf,AT1.fg,h4.pv⟩
     have HSM:=hid (dN AT1 AT4 LM.out);rw[ha4.hq.trans (HF4.out (by first | rfl | trivial))]at E20;clear SF PB K10 K20 K11 K12 K13 K14 K21 K22 K23 K24 pk pb pb2 h4 AT1 AT4 ha4 B HP4 HUX HF4 S1 AS1;go_wp2_with(first | (refine wpList_store_row rfl 29 (.tmp 13) (.tmp 96) rfl v4.heap.size (Us.cs a4) rfl rfl 29 zc X4.out (aL (a4)) rfl O4.out ?_) | (refine wpList_load_row rfl 29 (.tmp 9) rfl v1.heap.size rfl 29 (Us.cs (a)) (0,0) _ T1.out underlying29 rfl (aL (a)) ?_) | (refine wpList_load_row rfl 29 (.tmp 13) rfl v4.heap.size rfl 29 (Us.cs ({ a4 with hq:=a.hq,qu:=a.qu,hf:=a.hf,fg:=a.fg })) (0,0) _ T4.out underlying29 rfl (aL ({ a4 with hq:=a.hq,qu:=a.qu,hf:=a.hf,fg:=a.fg })) ?_));refine HSM.out.mono ?_;rintro e v5 ⟨rfl,B⟩;replace HB:=Bt' HB B;clear B HSM HC;go_wp2_with(go_at_call 10;refine(HW.out _ HB.out).mono ?_;rintro e w2 ⟨rfl,B2⟩);go_ret;exact⟨rfl,B2⟩
   ·have heb:(er==0)=false:=by simpa using he
    have hnn:(er != er)=false:=by simp
    go_wp2_with(first | (refine wpList_store_row rfl 29 (.tmp 11) (.tmp 64) rfl v2.heap.size (Us.cs a2) rfl rfl 29 zc X2.out (aL (a2)) rfl O2.out ?_) | (refine wpList_load_row rfl 29 (.tmp 9) rfl v1.heap.size rfl 29 (Us.cs (a)) (0,0) _ S1.out underlying29 rfl (aL (a)) ?_) | (refine wpList_load_row rfl 29 (.tmp 11) rfl v2.heap.size rfl 29 (Us.cs ({ a2 with hf:=a.hf,fg:=a.fg })) (0,0) _ S2.out underlying29 rfl (aL ({ a2 with hf:=a.hf,fg:=a.fg })) ?_));refine HSM.out.mono ?_;rintro e v3 ⟨rfl,B⟩;replace HB:=Bt' HB B;replace S1:=hid (kept S1.out B);replace AS1:=hid (AS1.out.below B);clear B HSM D22 D23 E22 E22f E23 E23f S2 X1 O1 X2 O2 hq2 hne;cases m with
    | true =>
     clear HX HC HE35 HE63 HS3 S1 AS1;go_wp2_with(go_at_call 10;refine(HW.out _ HB.out).mono ?_;rintro e w2 ⟨rfl,B2⟩);go_ret;exact⟨rfl,B2⟩
    | false =>
     have hbn:bn (s++⟨#[63]⟩++q)=bn s++63::bn q:=by rw[F.aD,F.aD];simp[F.bn]
     have hbz:(s++⟨#[63]⟩++q).size<=700:=by rw[<-aa,hbn];simp[aa];omega
     have hn63:∀ c∈bn s,33<=c/\c≠35/\c≠63:=by intro c hc;obtain⟨h1,h2⟩:=HS3.out.1 c hc;refine⟨h1,h2,?_⟩;rintro rfl;have:=HS3.out.2;rw[List.contains_iff_mem.2 hc]at this;exact absurd this (by decide)
     obtain⟨u4,hu4,hf4,ux⟩:∃ u4,UP A (bn (s++⟨#[63]⟩++q)) (u4,er)/\((er:Int)=0->u4.hq=true)/\{ u4 with hq:=u.hq,qry:=u.qry,hf:=u.hf,frg:=u.frg }=u:=by
      obtain⟨g,b,c,hg⟩:=HE63.out (bn s) (bn q) (u,er) (U.ay s) (U.ay q) hn63 (by rw[<-hbn,aa];omega) HX.out;rw[hbn];by_cases he0:(er:Int)=0
      ·rw[if_pos he0]at hg;exact⟨{ u with hq:=true,qry:=g,hf:=b,frg:=c },by first | exact hg | (rw[he0];exact hg),fun _=>rfl,rfl⟩
      ·rw[if_neg he0]at hg;exact⟨u,hg,fun h=>absurd h he0,rfl⟩
     have HP4:=hid (HC.out.cpIs (by omega) hu4 _ (HK.out _ HB.out));have HF4:=hid hf4;have HUX:=hid ux;clear hu4 hf4 ux hbn hn63 HE35 HE63 HX HS3;go_wp2_with fail;refine HP4.out.mono ?_;rintro e v4 ⟨⟨a4,_,ha4,rfl⟩,B⟩;replace S1:=hid (kept S1.out B);replace AS1:=hid (AS1.out.below B);replace HB:=Bt' HB B;have X4:=hid (aA v4 zc 29);have O4:=hid (aR ha4);obtain⟨q4,hq4⟩:=Ex' ((v4.alloc (.cells zc 29)).setRow v4.heap.size (Us.cs a4));obtain⟨pk,pb⟩:=cV v4 a4;rw[hq4]at pk pb;have hne:v1.heap.size≠v4.heap.size:=by have:=(Array.getElem?_eq_some_iff.1 S1.out).1;omega
     have K10:=kept S1.out pb;have K20:=pk;have SF:=tK pk a.hq a.qu a.hf a.fg;have PB:=((((pb.setCell (p:=⟨v4.heap.size,20,none⟩) (le_refl _) (.bool a.hq)).setCell (p:=⟨v4.heap.size,21,none⟩) (le_refl _) (.string a.qu)).setCell (p:=⟨v4.heap.size,22,none⟩) (le_refl _) (.bool a.hf)).setCell (p:=⟨v4.heap.size,23,none⟩) (le_refl _) (.string a.fg));have D20:q4.cell? ⟨v1.heap.size,20,none⟩=some (.bool a.hq):=cell_of_row _ _ 20 _ _ _ K10;have E20:q4.cell? ⟨v4.heap.size,20,none⟩=some (.bool a4.hq):=(cell_of_row _ _ 20 _ _ _ K20).trans (by rfl);have F20:q4.frozen? ⟨v4.heap.size,20,none⟩=false:=frozen_of_row _ _ 20 _ _ K20;have K21:=heap_setCell_same q4 v4.heap.size 20 _ 29 (.bool a.hq) K20;have K11:(q4.setCell ⟨v4.heap.size,20,none⟩ (.bool a.hq)).heap[v1.heap.size]? = _:=(heap_setCell_other q4 ⟨v4.heap.size,20,none⟩ v1.heap.size (.bool a.hq) hne).trans K10;obtain⟨q5,hq5⟩:=Ex' (q4.setCell ⟨v4.heap.size,20,none⟩ (.bool a.hq));rw[hq5]at K11 K21 SF PB;have D21:q5.cell? ⟨v1.heap.size,21,none⟩=some (.string a.qu):=cell_of_row _ _ 21 _ _ _ K11;have E21:q5.cell? ⟨v4.heap.size,21,none⟩=some (.string a4.qu):=(cell_of_row _ _ 21 _ _ _ K21).trans (by rfl);have F21:q5.frozen? ⟨v4.heap.size,21,none⟩=false:=frozen_of_row _ _ 21 _ _ K21;have K22:=heap_setCell_same q5 v4.heap.size 21 _ 29 (.string a.qu) K21;have K12:(q5.setCell ⟨v4.heap.size,21,none⟩ (.string a.qu)).heap[v1.heap.size]? = _:=(heap_setCell_other q5 ⟨v4.heap.size,21,none⟩ v1.heap.size (.string a.qu) hne).trans K11;obtain⟨q6,hq6⟩:=Ex' (q5.setCell ⟨v4.heap.size,21,none⟩ (.string a.qu));rw[hq6]at K12 K22 SF PB;have D22:q6.cell? ⟨v1.heap.size,22,none⟩=some (.bool a.hf):=cell_of_row _ _ 22 _ _ _ K12;have E22:q6.cell? ⟨v4.heap.size,22,none⟩=some (.bool a4.hf):=(cell_of_row _ _ 22 _ _ _ K22).trans (by rfl);have F22:q6.frozen? ⟨v4.heap.size,22,none⟩=false:=frozen_of_row _ _ 22 _ _ K22;have K23:=heap_setCell_same q6 v4.heap.size 22 _ 29 (.bool a.hf) K22;have K13:(q6.setCell ⟨v4.heap.size,22,none⟩ (.bool a.hf)).heap[v1.heap.size]? = _:=(heap_setCell_other q6 ⟨v4.heap.size,22,none⟩ v1.heap.size (.bool a.hf) hne).trans K12;obtain⟨q7,hq7⟩:=Ex' (q6.setCell ⟨v4.heap.size,22,none⟩ (.bool a.hf));rw[hq7]at K13 K23 SF PB;have D23:q7.cell? ⟨v1.heap.size,23,none⟩=some (.string a.fg):=cell_of_row _ _ 23 _ _ _ K13;have E23:q7.cell? ⟨v4.heap.size,23,none⟩=some (.string a4.fg):=(cell_of_row _ _ 23 _ _ _ K23).trans (by rfl);have F23:q7.frozen? ⟨v4.heap.size,23,none⟩=false:=frozen_of_row _ _ 23 _ _ K23;have K24:=heap_setCell_same q7 v4.heap.size 23 _ 29 (.string a.fg) K23;have K14:(q7.setCell ⟨v4.heap.size,23,none⟩ (.string a.fg)).heap[v1.heap.size]? = _:=(heap_setCell_other q7 ⟨v4.heap.size,23,none⟩ v1.heap.size (.string a.fg) hne).trans K13;obtain⟨q8,hq8⟩:=Ex' (q7.setCell ⟨v4.heap.size,23,none⟩ (.string a.fg));rw[hq8]at K14 K24 SF PB;have T4:=hid SF;have T1:Hid (q8.heap[v1.heap.size]? = some (.cells (Us.cs a) 29 (0,0))):=K14;have pb2:=PB;replace HB:=Bt' HB pb2;have h4:=ha4.below pb2;have AT1:=AS1.out.below pb2;have AT4:At q8 { a4 with hq:=a.hq,qu:=a.qu,hf:=a.hf,fg:=a.fg } u:=by rw[<-HUX.out];exact⟨h4.sc,h4.us,h4.pa,h4.hh,h4.ho,h4.hp,h4.pr,h4.op,h4.bo,AT1.hq,AT1.qu,AT1.hf,AT1.fg,h4.pv⟩
     have HSM:=hid (dN AT1 AT4 LM.out)
     skip
     clear SF PB K10 K20 K11 K12 K13 K14 K21 K22 K23 K24 pk pb pb2 h4 AT1 AT4 ha4 B HP4 HUX HF4 S1 AS1;go_wp2_with(first | (refine wpList_store_row rfl 29 (.tmp 13) (.tmp 96) rfl v4.heap.size (Us.cs a4) rfl rfl 29 zc X4.out (aL (a4)) rfl O4.out ?_) | (refine wpList_load_row rfl 29 (.tmp 9) rfl v1.heap.size rfl 29 (Us.cs (a)) (0,0) _ T1.out underlying29 rfl (aL (a)) ?_) | (refine wpList_load_row rfl 29 (.tmp 13) rfl v4.heap.size rfl 29 (Us.cs ({ a4 with hq:=a.hq,qu:=a.qu,hf:=a.hf,fg:=a.fg })) (0,0) _ T4.out underlying29 rfl (aL ({ a4 with hq:=a.hq,qu:=a.qu,hf:=a.hf,fg:=a.fg })) ?_));refine HSM.out.mono ?_;rintro e v5 ⟨rfl,B⟩;replace HB:=Bt' HB B;clear B HSM HC;go_wp2_with(go_at_call 10;refine(HW.out _ HB.out).mono ?_;rintro e w2 ⟨rfl,B2⟩);go_ret;exact⟨rfl,B2⟩
def ic(x:List Int):List Int:=(x.reverse.dropWhile blk).reverse
def cr(x:List Int):List Int:=U.aj (ic ((U.dec x).filter ntb))
theorem kf{p x:List Int}(h:∀ c,p.getLast? = some c->33<=c)(hp:p≠[]):ic (p++x)=p++ic x:=by
 unfold ic;rw[List.reverse_append];cases hx:x.reverse.dropWhile blk with
 | nil =>
  have hall:∀ c∈x.reverse,blk c=true:=by have:=List.takeWhile_append_dropWhile (p:=blk) (l:=x.reverse);rw[hx,append_nil]at this;intro c hc;rw[<-this]at hc;exact(cg hc).1
  rw[List.dropWhile_append_of_pos hall];cases hr:p.reverse with
  | nil=>exact absurd (List.reverse_eq_nil_iff.1 hr) hp
  | cons c t =>
   have hc:=h c (by rw[<-List.head?_reverse,hr];rfl);rw[dropWhile_cons_of_neg (by unfold blk;simp;omega),<-hr];simp
 | cons c t =>
  rw[List.dropWhile_append,hx];simp
theorem du(a b:List Int):U.aj (a++b)=U.aj a++U.aj b:=by show(a++b).flatMap U.enc=a.flatMap U.enc++b.flatMap U.enc;simp
theorem oP{L:List Int}(h:∀ c∈L,U.ab c=true){y:Int}(hy:y∈U.aj L)(h128:y<128):y∈L:=by
 obtain⟨c,hc,hyc⟩:=List.mem_flatMap.1 (show y∈L.flatMap U.enc from hy);by_cases hlow:c<128
 ·rw[E.bR hlow]at hyc;rw[List.mem_singleton.1 hyc];exact hc
 ·have hb:=E.aN (h c hc);unfold U.enc at hyc;rw[if_neg hlow]at hyc;split at hyc
  ·simp at hyc;omega
  ·split at hyc
   ·simp at hyc;omega
   ·simp at hyc;omega
theorem gG{c:Int}(h:qm c=true):c=63\/c=35:=by unfold qm at h;simpa using h
theorem gW{x:List Int}(hb:U.Bytes x):∀ c∈U.dec x,U.ab c=true:=List.all_eq_true.1 (U.bJ x.length x (le_refl _) hb)
theorem dk{f:Int->Bool}{u r:List Int}(hr:r=[]\/∃ d t,r=d::t/\f d=false):(u++r).takeWhile f=u.takeWhile f/\(u++r).dropWhile f=u.dropWhile f++r:=by
 have e:=List.takeWhile_append_dropWhile (p:=f) (l:=u);cases hd:u.dropWhile f with
 | nil =>
  rw[hd,append_nil]at e;have h:=bW (f:=f) (p:=u) (q:=r) (fun c hc=>by rw[<-e]at hc;exact(cg hc).1) hr;rw[h.1,h.2,e];exact⟨rfl,rfl⟩
 | cons c t =>
  have hc:f c=false:=by have:=List.head?_dropWhile_not f u;rw[hd]at this;simpa using this
  have e2:u++r=u.takeWhile f++(c::(t++r)):=by rw[hd]at e;rw[<-cons_append,<-List.append_assoc,e]
  have h:=bW (f:=f) (p:=u.takeWhile f) (q:=c::(t++r)) (fun x hx=>(cg hx).1) (.inr ⟨c,_,rfl,hc⟩);rw[e2,h.1,h.2];exact⟨rfl,rfl⟩
def Fr(d:Int)(l:List Int):Prop:=∀ c∈l,c≠35/\(d=63->c≠63)
theorem Fr.dw{d:Int}{l:List Int}(h:Fr d l)(f:Int->Bool):Fr d (l.dropWhile f):=fun c hc=>h c (dJ hc)
theorem AH{p x:List Int}(h:∀ c∈p,33<=c)(hp:p≠[]):strip (p++x)=p++ic x:=by
 rw[<-kf (fun c hc=>h c (List.mem_of_getLast? hc)) hp];unfold strip ic;congr 3;cases p with
 | nil=>exact absurd rfl hp
 | cons c t =>
  have:=h c (by simp);rw[cons_append,dropWhile_cons_of_neg (by unfold blk;simp;omega)]
theorem zV{s:List Int}(hb:U.Bytes s)(h:∀ c∈s,33<=c):∀ c∈U.dec s,33<=c:=fun c hc=>by
 by_cases h128:c<128
 ·exact h c (H.da s.length s (le_refl _) hb c hc h128)
 ·omega
theorem Ac{l:List Int}(h:∀ c∈l,33<=c):l.filter ntb=l:=by rw[List.filter_eq_self];intro c hc;have:=h c hc;unfold Y.ntb tab;simp;omega
theorem zZ{s:List Int}(hb:U.Bytes s)(h:∀ c∈s,33<=c):cln s=U.aj (U.dec s):=by have h2:=zV hb h;rw[jR,Ac h2,nr (fun c hc=>h2 c (List.mem_of_mem_head? hc)) (fun c hc=>h2 c (List.mem_of_getLast? hc))]
theorem MZ{s f:List Int}{d:Int}(hb:U.Bytes s)(hf:U.Bytes f)(h:∀ c∈s,33<=c)(hd:33<=d/\d<128):cln (s++d::f)=cln s++d::cr f:=by
 have h2:=zV hb h;have hn:ntb d=true:=by unfold Y.ntb tab;simp;omega
 have h3:∀ c∈U.dec s++[d],33<=c:=fun c hc=>by
  rcases List.mem_append.1 hc with hc | hc
  ·exact h2 c hc
  ·rw[List.mem_singleton.1 hc];exact hd.1
 rw[zZ hb h,jR,I.fu d f (by omega) hd.2 hf s.length s (le_refl _) hb,List.filter_append,Ac h2,List.filter_cons_of_pos hn,
   show U.dec s++d::(U.dec f).filter ntb=(U.dec s++[d])++(U.dec f).filter ntb by simp,AH h3 (by simp),du,du,
   show U.aj [d]=[d] from E.bj (fun c hc=>by rw[List.mem_singleton.1 hc];omega)]
 unfold cr;simp
theorem Ki{l g:List Int}{d:Int}(hd:qm d=true):sch (l++d::g)=(sch l).map (fun x=>(x.1,x.2++d::g)):=by
 have hd2:=gG hd;have hs:sgs d=false:=by rcases hd2 with rfl | rfl <;> decide
 cases l with
 | nil =>
  have:ltr d=false:=by rcases hd2 with rfl | rfl <;> decide
  simp only[nil_append,sch];rw[if_neg (by rw[this];simp)];rfl
 | cons c t =>
  simp only[cons_append,sch];by_cases hc:ltr c=true
  ·rw[if_pos hc,if_pos hc];have e:=dk (f:=sgs) (u:=t) (r:=d::g) (.inr ⟨d,g,rfl,hs⟩);rw[e.1,e.2];cases hx:t.dropWhile sgs with
   | nil =>
    simp only[nil_append];rw[if_neg (by omega)];rfl
   | cons x r =>
    simp only[cons_append];by_cases h58:x=58
    ·rw[if_pos h58,if_pos h58];rfl
    ·rw[if_neg h58,if_neg h58];rfl
  ·rw[if_neg hc,if_neg hc];rfl
theorem Nu{m r g:List Int}{d:Int}(hd:qm d=true):aus m (r++d::g)=(aus m r).map (·++d::g):=by
 have hd2:=gG hd;unfold aus;by_cases ho:(own m).isSome=true
 ·rw[if_pos ho,if_pos ho,(dk (f:=sl true) (u:=r) (r:=d::g) (.inr ⟨d,g,rfl,by unfold sl;simp;omega⟩)).2];rfl
 ·rw[if_neg ho,if_neg ho];match r with
  | [] =>
   rw[if_neg (by
     intro e
     have:=congrArg (fun z:List Int=>z.head?) e
     simp at this
     omega),if_neg (by simp)];rfl
  | [a] =>
   rw[if_neg (by
     intro e
     simp at e
     omega),if_neg (by simp)];rfl
  | a::b::r =>
   by_cases h:a=47/\b=47
   ·rw[if_pos (by simp[h.1,h.2]),if_pos (by simp[h.1,h.2])];rfl
   ·rw[if_neg (by simpa using h),if_neg (by simpa using h)];rfl
theorem Dv{sp has:Bool}{w:Ur}{r g:List Int}{d:Int}(hd:qm d=true)(hf:Fr d r):tl sp has w (r++d::g)=qf sp (tl sp has w r) (d::g):=by
 have hd2:=gG hd;have e:=dk (f:=npq) (u:=r) (r:=d::g) (.inr ⟨d,g,rfl,by unfold npq;rw[hd];rfl⟩);unfold tl;rw[e.1,e.2];generalize (if sp=true\/(r.takeWhile npq).head? = some 47 then ({ w with pth:=lst sp (r.takeWhile npq) }:Ur) else if has=true then w else { w with opq:=true,bod:=E.en 0 (U.dec (r.takeWhile npq)) })=w';have hq:=hf.dw npq;cases hx:r.dropWhile npq with
 | nil=>rfl
 | cons c q =>
  rw[hx]at hq;have hc:npq c=false:=by have:=List.head?_dropWhile_not npq r;rw[hx]at this;simpa using this
  have hc2:=gG (show qm c=true by unfold npq at hc;simpa using hc);have h35:=hq c (by simp);have h63:c=63:=by omega
  have hd35:d=35:=by
   rcases hd2 with h | h
   ·exact absurd h63 (h35.2 h)
   ·exact h
  subst h63 hd35;have hn:∀ x∈q,eA x=true:=fun x hx=>by have:=hq x (by simp[hx]);unfold eA;exact decide_eq_true this.1
  have e1:=bW (f:=eA) (p:=q) (q:=35::g) hn (.inr ⟨35,g,rfl,by decide⟩);have e2:=bW (f:=eA) (p:=q) (q:=[]) hn (.inl rfl);rw[append_nil]at e2;simp only[cons_append,qf,if_true];rw[e1.1,e1.2,e2.1,e2.2];rfl
theorem Dq{sp has:Bool}{w:Ur}{r:List Int}:(tl sp has w r).sch=w.sch:=by
 have hf:∀(v:Ur) (l:List Int),(fr v l).sch=v.sch:=fun v l=>by cases l <;> rfl
 have hq:∀(v:Ur) (l:List Int),(qf sp v l).sch=v.sch:=fun v l=>by
  cases l with
  | nil=>rfl
  | cons c t =>
   simp only[qf];split
   ·rw[hf]
   ·rw[hf]
 unfold tl;rw[hq]
 (repeat' split) <;> rfl
theorem Nv{m a:List Int}{h:H.Hst}(he:(ath m a h).2=0):(ath m a h).1.sch=m:=by
 unfold ath at he ⊢;split at he
 ·cases he
 ·rename_i h1;rw[if_neg h1];split at he
  ·rename_i h2;exact absurd he h2
  ·rename_i h2;rw[if_neg h2];split at he
   ·cases he
   ·rfl
theorem Kr{l g:List Int}{d:Int}(hd:qm d=true)(hf:Fr d l)(h:H.Hst):hqy (l++d::g)=hqy l/\rdc (l++d::g) h=(if (rdc l h).2=0 then (qf (own (rdc l h).1.sch).isSome (rdc l h).1 (d::g),0) else rdc l h):=by
 have hs:=Ki (l:=l) (g:=g) hd;unfold hqy rdc;rw[hs];cases hl:sch l with
 | none=>exact⟨rfl,by simp⟩
 | some mr =>
  obtain⟨m,r⟩:=mr;have hfr:Fr d r:=fun c hc=>by obtain⟨_,p,hp⟩:=wZ hl;exact hf c (by rw[hp];simp[hc])
  simp only[map_some];by_cases hn:m=cA
  ·rw[if_pos hn,if_pos hn];exact⟨rfl,by simp[hn]⟩
  ·rw[if_neg hn,if_neg hn,if_neg hn,if_neg hn,Nu hd];cases ha:aus m r with
   | none =>
    simp only[Option.map_none,if_true,true_and];rw[Dv hd hfr,Dq]
    have ho:(own m).isSome=false:=by
     unfold aus at ha;split at ha
     ·cases ha
     ·rename_i h1;simpa using h1
    simp only[ho]
   | some b =>
    simp only[map_some]
    have hb:Fr d b:=by
     unfold aus at ha;split at ha
     ·cases ha;exact hfr.dw _
     ·split at ha
      ·cases ha;exact fun c hc=>hfr c (List.mem_of_mem_drop hc)
      ·cases ha
    have e:=dk (f:=nau (own m).isSome) (u:=b) (r:=d::g) (.inr ⟨d,g,rfl,by unfold nau;rw[hd];simp⟩);rw[e.1,e.2];refine⟨rfl,?_⟩;by_cases h0:(ath m (b.takeWhile (nau (own m).isSome)) h).2=0
    ·simp only[h0,ne_eq,not_true_eq_false,if_false,if_true];rw[Dv hd (hb.dw _),Dq,Nv h0]
    ·rw[if_pos h0,if_pos h0];simp only;rw[if_neg h0]
theorem UP.ext{A:List Int->List Int->Int->Prop}{s f:List Int}{d:Int}{r:Ur×Int}(hs:U.Bytes s)(hf:U.Bytes f)(hd:qm d=true)(h:∀ c∈s,33<=c/\c≠35/\(d=63->c≠63))(l1:(s++d::f).length<=4096)(x:UP A s r):
  UP A (s++d::f) (if r.2=0 then (qf (own r.1.sch).isSome r.1 (d::cr f),0) else r):=by
 have hd2:=gG hd;have hc:=MZ (s:=s) (f:=f) (d:=d) hs hf (fun c hc=>(h c hc).1) (by omega)
 have hfr:Fr d (cln s):=by
  rw[zZ hs (fun c hc=>(h c hc).1)];intro c hc;have hin:c<128->c∈s:=fun h128=>H.da s.length s (le_refl _) hs c (oP (gW hs) hc h128) h128;refine⟨fun e=>?_,fun hd e=>?_⟩
  ·exact(h c (hin (by omega))).2.1 e
  ·exact(h c (hin (by omega))).2.2 hd e
 unfold UP at x ⊢;have hl:s.length<=4096:=by simp at l1;omega
 rw[if_neg (by omega)]at x ⊢;obtain⟨k,k1,k2⟩:=x;obtain⟨e1,e2⟩:=Kr (g:=cr f) hd hfr k;rw[hc];refine⟨k,fun y sp hy=>k1 y sp (by rw[e1]at hy;exact hy),?_⟩;rw[e2,<-k2]
theorem RF(sp:Bool)(u:Ur)(g:List Int):qf sp u (35::g)={ u with hf:=true,frg:=E.en 1 (U.dec g) }:=rfl
theorem RE(sp:Bool)(u:Ur)(g:List Int):∃ a b c,qf sp u (63::g)={ u with hq:=true,qry:=a,hf:=b,frg:=c }:=by
 simp only[qf,if_true];cases g.dropWhile eA with
 | nil=>exact⟨_,_,_,rfl⟩
 | cons x t=>exact⟨_,_,_,rfl⟩
theorem SY{A:List Int->List Int->Int->Prop}(s f:List Int)(r:Ur×Int)(hs:U.Bytes s)(hf:U.Bytes f)(h:∀ c∈s,33<=c/\c≠35)(hl:(s++35::f).length<=4096)(x:UP A s r):∃ g,UP A (s++35::f) (if r.2=0 then ({ r.1 with hf:=true,frg:=g },0) else r):=by refine⟨E.en 1 (U.dec (cr f)),?_⟩;have y:=UP.ext hs hf (d:=35) rfl (fun c hc=>⟨(h c hc).1,(h c hc).2,fun e=>absurd e (by decide)⟩) hl x;rw[RF]at y;exact y
theorem SX{A:List Int->List Int->Int->Prop}(s f:List Int)(r:Ur×Int)(hs:U.Bytes s)(hf:U.Bytes f)(h:∀ c∈s,33<=c/\c≠35/\c≠63)(hl:(s++63::f).length<=4096)(x:UP A s r):∃ a b c,UP A (s++63::f) (if r.2=0 then ({ r.1 with hq:=true,qry:=a,hf:=b,frg:=c },0) else r):=by have y:=UP.ext hs hf (d:=63) rfl (fun c hc=>⟨(h c hc).1,(h c hc).2.1,fun _=>(h c hc).2.2⟩) hl x;obtain⟨a,b,c,e⟩:=RE (own r.1.sch).isSome r.1 (cr f);rw[e]at y;exact⟨a,b,c,y⟩
theorem fragments_at(s q f:ByteArray)(w:World)(hG:GU w)(hs:s.size<=maxLen)(hq:q.size<=maxLen)(hf:f.size<=maxLen):Calls prog 8 #[.string s,.string q,.string f] w fun e W'=>e=.returned (.bool true)/\Below w.heap.size w W' :=
 oK ctr SY SX s q f w hG
end Y
end Go.Proofs.YtlmflmdmolcfhaaGreatDoor
