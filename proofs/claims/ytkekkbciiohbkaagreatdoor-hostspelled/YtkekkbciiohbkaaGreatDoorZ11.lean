/- Texts one behind the other: NOA NIA NIB NIC. -/
import Derived.Test.YtkekkbciiohbkaaGreatDoorZ10
import Derived.Test.YtkekkbciiohbkaaGreatDoorZ8
import Derived.RangeFuncNested
import Derived.RangeFuncBound
import Derived.RangeFuncCalls
import Derived.RangeFuncLeaves
import Derived.RangeFuncBox
import Derived.Shelf.Abstract
import Derived.OwnWalkIn
import Derived.TacticsInMore
import Derived.LoopNIn
import Derived.LoopIn
set_option maxRecDepth 100000
set_option maxHeartbeats 16000000
set_option linter.unusedVariables false
set_option linter.unnecessarySimpa false
namespace Go.Proofs.YtkekkbciiohbkaaGreatDoor.N
open Go.RowKit
theorem lP{α:Type}{P:List α→Prop}(h0:P [])(h1:∀ l p,P l→P (l++[p]))(l:List α):P l:=by
 have:∀ r:List α,P r.reverse:=by
  intro r
  induction r with
  | nil=>exact h0
  | cons a r ih=>rw[List.reverse_cons];exact h1 _ _ ih
 have h:=this l.reverse
 rwa [List.reverse_reverse]at h
theorem tlv(c:Array Value)(i:Nat):c.toList[i]? = c[i]? := by simp
def stp(s:List Pt×List Pt)(p:Pt):List Pt×List Pt:=if p.2=0 then (s.1++cP s.2++[p],[]) else (s.1,s.2++[p])
def st(l:List Pt):List Pt×List Pt:=l.foldl stp ([],[])
def ord(l:List Pt):List Pt:=(st l).1++cP (st l).2
theorem oV(l:List Pt)(p:Pt):st (l++[p])=stp (st l) p:=by simp[st,List.foldl_append]
theorem yj(l:List Pt):(st l).1.length+(st l).2.length=l.length:=by
 induction l using lP with
 | h0=>rfl
 | h1 l p ih =>
  rw[oV];unfold stp;split
  ·have:=(cu (st l).2).len
   simp only[List.length_append,List.length_cons,List.length_nil];omega
  ·simp only[List.length_append,List.length_cons,List.length_nil];omega
def c2(p:Pt):List Value:=[.int .i32 p.1,.int .u8 p.2]
def aY(l:List Pt):List Value:=l.flatMap c2
theorem cw(l:List Pt):(aY l).length=l.length * 2:=by
 induction l with
 | nil=>rfl
 | cons s l ih=>simp only[aY,List.flatMap_cons,List.length_append,List.length_cons]at ih ⊢;rw[ih];simp[c2];omega
theorem ka(l:List Pt):∀ j,j<l.length→(aY l)[j * 2]? = some (.int .i32 (l[j]?.getD z2).1)∧(aY l)[j * 2+1]? = some (.int .u8 (l[j]?.getD z2).2):=by
 induction l with
 | nil=>intro j hj;simp at hj
 | cons s l ih =>
  intro j hj
  rcases j with _ | j
  ·simp[aY,c2]
  ·have h:=ih j (by simpa using hj)
   have e:aY (s::l)=c2 s++aY l:=rfl;have hl:(c2 s).length=2:=rfl;rw[e,List.getElem?_append_right (by omega),List.getElem?_append_right (by omega),hl,show(j+1) * 2 - 2=j * 2 by omega,show(j+1) * 2+1 - 2=j * 2+1 by omega]
   simpa using h
theorem eI{W:World}{base g n cap:Nat}{O S:List Pt}(h:W.ownsRow base 252 2 (.slice (some ⟨g,0,none⟩) n cap) n (aY (O++S))):Pts W g (O.length * 2) S:=by
 obtain⟨hl,h⟩:=h;rcases h with⟨h,_⟩ | ⟨g',cap',cur,e,_,hg,_,_,_,ht⟩
 ·cases h
 ·cases e
  refine⟨cur,252,hg,fun j hj=>?_⟩;have hn:(O++S).length * 2=n * 2:=by rw[←hl,cw]
  rw[List.length_append]at hn;have hf:=ka (O++S) (O.length+j) (by rw[List.length_append];omega);rw[←ht,List.getElem?_take_of_lt (by omega),List.getElem?_take_of_lt (by omega),tlv,tlv]at hf;rw[show O.length * 2+j * 2=(O.length+j) * 2 by omega];rw[List.getElem?_append_right (by omega),show O.length+j - O.length=j by omega]at hf;exact hf
theorem wO{n:Nat}{X:List Value}{l:List Pt}(hn:l.length=n)(hX:X.length=n * 2)(h:∀ j,j<n→X[j * 2]? = some (.int .i32 (l[j]?.getD z2).1)∧X[j * 2+1]? = some (.int .u8 (l[j]?.getD z2).2)):X=aY l:=by
 apply List.ext_getElem?;intro i
 by_cases hi:i<n * 2
 ·have hj:=h (i / 2) (by omega)
  have hf:=ka l (i / 2) (by omega);rcases Nat.mod_two_eq_zero_or_one i with hm | hm
  ·rw[show i=i / 2 * 2 by omega,hj.1,hf.1]
  ·rw[show i=i / 2 * 2+1 by omega,hj.2,hf.2]
 ·rw[List.getElem?_eq_none (by omega),List.getElem?_eq_none (by rw[cw];omega)]
theorem qM{W W':World}{base g n cap:Nat}{O S S':List Pt}(h:W.ownsRow base 252 2 (.slice (some ⟨g,0,none⟩) n cap) n (aY (O++S)))(hc:Chg g (O.length * 2) S.length W W')(hp:Pts W' g (O.length * 2) S')(hl:S'.length=S.length):
  W'.ownsRow base 252 2 (.slice (some ⟨g,0,none⟩) n cap) n (aY (O++S')):=by
 obtain⟨hl0,h⟩:=h;rcases h with⟨h,_⟩ | ⟨g',cap',cur,e,hb,hg,hn1,hn2,hn3,ht⟩
 ·cases h
 ·cases e
  obtain⟨c1,c2',t,e1,e2,hs,hf⟩:=hc.blk;rw[hg]at e1;cases e1
  obtain⟨c3,t3,e3,hp⟩:=hp;rw[e2]at e3;cases e3
  have hn:(O++S).length * 2=n * 2:=by rw[←hl0,cw]
  rw[List.length_append]at hn;refine⟨by rw[cw,List.length_append,hl];exact hn,.inr ⟨g,cap,c2',rfl,hb,e2,hn1,hn2,by rw[hs,hn3],?_⟩⟩;refine wO (n:=n) (by rw[List.length_append,hl];omega) (by rw[List.length_take,Array.length_toList,hs,hn3];have:=Nat.mul_le_mul_right 2 hn1;omega) (fun j hj=>?_);rw[List.getElem?_take_of_lt (by omega),List.getElem?_take_of_lt (by omega),tlv,tlv];by_cases hjo:j<O.length
  ·rw[hf _ (.inl (by omega)),hf _ (.inl (by omega))]
   have hff:=ka (O++S) j (by rw[List.length_append];omega);rw[←ht,List.getElem?_take_of_lt (by omega),List.getElem?_take_of_lt (by omega),tlv,tlv,List.getElem?_append_left hjo]at hff;rw[List.getElem?_append_left hjo];exact hff
  ·have:=hp (j - O.length) (by omega)
   rw[show O.length * 2+(j - O.length) * 2=j * 2 by omega]at this;rw[List.getElem?_append_right (by omega)];exact this
theorem vZ(b o cap n:Nat)(l:List Pt)(W:World)(hn:l.length=n)(hsz:n≤100000)(hP:Pts W b o l):
  Calls Tryz.prog 257 #[.slice (some ⟨b,o,none⟩) n cap] W fun r W'=>r=.returned (.tuple #[])∧Pts W' b o (cP l)∧Chg b o n W W':=by
 have hst:Calls Tryz.prog 292 #[.slice (some ⟨b,o,none⟩) n cap,.func (.func 293) #[] #[]] W fun r W'=>r=.returned (.tuple #[])∧Pts W' b o (cP l)∧Chg b o n W W':=by
  have hs:=hid (sG b o cap n l W hn hsz hP);clear hP hn;go_enter Tryz.func292,Tryz.ntmps292
  go_wp2_with fail;refine(show Calls _ _ _ _ _ from hs.out).mono ?_;rintro r W' ⟨rfl,h1,h2⟩
  go_wp2
  go_end0
  exact⟨rfl,h1,h2⟩
 have hs:=hid hst;clear hP hn hst;go_enter Tryz.func257,Tryz.ntmps257
 go_wp2_with fail;refine(show Calls _ _ _ _ _ from hs.out).mono ?_;rintro r W' ⟨rfl,h1,h2⟩
 go_wp2
 go_end0
 exact⟨rfl,h1,h2⟩
theorem zL(a:Option Addr)(cap:Nat)(W:World):Calls Tryz.prog 312 #[.slice a 0 cap,.int .i64 0,.int .i64 0,.func (.func 293) #[] #[]] W fun r W'=>r=.returned (.tuple #[])∧W'=W:=by
 go_enter Tryz.func312,Tryz.ntmps312
 go_wp2_with fail;refine wp_loop_rounds 1 ?_;rw[rounds_succ];go_wp2
 go_end0
 exact⟨rfl,rfl⟩
theorem mq(a:Option Addr)(cap:Nat)(W:World):Calls Tryz.prog 257 #[.slice a 0 cap] W fun r W'=>r=.returned (.tuple #[])∧W'=W:=by
 have h1:Calls Tryz.prog 306 #[.slice a 0 cap,.int .i64 0,.func (.func 293) #[] #[]] W fun r W'=>r=.returned (.tuple #[])∧W'=W:=by
  go_enter Tryz.func306,Tryz.ntmps306
  go_wp2_with fail;refine wp_loop_rounds 1 ?_;rw[rounds_succ]
  go_wp2_with fail;refine(zL a cap _).mono ?_;rintro r W' ⟨rfl,rfl⟩
  go_wp2_with fail;refine wp_loop_rounds 1 ?_;rw[rounds_succ];go_wp2
  go_end0
  exact⟨rfl,rfl⟩
 have h2:Calls Tryz.prog 292 #[.slice a 0 cap,.func (.func 293) #[] #[]] W fun r W'=>r=.returned (.tuple #[])∧W'=W:=by
  have hs:=hid h1;clear h1;go_enter Tryz.func292,Tryz.ntmps292
  go_wp2_with fail;refine(show Calls _ _ _ _ _ from hs.out).mono ?_;rintro r W' ⟨rfl,rfl⟩
  go_wp2
  go_end0
  exact⟨rfl,rfl⟩
 have hs:=hid h2;clear h1 h2;go_enter Tryz.func257,Tryz.ntmps257
 go_wp2_with fail;refine(show Calls _ _ _ _ _ from hs.out).mono ?_;rintro r W' ⟨rfl,rfl⟩
 go_wp2
 go_end0
 exact⟨rfl,rfl⟩
open Go.RowKit Go.Shelf
def stays:Obj→Bool
 | .cells _ t _=>decide (t≠252∧t≠201∧t≠3)
 | _=>false
structure Kp(B:Nat)(W W':World):Prop where
 size:W.heap.size≤W'.heap.size
 cel:∀(k:Nat) (o:Obj),W.heap[k]? = some o→stays o=true→W'.heap[k]? = some o
 oth:∀(k:Nat) (o:Obj),B≤k→W.heap[k]? = some o→o.isCells=false→W'.heap[k]? = some o
theorem Kp.refl(B:Nat)(W:World):Kp B W W:=⟨Nat.le_refl _,fun _ _ h _=>h,fun _ _ _ h _=>h⟩
theorem Kp.trans{B:Nat}{X Y Z:World}(h:Kp B X Y)(k:Kp B Y Z):Kp B X Z :=
 ⟨Nat.le_trans h.size k.size,fun i o hi ho=>k.cel i o (h.cel i o hi ho) ho,fun i o hb hi ho=>k.oth i o hb (h.oth i o hb hi ho) ho⟩
theorem Kp.mono{B C:Nat}{X Y:World}(h:Kp B X Y)(hb:B≤C):Kp C X Y:=⟨h.size,h.cel,fun i o hi=>h.oth i o (Nat.le_trans hb hi)⟩
theorem Kp.grown{B:Nat}{X Y:World}{row:Option Nat}(hg:X.grownBy Y row)(hr:∀ k,row=some k→∃ o:Obj,X.heap[k]? = some o∧o.isCells=true∧stays o=false):Kp B X Y:=by
 refine⟨hg.size,fun k o hk ho=>(hg.block k (Array.getElem?_eq_some_iff.1 hk).1 (fun e=>?_)).trans hk,fun k o _ hk ho=>(hg.block k (Array.getElem?_eq_some_iff.1 hk).1 (fun e=>?_)).trans hk⟩
 ·obtain⟨o',h1,h2,h3⟩:=hr k e.symm
  rw[hk]at h1;cases h1;rw[ho]at h3;cases h3
 ·obtain⟨o',h1,h2,h3⟩:=hr k e.symm
  rw[hk]at h1;cases h1;rw[ho]at h2;cases h2
theorem Kp.below{B:Nat}{X Y:World}(h:Below X.heap.size X Y):Kp B X Y :=
 ⟨h.size,fun k o hk _=>(h.block k (Array.getElem?_eq_some_iff.1 hk).1).trans hk,fun k o _ hk _=>(h.block k (Array.getElem?_eq_some_iff.1 hk).1).trans hk⟩
theorem Kp.boxed{B b:Nat}{X Y:World}{t:TypeId}{v:Value}(h:Kp B X Y)(hb:Boxed X b t v)(ht:t≠252∧t≠201∧t≠3):Boxed Y b t v :=
 h.cel b _ hb (by simpa[stays]using ht)
def iM(g:Nat)(lb:Array Value)(xs:List Int)(w:World):Prop :=
 ∀(l:Nat) (J:List Int→World→Prop) (W:World),Below w.heap.size w W→OwnFrom W.heap.size J →
  (∀ pre x W1,J pre W1→pre++[x] <+: xs→∀ m,YieldAt Fence.wide m Tryz.prog l #[.int .i32 x] W1 fun e W'=>e=.returned (.bool true)∧J (pre++[x]) W'∧Kp W.heap.size W1 W') →
  J [] W→∀ n,CallsIn Fence.wide n Tryz.prog g (#[.func (.yield l) #[] #[]]++lb) W fun e W'=>(∃ v,e=.returned v)∧J xs W'
def Gw(B:Nat)(I:List Int→World→Prop)(xs:List Int)(W:World):Exit→Act→World→Prop
 | .normal,_,W'=>Kp B W W'∧I xs W'
 | _,_,_=>False
theorem OwnFrom.mono{β:Type}{B C:Nat}{I:β→World→Prop}(h:OwnFrom B I)(hb:B≤C):OwnFrom C I :=
 fun s X Y row hs hg hr=>h s X Y row hs hg (fun r e=>⟨Nat.le_trans hb (hr r e).1,(hr r e).2⟩)
theorem dz{β:Type}{B k:Nat}{o:Obj}(hk:k<B):OwnFrom B (fun(_:β) W=>W.heap[k]? = some o) :=
 fun s X Y row hs hg hr=>(hg.block k (Array.getElem?_eq_some_iff.1 hs).1 (fun e=>by have:=(hr k e.symm).1;omega)).trans hs
theorem gB{g:Operand}{ps:Array Tmp}{assign body:Code}{Q:Exit→Act→World→Prop}{a:Act}{w:World}{n gf:Nat}{lb:Array Value}{xs:List Int}
  (hg:a.eval g=.func (.func gf) #[] lb) (eg:∀ args w,(callFunc gf args).run Tryz.prog w=.ok (.enter gf args) w) (hseq:iM gf lb xs w) (hps:ps.size=1)
  (I:List Int→World→Prop) (hI:OwnFrom w.heap.size I) (h0:I [] w) (a₁:Int→Act)
  (hassign:∀(l:Nat) (x:Int) (W:World) (m:Nat) (K:Act→World→Prop),K (a₁ x) W →
    assign.wpIn (Fence.wide.inRound l) m Tryz.prog (Exit.then K (fun _ _ _=>False)) { tmps:=(ps.zip #[Value.int .i32 x]).foldl (fun t (p,v)=>t.setIfInBounds p v) a.tmps,defers:=[] } W)
  (hbody:∀(l:Nat) (pre:List Int) (x:Int) (W:World) (m:Nat),I pre W→pre++[x] <+: xs→body.wpIn (Fence.wide.inRound l) m Tryz.prog (Gw w.heap.size I (pre++[x]) W) (a₁ x) W)
  (hdone:∀(D:Nat) (W:World),w.heap.size≤D→I xs W→W.heap[D]? = some (.deferred (some []))→Q .normal { a with defers:={ target:=.collected D,args:=#[] }::a.defers } W) :
  (Code.rangeFunc g ps assign body).wpIn Fence.wide n Tryz.prog Q a w:=by
 refine wpIn_rangeFunc fun fn hfn=>?_
 obtain⟨B,hB⟩:∃ B,B=w.heap.size:=⟨_,rfl⟩;obtain⟨rdy,hrdy⟩:∃ r:Loop,r={ state:=.ready,pending:=none,fn:=fn,tmps:=a.tmps,params:=ps,assign:=assign,body:=body,defers:=B }:=⟨_,rfl⟩;obtain⟨V,hV⟩:∃ V,V=(w.alloc (.deferred (some []))).alloc (.loop rdy):=⟨_,rfl⟩;have hVs:V.heap.size=B+2:=by rw[hV,hB];simp
 have hVl:V.heap[B+1]? = some (.loop rdy):=by rw[hV,hB];have:=World.alloc_heap_new (w.alloc (.deferred (some []))) (.loop rdy);rwa [World.size_alloc]at this
 have hVd:V.heap[B]? = some (.deferred (some [])):=by rw[hV,hB];exact(Below.heap_alloc _ _ _ (by simp)).trans (World.alloc_heap_new w _)
 have hVb:Below w.heap.size w V:=by rw[hV];exact((Below.refl _ w).alloc (Nat.le_refl _) _).alloc (by simp) _
 refine⟨B+1,[{ target:=.collected B,args:=#[] }],V,{ target:=.fn (.func gf) lb,args:=#[.func (.yield (B+1)) #[] #[]] },V,gf,#[.func (.yield (B+1)) #[] #[]]++lb,V,?_,?_,fun _ _=>trivial,?_,(fun h=>by cases h),?_⟩
 ·rw[hV,hrdy,hB];exact run_enterLoop_outer _ _ _ _ _
 ·simp only[resolve,hg]
  simp[go_sem]
 ·simp[invoke,go_sem,eg]
 have hIb:OwnFrom B I:=by rw[hB];exact hI
 refine(hseq (B+1) (fun pre W=>I pre W∧W.heap[B+1]? = some (.loop rdy)∧W.heap[B]? = some (.deferred (some []))) V hVb ?_ ?_ ⟨?_,hVl,hVd⟩ (n - 1)).mono ?_
 ·refine OwnFrom.and (OwnFrom.mono hI (by omega)) (OwnFrom.and (dz (by omega)) (dz (by omega)))
 ·rintro pre x W ⟨hi,hl,hd⟩ hp m
  have hlt:B+1<W.heap.size:=(Array.getElem?_eq_some_iff.1 hl).1;have hy:=run_yield (P:=Tryz.prog) (args:=#[Value.int .i32 x]) hl (by rw[hrdy];exact hps.symm);rw[hrdy]at hy;refine⟨fn,_,assign,body,hy,roundIn_of_wpIn hfn (hassign _ x W m _ ⟨_,run_beginRound hl (by rw[hrdy]),?_⟩)⟩;obtain⟨V1,hV1⟩:∃ V1,V1=W.putObj (B+1) (.loop { rdy with state:=.busy }):=⟨_,rfl⟩;rw[←hV1];have l1:V1.heap[B+1]? = some (.loop { rdy with state:=.busy }):=by rw[hV1];exact World.putObj_heap_same hlt
  have d1:V1.heap[B]? = some (.deferred (some [])):=by rw[hV1];exact(World.putObj_heap_other (by omega)).trans hd
  have i1:I pre V1:=by rw[hV1];exact hIb.putObj _ hi (by omega) hl rfl
  have k1:Kp (B+2) W V1:=by
   rw[hV1];refine⟨by simp,fun k o hk ho=>?_,fun k o hb hk ho=>(World.putObj_heap_other (by omega)).trans hk⟩;by_cases e:k=B+1
   ·subst e;rw[hl]at hk;cases hk;cases ho
   ·exact(World.putObj_heap_other e).trans hk
  refine wpIn_mono (hbody (B+1) pre x V1 m i1 hp) ?_;rintro ex a3 W3 hq
  cases ex with
  | normal =>
   obtain⟨k3,i3⟩:=hq;rw[←hB]at k3;have l3:=k3.oth _ _ (by omega) l1 rfl;have d3:=k3.oth _ _ (Nat.le_refl _) d1 rfl;refine⟨_,_,run_endRound (P:=Tryz.prog) none l3,rfl,⟨hIb.putObj _ i3 (by omega) l3 rfl,?_,(World.putObj_heap_other (by omega)).trans d3⟩,?_⟩
   ·rw[World.putObj_heap_same (Array.getElem?_eq_some_iff.1 l3).1,hrdy];rfl
   ·rw[hVs]
    refine k1.trans ((k3.mono (by omega)).trans ?_);refine⟨by simp,fun k o hk ho=>?_,fun k o hb hk ho=>(World.putObj_heap_other (by omega)).trans hk⟩;by_cases e:k=B+1
    ·subst e;rw[l3]at hk;cases hk;cases ho
    ·exact(World.putObj_heap_other e).trans hk
  | ret=>exact hq.elim
  | exit _=>exact hq.elim
  | goto _=>exact hq.elim
  | panic _=>exact hq.elim
  | outgrown=>exact hq.elim
 ·rw[hV];exact OwnFrom.alloc hI _ (OwnFrom.alloc hI _ h0)
 ·rintro e W2 ⟨⟨v,rfl⟩,hi,hl,hd⟩
  refine⟨none,_,by have:=run_endLoop (P:=Tryz.prog) hl (by rw[hrdy];simp);rw[hrdy]at this;exact this,?_⟩;rw[←hrdy];exact hdone B _ (by omega) (hIb.putObj _ hi (by omega) hl rfl) ((World.putObj_heap_other (by omega)).trans hd)
attribute [local go_sem] Oper.semAt_some
def bA(W:World)(v:Value)(zs:List Int):Prop :=
 ∃ a cap,v=.slice a zs.length cap∧(0<zs.length→∃ b off cur,a=some ⟨b,off,none⟩∧W.heap[b]? = some (.cells cur 21 (0,0))∧∀ j,j<zs.length→cur[off+j]? = some (.int .i32 (zs[j]?.getD 0)))
theorem bA.of_ints{W:World}{v:Value}{zs:List Int}(h:D.au W v zs):bA W v zs:=by
 obtain⟨a,cap,e,_,f⟩:=h;refine⟨a,cap,e,fun hp=>?_⟩;obtain⟨b,e2,g⟩:=f hp;refine⟨b,0,_,e2,g,fun j hj=>?_⟩;simp[List.getElem?_eq_getElem hj]
theorem bA.of_own{W:World}{base n:Nat}{v:Value}{zs:List Int}(hn:n=zs.length)(h:W.ownsRow base 21 1 v n (zs.map (Value.int .i32))):bA W v zs:=by
 subst hn;rcases h.2 with⟨rfl,h0⟩ | ⟨g,cap,cur,rfl,_,hg,_,_,_,ht⟩
 ·exact⟨none,0,by rw[h0],fun hp=>by omega⟩
 ·refine⟨_,cap,rfl,fun hp=>⟨g,0,cur,rfl,hg,fun j hj=>?_⟩⟩
  have h1:(cur.toList.take (zs.length * 1))[j]? = some (.int .i32 (zs[j]?.getD 0)):=by rw[ht,List.getElem?_map,List.getElem?_eq_getElem hj];rfl
  rw[List.getElem?_take_of_lt (by omega)]at h1
  simpa using h1
theorem bA.kp{B:Nat}{W W':World}{v:Value}{zs:List Int}(h:bA W v zs)(hk:Kp B W W'):bA W' v zs:=by
 obtain⟨a,cap,e,f⟩:=h;refine⟨a,cap,e,fun hp=>?_⟩;obtain⟨b,off,cur,e2,g,hc⟩:=f hp;exact⟨b,off,cur,e2,hk.cel b _ g rfl,hc⟩
theorem bA.own{β:Type}(v:Value)(zs:List Int):Own (fun(_:β) W=>bA W v zs):=by
 rintro s X Y row ⟨a,cap,e,f⟩ hg hr
 refine⟨a,cap,e,fun hp=>?_⟩;obtain⟨b,off,cur,e2,g,hc⟩:=f hp;refine⟨b,off,cur,e2,(hg.block b (Array.getElem?_eq_some_iff.1 g).1 (fun e'=>?_)).trans g,hc⟩;obtain⟨o,ho,hcl⟩:=hr b e'.symm;rw[g]at ho;cases ho;cases hcl
theorem bA.cell{W:World}{a:Option Addr}{n cap:Nat}{zs:List Int}(h:bA W (.slice a n cap) zs)(hn:n=zs.length)(hp:0<zs.length):∃ b off,a=some ⟨b,off,none⟩∧b<W.heap.size∧∀ j,j<zs.length→W.cell? ⟨b,off+j,none⟩=some (.int .i32 (zs[j]?.getD 0)):=by
 obtain⟨a',cap',e,f⟩:=h;cases e
 obtain⟨b,off,cur,e2,g,hc⟩:=f hp;exact⟨b,off,e2,(Array.getElem?_eq_some_iff.1 g).1,fun j hj=>by simp[World.cell?,g,hc j hj]⟩
theorem gR{W W':World}(h:Below W.heap.size W W'):W.grownBy W' none:=⟨h.os,h.tape,h.output,h.size,fun k hk _=>h.block k hk⟩
theorem OwnFrom.below{β:Type}{B:Nat}{J:β→World→Prop}(hJ:OwnFrom B J){s:β}{W W':World}(h:J s W)(hb:Below W.heap.size W W'):J s W' :=
 hJ s W W' none h (gR hb) (fun r e=>by cases e)
def mk(D:Nat):Deferred:={ target:=.collected D,args:=#[] }
def Marks(B:Nat)(Ds:List Nat)(W:World):Prop:=∀ D∈Ds,B≤D∧W.heap[D]? = some (.deferred (some []))
theorem Marks.kp{B:Nat}{Ds:List Nat}{W W':World}(h:Marks B Ds W)(hk:Kp B W W'):Marks B Ds W':=fun D hD=>⟨(h D hD).1,hk.oth D _ (h D hD).1 (h D hD).2 rfl⟩
theorem Marks.ownFrom{β:Type}{B C:Nat}{Ds:List Nat}(h:∀ D∈Ds,D<C):OwnFrom C (fun(_:β) W=>Marks B Ds W) :=
 fun s X Y row hs hg hr D hD=>⟨(hs D hD).1,(hg.block D (Array.getElem?_eq_some_iff.1 (hs D hD).2).1 (fun e=>by have:=(hr D e.symm).1;have:=h D hD;omega)).trans (hs D hD).2⟩
theorem fP{n:Nat}{fn:Func}{tmps:Array Value}{R:Ending→World→Prop}{J:List Int→World→Prop}{xs:List Int}{B:Nat}{v:Value}(hJ:OwnFrom B J)(hres:∀ W,(results fn tmps).run Tryz.prog W=.ok v W)
  (hR:∀ W',J xs W'→R (.returned v) W'):∀(Ds:List Nat) (W:World),Ds.Nodup→Marks B Ds W→J xs W→LeavesInM Fence.wide n Tryz.prog fn tmps R (Ds.map mk) .returning W
 | [],W,_,_,hj=>⟨_,hres W,hR W hj⟩
 | D::Ds,W,hn,hm,hj=>by
  have hD:=hm D (by simp);refine⟨by simp,.inl ⟨D,_,rfl,run_takeDeferred hD.2,?_⟩⟩;refine fP hJ hres hR Ds _ (List.nodup_cons.1 hn).2 (fun E hE=>⟨(hm E (by simp[hE])).1,?_⟩) (hJ.putObj _ hj hD.1 hD.2 rfl);exact(World.putObj_heap_other (fun e=>(List.nodup_cons.1 hn).1 (by rw[←e];exact hE))).trans (hm E (by simp[hE])).2
theorem sn(n:Nat)(r:Int)(w:World):
  CallsIn Fence.wide n Tryz.prog 259 #[.int .i32 r] w fun e w'=>e=.returned (.func (.func 295) #[] #[.pointer (some ⟨w.heap.size,0,none⟩)])∧w'=w.alloc (.cells #[.int .i32 r] 21):=by
 refine callsIn_of_wp Tryz.func259 rfl trivial ?_ rfl;simp only[Tryz.ntmps259,List.size_toArray,List.length_cons,List.length_nil,Nat.reduceAdd,Nat.reduceSub,Array.replicate_succ,Array.replicate_zero,List.push_toArray,List.append_toArray,List.nil_append,List.cons_append]
 gi_wp2
 go_ret;exact⟨rfl,rfl⟩
theorem DH(r:Int):(D.dcp r).length≤2:=by
 unfold D.dcp;split
 ·simp
 ·split <;> simp
theorem jT(k:Nat)(h:k<1000000):wrap64 ((k:Int)+1)=((k+1:Nat):Int):=by unfold wrap64;omega
theorem nh(r:Int)(hp:∀ p∈D.dcp r,∀(w:World) (Br:Nat),Boxed w Br 21 (.int .i32 p)→iM 295 #[.pointer (some ⟨Br,0,none⟩)] (fd p) w)
  (w:World) (Br:Nat) (hbr:Boxed w Br 21 (.int .i32 r)):iM 295 #[.pointer (some ⟨Br,0,none⟩)] (fd r) w:=by
 intro l J W hW hJ hY h0 n
 have hbW:Boxed W Br 21 (.int .i32 r):=(hW.block Br hbr.lt).trans hbr;have hdec:=D.tn r;have hfn:=@kd r;have hfc:=@Dm r;have hLl:=DH r
 generalize D.dcp r=L at hp hdec hfn hfc hLl
 have HDEC:=hid hdec;have HP:=hid hp;have hc1:=(hbW.alloc (.cells #[.func (.yield l) #[] #[]] 100)).cell;have hby:=Boxed.new W 100 (.func (.yield l) #[] #[]);obtain⟨B,hB⟩:∃ B,B=W.heap.size:=⟨_,rfl⟩;rw[←hB]at hby;have HB:=hid hB;have HJ:Hid (OwnFrom B J):=by rw[hB];exact hJ
 clear hdec hp hJ;refine callsIn_of_wp_marks Tryz.func295 rfl trivial ?_ rfl;simp only[Tryz.ntmps295,List.size_toArray,List.length_cons,List.length_nil,Nat.reduceAdd,Nat.reduceSub,Array.replicate_succ,Array.replicate_zero,List.push_toArray,List.append_toArray,List.nil_append,List.cons_append]
 gi_wp2_with fail
 refine⟨trivial,(fun h=>by cases h),?_⟩;refine(callsIn_wide.2 (HDEC.out _)).mono ?_;rintro e W2 ⟨⟨v,rfl,hI⟩,hB2⟩
 have hrow:=bA.of_ints hI;have hbb:Below W.heap.size W W2:=((Below.refl _ W).alloc (Nat.le_refl _) _).trans (hB2.mono (by simp));have hy2:Boxed W2 B 100 (.func (.yield l) #[] #[]):=(hB2.block B (by rw[hB];simp)).trans hby;have hr2:Boxed W2 Br 21 (.int .i32 r):=(hbb.block Br hbW.lt).trans hbW;have hj2:J [] W2:=OwnFrom.below HJ.out h0 hbb;have hs2:B<W2.heap.size:=hy2.lt;obtain⟨a,cap,rfl,hrf⟩:=hrow;rw[←hB];clear hI hbb hc1 hby hB hbW hB2;by_cases hL:L=[]
 ·subst hL
  have cy:=hy2.cell;have cr:=hr2.cell;have hfd:fd r=[r]:=hfn rfl;obtain⟨fn,tmps,assign,body,hy,hR⟩:=hY [] r W2 hj2 (by rw[hfd];simp) (n - 1)
  gi_wp2
  refine⟨(fun h=>by cases h),hR.mono ?_⟩;rintro e W3 ⟨rfl,hj3,hk3⟩
  gi_wp2
  exact⟨_,results_none rfl _ _ _,⟨_,rfl⟩,by rw[hfd];exact hj3⟩
 ·have hLp:0<L.length:=by cases L with
   | nil=>exact absurd rfl hL
   | cons a l=>simp
  have hLb:((L.length:Int)==0)=false:=by simp;omega
  obtain⟨b,off,cur,rfl,hbk,hcur⟩:=hrf hLp;have HC:=hid hcur;have hfd:Hid (fd r=L.flatMap fd):=hfc hL;clear hcur hrf hfn hfc HDEC hL
  gi_wp2_with fail
  refine wpIn_loop (fun act wr=>∃(k:Nat) (Ds:List Nat) (u4 u5 u6 u12 u13 u14 u18 u19 u20 u21 u22 u23 u24 u25 u26 u27 u28:Value),k≤L.length∧Boxed wr B 100 (.func (.yield l) #[] #[])∧wr.heap[b]? = some (.cells cur 21 (0,0))∧J ((L.take k).flatMap fd) wr∧Marks B Ds wr∧Ds.Nodup ∧
      act={ tmps:=#[.func (.yield l) #[] #[],.pointer (some ⟨Br,0,none⟩),.pointer (some ⟨B,0,none⟩),.slice (some ⟨b,off,none⟩) L.length cap,u4,u5,u6,.int .i32 r,.slice (some ⟨b,off,none⟩) L.length cap,.slice (some ⟨b,off,none⟩) L.length cap,.int .i64 L.length,.bool false,u12,u13,u14,.slice (some ⟨b,off,none⟩) L.length cap,.int .i64 L.length,.int .i64 k,u18,u19,u20,u21,u22,u23,u24,u25,u26,u27,u28],defers:=Ds.map mk })
   (fun act _=>L.length - (intOf (act.tmps.getD 17 undef)).toNat) ?_ ?_
  ·exact⟨0,[],_,_,_,_,_,_,_,_,_,_,_,_,_,_,_,_,_,Nat.zero_le _,hy2,hbk,by simpa using hj2,(fun D hD=>by cases hD),List.nodup_nil,rfl⟩
  ·rintro act wr ⟨k,Ds,u4,u5,u6,u12,u13,u14,u18,u19,u20,u21,u22,u23,u24,u25,u26,u27,u28,hk,hyr,hbr',hjr,hmr,hnd,rfl⟩
   by_cases hlt:k<L.length
   ·have hltz:(k:Int)<(L.length:Int):=by omega
    have hck:wr.cell? ⟨b,off+k,none⟩=some (.int .i32 (L[k]?.getD 0)):=by simp[World.cell?,hbr',HC.out k hlt]
    have hpk:L[k]?.getD 0∈L:=by rw[List.getElem?_eq_getElem hlt];exact List.getElem_mem hlt
    have htk:Hid ((L.take (k+1)).flatMap fd=(L.take k).flatMap fd++fd (L[k]?.getD 0)):=by
     show _=_
     rw[List.take_succ_eq_append_getElem hlt,List.flatMap_append,List.getElem?_eq_getElem hlt];simp
    have hpre:Hid ((L.take (k+1)).flatMap fd <+: fd r):=by
     show _ <+: _
     rw[hfd.out]
     conv=>rhs;rw[←List.take_append_drop (k+1) L,List.flatMap_append]
     exact List.prefix_append _ _
    have HPK:=hid (HP.out _ hpk)
    generalize L[k]?.getD 0=p at hck htk HPK
    clear hpk HP
    gi_wp2_with fail
    refine⟨trivial,(fun h=>by cases h),?_⟩;refine(sn _ p _).mono ?_;rintro e W3 ⟨rfl,hW3⟩
    gi_wp2_with fail
    clear hW3;obtain⟨V,hV⟩:∃ V,V=wr.alloc (.cells #[.int .i32 p] 21):=⟨_,rfl⟩;have hVb:Below wr.heap.size wr V:=by rw[hV];exact(Below.refl _ wr).alloc (Nat.le_refl _) _
    have hVp:Boxed V wr.heap.size 21 (.int .i32 p):=by rw[hV];exact Boxed.new wr 21 _
    have hVy:Boxed V B 100 (.func (.yield l) #[] #[]):=(hVb.block B hyr.lt).trans hyr;have hVc:V.heap[b]? = some (.cells cur 21 (0,0)):=(hVb.block b (Array.getElem?_eq_some_iff.1 hbr').1).trans hbr';have hVj:J ((L.take k).flatMap fd) V:=OwnFrom.below HJ.out hjr hVb;have hVm:Marks B Ds V:=fun D hD=>⟨(hmr D hD).1,(hVb.block D (Array.getElem?_eq_some_iff.1 (hmr D hD).2).1).trans (hmr D hD).2⟩
    have hBV:B≤V.heap.size:=Nat.le_of_lt hVy.lt;have hDV:∀ D∈Ds,D<V.heap.size:=fun D hD=>(Array.getElem?_eq_some_iff.1 (hVm D hD).2).1
    have hbV:b<V.heap.size:=(Array.getElem?_eq_some_iff.1 hVc).1;rw[←hV];clear hyr hbr' hjr hmr hVb hV hck
    refine gB (gf:=295) (lb:=#[.pointer (some ⟨wr.heap.size,0,none⟩)]) (xs:=fd p) rfl (enters_of Tryz.func295 (by kernel_rfl) rfl) (HPK.out V wr.heap.size hVp) rfl
     (fun pre W'=>J ((L.take k).flatMap fd++pre) W'∧Boxed W' B 100 (.func (.yield l) #[] #[])∧W'.heap[b]? = some (.cells cur 21 (0,0))∧Marks B Ds W')
     (OwnFrom.and (fun s X Y row hs hg hr=>OwnFrom.mono HJ.out hBV _ X Y row hs hg hr) (OwnFrom.and (Own.from (boxed_own _ _ _) _) (OwnFrom.and (dz hbV) (Marks.ownFrom hDV))))
     ⟨by simpa using hVj,hVy,hVc,hVm⟩
     (fun x=>{ tmps:=#[.func (.yield l) #[] #[],.pointer (some ⟨Br,0,none⟩),.pointer (some ⟨B,0,none⟩),.slice (some ⟨b,off,none⟩) L.length cap,u4,.int .i32 p,.int .i32 x,.int .i32 r,.slice (some ⟨b,off,none⟩) L.length cap,.slice (some ⟨b,off,none⟩) L.length cap,.int .i64 L.length,.bool false,u12,u13,u14,.slice (some ⟨b,off,none⟩) L.length cap,.int .i64 L.length,.int .i64 k,.bool true,.pointer (some ⟨b,off+k,none⟩),.int .i32 p,.int .i32 p,.func (.func 295) #[] #[.pointer (some ⟨wr.heap.size,0,none⟩)],.int .i32 x,u24,u25,u26,u27,u28],defers:=[] }) ?assign ?body ?done
    case assign =>
     intro l' x W' m K hK
     gi_wp2
     exact hK
    case body =>
     rintro l' pre x W' m ⟨hj,hyb,hcb,hmb⟩ hpx
     have cy:=hyb.cell
     have hq:(L.take k).flatMap fd++pre++[x] <+: fd r:=by
      refine List.IsPrefix.trans ?_ hpre.out;rw[htk.out,List.append_assoc];exact(List.prefix_append_right_inj _).2 hpx
     obtain⟨fn,tmps,assign,body,hy,hR⟩:=hY _ x W' hj hq (m - 1)
     gi_wp2
     refine⟨(fun h=>by cases h),hR.mono ?_⟩;rintro e W4 ⟨rfl,hj4,hk4⟩
     rw[←HB.out]at hk4
     gi_wp2
     exact⟨hk4.mono hBV,by rw[←List.append_assoc];exact hj4,hk4.boxed hyb (by decide),hk4.cel b _ hcb rfl,hmb.kp hk4⟩
    case done =>
     rintro D W' hD ⟨hj,hyb,hcb,hmb⟩ hdf
     have hws:=jT k (by omega)
     gi_wp2
     refine⟨⟨k+1,D::Ds,_,_,_,_,_,_,_,_,_,_,_,_,_,_,_,_,_,by omega,hyb,hcb,by rw[htk.out];exact hj,?_,?_,rfl⟩,?_⟩
     ·intro E hE
      rcases List.mem_cons.1 hE with rfl | hE
      ·exact⟨by omega,hdf⟩
      ·exact hmb E hE
     ·exact List.nodup_cons.2 ⟨fun h=>by have:=hDV D h;omega,hnd⟩
     ·simp[intOf];omega
   ·have hltz:¬ (k:Int)<(L.length:Int):=by omega
    have hkk:Hid ((L.take k).flatMap fd=fd r):=by
     show _=_
     rw[List.take_of_length_le (by omega),hfd.out]
    gi_wp2
    refine fP HJ.out (fun W=>results_none rfl _ _ _) (fun W' hj=>⟨⟨_,rfl⟩,hj⟩) Ds wr hnd hmr ?_;rw[←hkk.out];exact hjr
theorem kH:∀(k:Nat) (r:Int),sE k r=true→∀(w:World) (Br:Nat),Boxed w Br 21 (.int .i32 r)→iM 295 #[.pointer (some ⟨Br,0,none⟩)] (fd r) w
 | 0,r,ht,w,Br,hb=>nh r (fun p hp=>by
     have:D.dcp r=[]:=by simpa[sE]using ht
     rw[this]at hp;cases hp) w Br hb
 | k+1,r,ht,w,Br,hb=>nh r (fun p hp=>kH k p (List.all_eq_true.1 ht p hp)) w Br hb
attribute [local go_sem] Oper.semAt_some
theorem sq(n:Nat)(v:Value)(w:World)(hv:∃ a m c,v=.slice a m c):
  CallsIn Fence.wide n Tryz.prog 210 #[v] w fun e w'=>e=.returned (.func (.func 258) #[] #[.pointer (some ⟨w.heap.size,0,none⟩)])∧w'=w.alloc (.cells #[v] 58):=by
 obtain⟨a,m,c,rfl⟩:=hv;refine callsIn_of_wp Tryz.func210 rfl trivial ?_ rfl;simp only[Tryz.ntmps210,List.size_toArray,List.length_cons,List.length_nil,Nat.reduceAdd,Nat.reduceSub,Array.replicate_succ,Array.replicate_zero,List.push_toArray,List.append_toArray,List.nil_append,List.cons_append]
 gi_wp2
 go_ret;exact⟨rfl,rfl⟩
theorem xq(w:World)(Bl:Nat)(v:Value)(L:List Int)(hlen:L.length≤100000)(hbl:Boxed w Bl 58 v)(hrow0:bA w v L):iM 258 #[.pointer (some ⟨Bl,0,none⟩)] (L.flatMap fd) w:=by
 intro l J W hW hJ hY h0 n
 have hbW:Boxed W Bl 58 v:=(hW.block Bl hbl.lt).trans hbl;have hrow:bA W v L:=hrow0.kp (Kp.below (B:=0) hW);obtain⟨a,cap,rfl,hrf⟩:=hrow;have hc1:=(hbW.alloc (.cells #[.func (.yield l) #[] #[]] 100)).cell;have hby:=Boxed.new W 100 (.func (.yield l) #[] #[]);obtain⟨B,hB⟩:∃ B,B=W.heap.size:=⟨_,rfl⟩;rw[←hB]at hby;have HB:=hid hB;have HJ:Hid (OwnFrom B J):=by rw[hB];exact hJ
 have hj2:J [] (W.alloc (.cells #[.func (.yield l) #[] #[]] 100)):=OwnFrom.alloc hJ _ h0
 have hrf2:0<L.length→∃ b off cur,a=some ⟨b,off,none⟩∧(W.alloc (.cells #[.func (.yield l) #[] #[]] 100)).heap[b]? = some (.cells cur 21 (0,0))∧∀ j,j<L.length→cur[off+j]? = some (.int .i32 (L[j]?.getD 0)):=fun hp=>by
  obtain⟨b,off,cur,e2,g,hc⟩:=hrf hp;exact⟨b,off,cur,e2,(Below.heap_alloc W _ b (Array.getElem?_eq_some_iff.1 g).1).trans g,hc⟩
 clear hJ hrf;refine callsIn_of_wp_marks Tryz.func258 rfl trivial ?_ rfl;simp only[Tryz.ntmps258,List.size_toArray,List.length_cons,List.length_nil,Nat.reduceAdd,Nat.reduceSub,Array.replicate_succ,Array.replicate_zero,List.push_toArray,List.append_toArray,List.nil_append,List.cons_append]
 gi_wp2_with fail
 rw[←hB];clear hB
 refine wpIn_loop (fun act wr=>∃(k:Nat) (Ds:List Nat) (u3 u4 u5 u9 u10 u11 u12 u13 u14 u15 u16 u17 u18 u19:Value),k≤L.length∧Boxed wr B 100 (.func (.yield l) #[] #[])∧(0<L.length→∃ b off cur,a=some ⟨b,off,none⟩∧wr.heap[b]? = some (.cells cur 21 (0,0))∧∀ j,j<L.length→cur[off+j]? = some (.int .i32 (L[j]?.getD 0)))∧J ((L.take k).flatMap fd) wr∧Marks B Ds wr∧Ds.Nodup ∧
     act={ tmps:=#[.func (.yield l) #[] #[],.pointer (some ⟨Bl,0,none⟩),.pointer (some ⟨B,0,none⟩),u3,u4,u5,.slice a L.length cap,.int .i64 L.length,.int .i64 k,u9,u10,u11,u12,u13,u14,u15,u16,u17,u18,u19],defers:=Ds.map mk })
  (fun act _=>L.length - (intOf (act.tmps.getD 8 undef)).toNat) ?_ ?_
 ·exact⟨0,[],_,_,_,_,_,_,_,_,_,_,_,_,_,_,Nat.zero_le _,hby,hrf2,by simpa using hj2,(fun D hD=>by cases hD),List.nodup_nil,rfl⟩
 ·rintro act wr ⟨k,Ds,u3,u4,u5,u9,u10,u11,u12,u13,u14,u15,u16,u17,u18,u19,hk,hyr,hfr,hjr,hmr,hnd,rfl⟩
  by_cases hlt:k<L.length
  ·have hltz:(k:Int)<(L.length:Int):=by omega
   obtain⟨b,off,cur,rfl,hbr',hcur⟩:=hfr (by omega);have hck:wr.cell? ⟨b,off+k,none⟩=some (.int .i32 (L[k]?.getD 0)):=by simp[World.cell?,hbr',hcur k hlt]
   have HC:=hid hcur
   have htk:Hid ((L.take (k+1)).flatMap fd=(L.take k).flatMap fd++fd (L[k]?.getD 0)):=by
    show _=_
    rw[List.take_succ_eq_append_getElem hlt,List.flatMap_append,List.getElem?_eq_getElem hlt];simp
   have hpre:Hid ((L.take (k+1)).flatMap fd <+: L.flatMap fd):=by
    show _ <+: _
    conv=>rhs;rw[←List.take_append_drop (k+1) L,List.flatMap_append]
    exact List.prefix_append _ _
   generalize L[k]?.getD 0=p at hck htk
   clear hcur hfr hrf2
   gi_wp2_with fail
   refine⟨trivial,(fun h=>by cases h),?_⟩;refine(sn _ p _).mono ?_;rintro e W3 ⟨rfl,hW3⟩
   gi_wp2_with fail
   clear hW3;obtain⟨V,hV⟩:∃ V,V=wr.alloc (.cells #[.int .i32 p] 21):=⟨_,rfl⟩;have hVb:Below wr.heap.size wr V:=by rw[hV];exact(Below.refl _ wr).alloc (Nat.le_refl _) _
   have hVp:Boxed V wr.heap.size 21 (.int .i32 p):=by rw[hV];exact Boxed.new wr 21 _
   have hVy:Boxed V B 100 (.func (.yield l) #[] #[]):=(hVb.block B hyr.lt).trans hyr;have hVc:V.heap[b]? = some (.cells cur 21 (0,0)):=(hVb.block b (Array.getElem?_eq_some_iff.1 hbr').1).trans hbr';have hVj:J ((L.take k).flatMap fd) V:=OwnFrom.below HJ.out hjr hVb;have hVm:Marks B Ds V:=fun D hD=>⟨(hmr D hD).1,(hVb.block D (Array.getElem?_eq_some_iff.1 (hmr D hD).2).1).trans (hmr D hD).2⟩
   have hBV:B≤V.heap.size:=Nat.le_of_lt hVy.lt;have hDV:∀ D∈Ds,D<V.heap.size:=fun D hD=>(Array.getElem?_eq_some_iff.1 (hVm D hD).2).1
   have hbV:b<V.heap.size:=(Array.getElem?_eq_some_iff.1 hVc).1;rw[←hV];clear hyr hbr' hjr hmr hVb hV hck hby hj2 hc1 hbW
   refine gB (gf:=295) (lb:=#[.pointer (some ⟨wr.heap.size,0,none⟩)]) (xs:=fd p) rfl (enters_of Tryz.func295 (by kernel_rfl) rfl) (kH 4 p (Hc p) V wr.heap.size hVp) rfl
    (fun pre W'=>J ((L.take k).flatMap fd++pre) W'∧Boxed W' B 100 (.func (.yield l) #[] #[])∧W'.heap[b]? = some (.cells cur 21 (0,0))∧Marks B Ds W')
    (OwnFrom.and (fun s X Y row hs hg hr=>OwnFrom.mono HJ.out hBV _ X Y row hs hg hr) (OwnFrom.and (Own.from (boxed_own _ _ _) _) (OwnFrom.and (dz hbV) (Marks.ownFrom hDV))))
    ⟨by simpa using hVj,hVy,hVc,hVm⟩
    (fun x=>{ tmps:=#[.func (.yield l) #[] #[],.pointer (some ⟨Bl,0,none⟩),.pointer (some ⟨B,0,none⟩),u3,.int .i32 p,.int .i32 x,.slice (some ⟨b,off,none⟩) L.length cap,.int .i64 L.length,.int .i64 k,.bool true,.pointer (some ⟨b,off+k,none⟩),.int .i32 p,.int .i32 p,.func (.func 295) #[] #[.pointer (some ⟨wr.heap.size,0,none⟩)],.int .i32 x,u15,u16,u17,u18,u19],defers:=[] }) ?assign ?body ?done
   case assign =>
    intro l' x W' m K hK
    gi_wp2
    exact hK
   case body =>
    rintro l' pre x W' m ⟨hj,hyb,hcb,hmb⟩ hpx
    have cy:=hyb.cell
    have hq:(L.take k).flatMap fd++pre++[x] <+: L.flatMap fd:=by
     refine List.IsPrefix.trans ?_ hpre.out;rw[htk.out,List.append_assoc];exact(List.prefix_append_right_inj _).2 hpx
    obtain⟨fn,tmps,assign,body,hy,hR⟩:=hY _ x W' hj hq (m - 1)
    gi_wp2
    refine⟨(fun h=>by cases h),hR.mono ?_⟩;rintro e W4 ⟨rfl,hj4,hk4⟩
    rw[←HB.out]at hk4
    gi_wp2
    exact⟨hk4.mono hBV,by rw[←List.append_assoc];exact hj4,hk4.boxed hyb (by decide),hk4.cel b _ hcb rfl,hmb.kp hk4⟩
   case done =>
    rintro D W' hD ⟨hj,hyb,hcb,hmb⟩ hdf
    have hws:=jT k (by omega)
    gi_wp2
    refine⟨⟨k+1,D::Ds,_,_,_,_,_,_,_,_,_,_,_,_,_,_,by omega,hyb,(fun _=>⟨b,off,cur,rfl,hcb,HC.out⟩),by rw[htk.out];exact hj,?_,?_,rfl⟩,?_⟩
    ·intro E hE
     rcases List.mem_cons.1 hE with rfl | hE
     ·exact⟨by omega,hdf⟩
     ·exact hmb E hE
    ·exact List.nodup_cons.2 ⟨fun h=>by have:=hDV D h;omega,hnd⟩
    ·simp[intOf];omega
  ·have hltz:¬ (k:Int)<(L.length:Int):=by omega
   have hkk:Hid ((L.take k).flatMap fd=L.flatMap fd):=by
    show _=_
    rw[List.take_of_length_le (by omega)]
   gi_wp2
   refine fP HJ.out (fun W=>results_none rfl _ _ _) (fun W' hj=>⟨⟨_,rfl⟩,hj⟩) Ds wr hnd hmr ?_;rw[←hkk.out];exact hjr
end Go.Proofs.YtkekkbciiohbkaaGreatDoor.N
