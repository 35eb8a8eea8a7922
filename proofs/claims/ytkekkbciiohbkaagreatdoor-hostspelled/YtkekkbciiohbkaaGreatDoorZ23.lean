/- Texts one behind the other: KC KD JD JE JF JG. -/
import Derived.Test.YtkekkbciiohbkaaGreatDoorZ20
import Derived.Test.YtkekkbciiohbkaaGreatDoorZ22
import Derived.Test.YtkekkbciiohbkaaGreatDoorZ18
import Derived.Test.YtkekkbciiohbkaaGreatDoorZ19
import Derived.Laws.Slices
import Derived.Laws.Concat
set_option maxRecDepth 100000
set_option maxHeartbeats 16000000
set_option linter.unusedVariables false
set_option linter.unnecessarySimpa false
namespace Go.Proofs.YtkekkbciiohbkaaGreatDoor.I
open Go.RowKit Go.Shelf
attribute [local go_sem] Oper.semAt_some
abbrev Pc(n:Nat):={ p:Nat×Nat // p.1≤p.2∧p.2≤n }
def qo(n:Nat)(p:Nat×Nat):Pc n:=if h:p.1≤p.2∧p.2≤n then ⟨p,h⟩ else ⟨(0,0),by simp⟩
theorem oT{n f t:Nat}(h:f≤t∧t≤n):qo n (f,t)=⟨(f,t),h⟩:=by unfold qo;rw[dif_pos h]
def iD:Nat→Nat→List Int→List (Nat×Nat)
 | f,k,[]=>[(f,k)]
 | f,k,c::r=>if c=46 then (f,k)::iD (k+1) (k+1) r else iD f (k+1) r
def i7(n:Nat)(l:List Int):List (Pc n):=(iD 0 0 l).map (qo n)
def lab(l:List Int)(p:Nat×Nat):List Int:=(l.drop p.1).take (p.2 - p.1)
def pcv(a:Option Addr)(p:Nat×Nat):Value:=.slice (if p.2=p.1 then a else a.map (·.add p.1)) (p.2 - p.1) (p.2 - p.1)
theorem zG(l:List Int)(f k:Nat)(hf:f≤k)(hk:k<l.length):lab l (f,k+1)=lab l (f,k)++[l[k]?.getD 0]:=by
 unfold lab;show(l.drop f).take (k+1 - f)=(l.drop f).take (k - f)++_
 rw[show k+1 - f=k - f+1 by omega,List.take_succ_eq_append_getElem (by rw[List.length_drop];omega),List.getElem_drop,List.getElem?_eq_getElem hk]
 congr 2
 simp only[Option.getD_some]
 congr 1
 omega
theorem pR(l:List Int):∀(r:List Int) (f k:Nat),f≤k→k+r.length=l.length→l.drop k=r→(iD f k r).map (lab l)=qF (lab l (f,k)) (spl r)
 | [],f,k,hf,hk,hr=>by simp[iD,spl,qF]
 | c::r,f,k,hf,hk,hr=>by
  simp only[List.length_cons]at hk;have hkl:k<l.length:=by omega
  have hd:=drop_at l k hkl;rw[hr]at hd;obtain⟨e1,e2⟩:=List.cons.inj hd;rw[iD];split
  ·rename_i h
   have ih:=pR l r (k+1) (k+1) (Nat.le_refl _) (by omega) e2.symm;have e0:lab l (k+1,k+1)=[]:=by unfold lab;simp
   rw[e0,qE]at ih;rw[List.map_cons,ih,h,yE]
  ·rename_i h
   have ih:=pR l r f (k+1) (by omega) (by omega) e2.symm;rw[zG l f k hf hkl,←e1]at ih;rw[ih,vN _ _ _ h]
theorem tr:∀(r:List Int) (f k n:Nat),f≤k→k+r.length=n→∀ p∈iD f k r,p.1≤p.2∧p.2≤n
 | [],f,k,n,hf,hk,p,hp=>by simp[iD]at hp;subst hp;exact⟨hf,by simp at hk;omega⟩
 | c::r,f,k,n,hf,hk,p,hp=>by
  simp only[List.length_cons]at hk;rw[iD]at hp;split at hp
  ·rcases List.mem_cons.1 hp with rfl | hp
   ·exact⟨hf,by simp only;omega⟩
   ·exact tr r (k+1) (k+1) n (Nat.le_refl _) (by omega) p hp
  ·exact tr r f (k+1) n (by omega) (by omega) p hp
theorem Ax(n:Nat)(l:List Int)(h:l.length=n):(i7 n l).map (fun p=>lab l p.1)=spl l:=by
 have h1:=pR l l 0 0 (Nat.le_refl _) (by omega) rfl;have e0:lab l (0,0)=[]:=by unfold lab;simp
 rw[e0,qE]at h1;rw[←h1];unfold i7;rw[List.map_map];apply List.map_congr_left;intro p hp
 have:=tr l 0 0 n (Nat.le_refl _) (by omega) p hp;obtain⟨f,t⟩:=p;show lab l (qo n (f,t)).1=_
 rw[oT this]
theorem El.piece{W:World}{a:Option Addr}{n c:Nat}{l:List Int}(h:El W (.slice a n c) l)(hn:l.length=n)(p:Pc n):El W (pcv a p.1) (lab l p.1):=by
 obtain⟨⟨f,t⟩,h1,h2⟩:=p;simp only at h1 h2
 have hl:(lab l (f,t)).length=t - f:=by unfold lab;simp only[List.length_take,List.length_drop];omega
 by_cases he:t=f
 ·subst he
  have e0:lab l (t,t)=[]:=by unfold lab;simp
  show El W (pcv a (t,t)) (lab l (t,t))
  rw[e0];unfold pcv;simp only[if_true,Nat.sub_self];refine⟨⟨a,0,rfl,fun hp=>absurd hp (by simp)⟩,fun a' n' c' e=>by cases e;exact⟨Nat.le_refl _,fun _=>rfl⟩⟩
 ·obtain⟨a',c',e',hf⟩:=h.1
  rw[hn]at e';cases e'
  obtain⟨b,off,cur,rfl,hg,hc⟩:=hf (by omega);show El W (pcv (some ⟨b,off,none⟩) (f,t)) (lab l (f,t))
  unfold pcv;rw[if_neg he];refine⟨⟨_,t - f,by rw[hl],fun hp=>⟨b,off+f,cur,by simp[Addr.add],hg,fun j hj=>?_⟩⟩,fun a' n' c' e=>by cases e;exact⟨Nat.le_refl _,fun h=>by cases h⟩⟩;rw[hl]at hj;have:=hc (f+j) (by omega);rw[Nat.add_assoc,this];unfold lab;rw[List.getElem?_take_of_lt (by simp only;omega),List.getElem?_drop]
theorem nR(a:Option Addr)(n c f k:Nat)(h1:f≤k)(h2:k≤c)(W:World):
  (Instr.slice 58 (.slice a n c) (some (.int .i64 (f:Int))) (some (.int .i64 (k:Int))) (some (.int .i64 (k:Int)))).run Tryz.prog W=.ok (pcv a (f,k)) W:=by
 rw[run_slice_lhm W 58 a n c (by kernel_rfl) .i64 .i64 .i64 (f:Int) (k:Int) (k:Int) (by omega) (by omega) (by omega) (by omega),tY W];simp only[Result.andThen,sliced,Int.toNat_natCast,Nat.mul_one];rfl
abbrev Dr(a:Option Addr)(n:Nat)(p:Pc n):Array Value:=#[pcv a p.1]
structure Bx(Bl:Nat)(v:Value)(l:List Int)(W:World):Prop where
 box:Boxed W Bl 58 v
 el:El W v l
def kh(Bl:Nat)(v:Value)(l:List Int)(W W':World):Prop:=Bx Bl v l W→Bx Bl v l W'
theorem Dt(m:Nat)(hm:1≤m)(lp Bl:Nat)(a:Option Addr)(n c:Nat)(l:List Int)(hn:l.length=n)(hlen:n≤100000)(J Jx:List (Pc n)→World→Prop)
  (hY:∀ pre x W,J pre W→pre.length<n+1→YieldAt Fence.wide (m - 1) Tryz.prog lp (Dr a n x) W fun e W' =>
    (e=.returned (.bool true)∧J (pre++[x]) W'∧kh Bl (.slice a n c) l W W')∨(e=.returned (.bool false)∧Jx (pre++[x]) W'))
  (W:World) (hF:Bx Bl (.slice a n c) l W) (h0:J [] W) :
  CallsIn Fence.wide m Tryz.prog 153 #[.func (.yield lp) #[] #[],.pointer (some ⟨Bl,0,none⟩)] W fun e W'=>(∃ v,e=.returned v) ∧
   ((∃ ys,ys=i7 n l∧J ys W')∨(∃ pre,pre <+: i7 n l∧Jx pre W')):=by
 have hcl:=hF.box.cell;have hnc:=(hF.el.2 _ _ _ rfl).1;have HN:=hid hn;have HS0:Hid (i7 n l=[]++(iD 0 0 (l.drop 0)).map (qo n)):=by show _=_;rw[List.drop_zero];rfl
 refine callsIn_of_wp Tryz.func153 rfl trivial ?_ rfl;simp only[Tryz.ntmps153,List.size_toArray,List.length_cons,List.length_nil,Nat.reduceAdd,Nat.reduceSub,Array.replicate_succ,Array.replicate_zero,List.push_toArray,List.append_toArray,List.nil_append,List.cons_append];obtain⟨C,hC⟩:∃ C,i7 n l=C:=⟨_,rfl⟩;rw[hC]at HS0 ⊢;clear hC hn
 gi_wp2_with fail
 gi_loopw [3,8] (fun v3 v8 wr=>∃(f k:Nat) (pre:List (Pc n)),f≤k∧k≤n∧pre.length≤k∧v3=.int .i64 f∧v8=.int .i64 k∧Bx Bl (.slice a n c) l wr∧J pre wr∧Hid (C=pre++(iD f k (l.drop k)).map (qo n)))
  (fun _ v8 _=>n - (intOf v8).toNat)
 case atStart=>exact⟨0,0,[],Nat.le_refl _,Nat.zero_le _,Nat.le_refl _,rfl,rfl,hF,h0,HS0⟩
 case round =>
  obtain⟨f,k,pre,hfk,hk,hpk,rfl,rfl,hBx,hJ,HE⟩:=hrel;have hcl:=hBx.box.cell;by_cases hlt:k<n
  ·obtain⟨b,off,he,hb,hcell⟩:=N.bA.cell hBx.el.1 HN.out.symm (by rw[HN.out];omega)
   subst he;have hck:=hcell k (by rw[HN.out];exact hlt);have HDR:=hid (drop_at l k (by rw[HN.out];exact hlt));obtain⟨x,hx⟩:∃ x,l[k]?.getD 0=x:=⟨_,rfl⟩;rw[hx]at hck HDR;clear hx hcell hb;by_cases h46:x=46
   ·have hsl:=fun W=>nR (some ⟨b,off,none⟩) n c f k hfk (by omega) W
    have HST:Hid (C=(pre++[⟨(f,k),hfk,by omega⟩])++(iD (k+1) (k+1) (l.drop (k+1))).map (qo n)):=by
     show _=_
     rw[HE.out,HDR.out,h46,iD,if_pos rfl,List.map_cons,oT ⟨hfk,by omega⟩];simp
    subst h46;have hyy:=hY pre ⟨(f,k),hfk,by omega⟩ wr hJ (by omega);obtain⟨fn,tmps,assign,body,hy,hR⟩:=hyy
    dsimp only[Dr]at hy
    obtain⟨u,hu⟩:∃ u,pcv (some ⟨b,off,none⟩) (f,k)=u:=⟨_,rfl⟩;rw[hu]at hsl hy;clear hu
    gi_wp2
    refine hR.mono ?_;rintro e W3 (⟨rfl,hJ3,hk3⟩ | ⟨rfl,hJx3⟩)
    ·have hB3:=hk3 hBx
     gi_wp2
     go_roundw
     case rel=>exact⟨k+1,k+1,_,Nat.le_refl _,by omega,by simp;omega,by go_num,by go_num,hB3,hJ3,HST⟩
     case measure=>simp[intOf];omega
    ·gi_wp2
     refine bodyPost_ret (results_none rfl _ _ _) rfl ?_;exact⟨⟨_,rfl⟩,.inr ⟨_,⟨_,HST.out.symm⟩,hJx3⟩⟩
   ·have h46b:(x != 46)=true:=by simpa using h46
    have h46c:(x==46)=false:=by simpa using h46
    have HST:Hid (C=pre++(iD f (k+1) (l.drop (k+1))).map (qo n)):=by
     show _=_
     rw[HE.out,HDR.out,iD,if_neg h46]
    gi_wp2
    go_roundw
    case rel=>exact⟨f,k+1,pre,by omega,by omega,by omega,by go_num,by go_num,hBx,hJ,HST⟩
    case measure=>simp[intOf];omega
  ·obtain rfl:k=n:=by omega
   have hsl:=fun W=>nR a k c f k hfk hnc W
   have HST:Hid (C=pre++[⟨(f,k),hfk,Nat.le_refl _⟩]):=by
    show _=_
    rw[HE.out,List.drop_of_length_le (by rw[HN.out];exact Nat.le_refl _),iD,List.map_cons,oT ⟨hfk,Nat.le_refl _⟩];rfl
   have hyy:=hY pre ⟨(f,k),hfk,Nat.le_refl _⟩ wr hJ (by omega);obtain⟨fn,tmps,assign,body,hy,hR⟩:=hyy
   dsimp only[Dr]at hy
   obtain⟨u,hu⟩:∃ u,pcv a (f,k)=u:=⟨_,rfl⟩;rw[hu]at hsl hy;clear hu
   gi_wp2
   refine hR.mono ?_;rintro e W3 (⟨rfl,hJ3,hk3⟩ | ⟨rfl,hJx3⟩)
   ·gi_wp2
    go_end0
    exact⟨⟨_,rfl⟩,.inl ⟨_,HST.out.symm,hJ3⟩⟩
   ·gi_wp2
    go_end0
    exact⟨⟨_,rfl⟩,.inr ⟨_,⟨[],by rw[HST.out,List.append_nil]⟩,hJx3⟩⟩
theorem wU(m:Nat)(v:Value)(w:World)(hv:∃ a k c,v=.slice a k c):
  CallsIn Fence.wide m Tryz.prog 108 #[v] w fun e w'=>e=.returned (.func (.func 153) #[] #[.pointer (some ⟨w.heap.size,0,none⟩)])∧w'=w.alloc (.cells #[v] 58):=by
 obtain⟨a,k,c,rfl⟩:=hv;refine callsIn_of_wp Tryz.func108 rfl trivial ?_ rfl;simp only[Tryz.ntmps108,List.size_toArray,List.length_cons,List.length_nil,Nat.reduceAdd,Nat.reduceSub,Array.replicate_succ,Array.replicate_zero,List.push_toArray,List.append_toArray,List.nil_append,List.cons_append]
 gi_wp2
 go_ret;exact⟨rfl,rfl⟩
theorem El.grown{W W':World}{u:Value}{l:List Int}{row:Option Nat}(h:El W u l)(hg:W.grownBy W' row)(hr:∀ k,row=some k→∀ cur,W.heap[k]? ≠ some (.cells cur 21 (0,0))):El W' u l:=by
 refine⟨?_,h.2⟩;obtain⟨a,cap,e1,f⟩:=h.1;refine⟨a,cap,e1,fun hp=>?_⟩;obtain⟨b,off,cur,e2,g,hc⟩:=f hp;exact⟨b,off,cur,e2,(hg.block b (Array.getElem?_eq_some_iff.1 g).1 (fun e'=>hr b e'.symm cur g)).trans g,hc⟩
theorem El.other{W W':World}{u:Value}{l:List Int}{row:Option Nat}(h:El W u l)(hg:W.grownBy W' row)(hr:∀ r,row=some r→∃ o:Obj,W.heap[r]? = some o∧o.isCells=false):El W' u l :=
 h.grown hg (fun k e cur hc=>by obtain⟨o,ho,hn⟩:=hr k e;rw[hc]at ho;cases ho;cases hn)
theorem El.set{W:World}{u:Value}{l:List Int}{B:Nat}{t:TypeId}{x:Value}(h:El W u l)(hb:Boxed W B t x)(ht:t≠21)(v':Value):El (W.setCell ⟨B,0,none⟩ v') u l :=
 h.grown (grownBy_setCell' W B v') (fun k e cur hc=>by cases e;rw[show W.heap[B]? = _ from hb]at hc;cases hc;exact ht rfl)
theorem ch{W W':World}{B:Nat}{t:TypeId}{v:Value}{row:Option Nat}(h:Boxed W B t v)(hg:W.grownBy W' row)(hr:∀ r,row=some r→∃ o:Obj,W.heap[r]? = some o∧o.isCells=false):Boxed W' B t v :=
 boxed_own (β:=Unit) B t (fun _=>v) () W W' row h hg hr
theorem Bx.other{W W':World}{Bl:Nat}{v:Value}{l:List Int}{row:Option Nat}(h:Bx Bl v l W)(hg:W.grownBy W' row)(hr:∀ r,row=some r→∃ o:Obj,W.heap[r]? = some o∧o.isCells=false):Bx Bl v l W' :=
 ⟨ch h.box hg hr,h.el.other hg hr⟩
theorem Bx.below{W W':World}{Bl:Nat}{v:Value}{l:List Int}(h:Bx Bl v l W)(hb:Below W.heap.size W W'):Bx Bl v l W':=⟨(hb.block Bl h.box.lt).trans h.box,h.el.below hb⟩
theorem ti(m:Nat)(hm:1≤m)(Bl:Nat)(a:Option Addr)(n c:Nat)(l:List Int)(hn:l.length=n)(hlen:n≤100000)(w:World)(hF:Bx Bl (.slice a n c) l w):
  SeqStopsK Fence.wide m Tryz.prog 153 #[.pointer (some ⟨Bl,0,none⟩)] (Dr a n) (kh Bl (.slice a n c) l) (fun ys=>ys=i7 n l) (fun pre=>pre <+: i7 n l) (n+1) w:=fun lp J Jx W hW hJ _ hY h0 =>
 Dt m hm lp Bl a n c l hn hlen J Jx hY W (hF.below hW) h0
theorem zI{Bl:Nat}{v:Value}{l:List Int}{A B C:World}(h:kh Bl v l A B)(k:kh Bl v l B C):kh Bl v l A C:=fun x=>k (h x)
theorem zJ{Bl:Nat}{v:Value}{l:List Int}{w:World}(W:World)(k:Nat)(o o':Obj)(_:w.heap.size≤k)(h1:W.heap[k]? = some o)(h2:o.isCells=false)(_:o.isWalk=false):kh Bl v l W (W.putObj k o') :=
 fun x=>x.other (grownBy_putObj' W k o') (fun r e=>by cases e;exact⟨o,h1,h2⟩)
theorem El.srcK{W:World}{u:Value}{l:List Int}(h:El W u l):U.dV W u l:=by
 obtain⟨a,cap,rfl,hf⟩:=id h.1;have h2:=h.2 _ _ _ rfl;cases a with
 | none =>
  have h0:l.length=0:=Nat.eq_zero_of_not_pos (fun hp=>by obtain⟨b,off,cur,e,_⟩:=hf hp;cases e);have e1:=h2.2 rfl;exact .inl ⟨by rw[h0,e1],List.length_eq_zero_iff.1 h0⟩
 | some ad =>
  refine .inr ⟨ad,cap,rfl,fun j hj=>?_⟩;obtain⟨b,off,cur,e,hg,hc⟩:=hf (by omega);cases e
  rw[Addr.add_lit];simp[World.cell?,hg,hc j hj]
theorem tt(u:Value)(l:List Int)(w:World)(hlen:l.length≤100000)(hu:El w u l):
  Calls Tryz.prog 158 #[u] w fun e W'=>N.nk l w e W':=by
 have HU:=hid hu.srcK;obtain⟨a,c,e,-⟩:=hu.1;subst e;obtain⟨n,hn⟩:∃ n,l.length=n:=⟨_,rfl⟩;have HN:=hid hn;unfold N.nk;rw[hn]at hlen HU ⊢;clear hn hu;go_enter Tryz.func158,Tryz.ntmps158
 go_wp2_with(at_builtin;refine U.bF rfl _ _ rfl w.heap.size _ 0 [] rfl (World.ownsRow_nil _ _ _ _) _ l rfl HU.out (by have:=HN.out;omega) (Nat.le_refl _) ?_;intro v4 w4 r4 g4;rw[HN.out,Nat.zero_add,List.nil_append]at r4;obtain⟨a4,c4,rfl⟩:=bG r4;have R4:=hid r4;have HB4:=hid (U.below_grow (e:=21) (size:=1) (n:=0) (xs:=[]) (Below.refl _ _) (Nat.le_refl _) (World.ownsRow_nil _ _ _ _) g4);clear r4 g4)
 go_ret;exact⟨_,rfl,R4.out,HB4.out⟩
open Go.RowKit
def hi8(r:Int):Bool:=decide (128≤r)
theorem yL{l:List Int}(h:Scs l):plain l=!(l.any hi8):=by
 cases hp:plain l with
 | true =>
  have:l.any hi8=false:=by
   rw[List.any_eq_false];intro r hr
   have:=cn.1 hp r hr;simp[hi8];omega
  rw[this];rfl
 | false =>
  cases ha:l.any hi8 with
  | true=>rfl
  | false =>
   have:plain l=true:=cn.2 (fun c hc=>by
     have h1:=List.any_eq_false.1 ha c hc
     have h2:=tZ (h c hc)
     simp[hi8]at h1
     omega)
   rw[hp]at this;cases this
theorem Gl(r:Int)(w:World):Calls Tryz.prog 202 #[.int .i32 r] w fun e W'=>e=.returned (.bool (hi8 r))∧W'=w:=by
 go_enter Tryz.func202,Tryz.ntmps202
 go_wp2;go_ret;exact⟨rfl,rfl⟩
theorem rF(v:Value)(l:List Int)(w:World)(hlen:l.length≤100000)(hv:U.au w v l):
  Calls Tryz.prog 243 #[v,.func (.func 202) #[] #[]] w fun e W'=>L.G4 (l.any hi8) e∧W'=w:=by
 obtain⟨a,c,rfl,hf⟩:=L.aF hv;have HF:=hid hf;have HNO:=hid (L.kg (p:=hi8) (L:=l));have HYES:=hid (L.qe (p:=hi8) (L:=l));obtain⟨n,hn⟩:∃ n,l.length=n:=⟨_,rfl⟩;rw[hn]at hlen HF HNO HYES ⊢;obtain⟨R,hR⟩:∃ R,l.any hi8=R:=⟨_,rfl⟩;rw[hR]at HNO HYES ⊢;clear hv hf hn hR;go_enter Tryz.func243,Tryz.ntmps243
 go_wp2_with fail
 go_loop [8] (fun v8=>∃ k:Nat,k≤n∧v8=.int .i64 k∧Hid (∀ j,j<k→hi8 (l[j]?.getD 0)=false)) (fun v8=>n - (intOf v8).toNat)
 case atStart=>exact⟨0,Nat.zero_le _,rfl,(fun j hj=>by omega)⟩
 case round =>
  obtain⟨k,hk,rfl,HA⟩:=hrel;by_cases hlt:k<n
  ·obtain⟨b,off,rfl,hck⟩:=L.dS HF.out (Below.refl _ _) k hlt
   have HX:=hid (HYES.out k hlt)
   have HS:Hid (hi8 (l[k]?.getD 0)=false→∀ j,j<k+1→hi8 (l[j]?.getD 0)=false):=fun h j hj=>by
    by_cases e:j=k
    ·rw[e];exact h
    ·exact HA.out j (by omega)
   have HC:=hid (Gl (l[k]?.getD 0) w);obtain⟨t,ht⟩:∃ t,hi8 (l[k]?.getD 0)=t:=⟨_,rfl⟩;rw[ht]at HX HS HC;obtain⟨y,hy⟩:∃ y,l[k]?.getD 0=y:=⟨_,rfl⟩;rw[hy]at hck HC;clear hy ht;cases t with
   | true =>
    have HR:=hid (HX.out rfl)
    go_wp2_with(go_at_call 202;refine HC.out.mono ?_;rintro e w1 ⟨rfl,hw1⟩;obtain rfl:=hw1.symm)
    go_ret;exact⟨⟨k,rfl,by omega,by omega,by rw[HR.out];exact decide_eq_true (by omega)⟩,rfl⟩
   | false =>
    have HR:=hid (HS.out rfl)
    go_wp2_with(go_at_call 202;refine HC.out.mono ?_;rintro e w1 ⟨rfl,hw1⟩;obtain rfl:=hw1.symm)
    exact⟨⟨k+1,by omega,by go_num,HR⟩,by simp[intOf];omega⟩
  ·have HR:=hid (HNO.out (fun j hj=>HA.out j (by omega)))
   go_wp2;go_ret;exact⟨⟨-1,rfl,by omega,by omega,by rw[HR.out];rfl⟩,rfl⟩
theorem kB(v:Value)(l:List Int)(w:World)(hlen:l.length≤100000)(hs:Scs l)(hv:U.au w v l):
  Calls Tryz.prog 150 #[v] w fun e W'=>e=.returned (.bool (plain l))∧W'=w:=by
 have HC:=hid (rF v l w hlen hv);have HP:=hid (yL hs);obtain⟨a,c,rfl,-⟩:=L.aF hv;obtain⟨n,hn⟩:∃ n,l.length=n:=⟨_,rfl⟩;rw[hn]at HC ⊢;obtain⟨R,hR⟩:∃ R,plain l=R:=⟨_,rfl⟩;rw[hR]at HP ⊢;obtain⟨A,hA⟩:∃ A,l.any hi8=A:=⟨_,rfl⟩;rw[hA]at HP HC;clear hv hn hR hA
 have HCF:Hid (Calls Tryz.prog 201 #[.slice a n c,.func (.func 202) #[] #[]] w fun e W'=>e=.returned (.bool A)∧W'=w):=by
  show Calls _ _ _ _ _
  go_enter Tryz.func201,Tryz.ntmps201
  go_wp2_with fail;refine HC.out.mono ?_;rintro e w1 ⟨⟨k,rfl,h1,h2,h3⟩,rfl⟩
  have H3:=hid h3;clear h3;go_wp2;go_ret;exact⟨by rw[←H3.out];rfl,rfl⟩
 go_enter Tryz.func150,Tryz.ntmps150
 go_wp2_with(go_at_call 201;refine HCF.out.mono ?_;rintro e w1 ⟨rfl,hw1⟩;obtain rfl:=hw1.symm)
 go_ret;exact⟨by rw[HP.out];rfl,rfl⟩
def G6(s t:ByteArray)(b:Bool):Prop:=(b=true∧U.bn s=120::110::45::45::U.bn t)∨(b=false∧¬ ∃ r,U.bn s=120::110::45::45::r)
def tG(s:ByteArray)(e:Ending):Prop:=∃ t b,e=.returned (.tuple #[.string t,.bool b])∧G6 s t b
theorem jP(s:ByteArray)(k:Nat):U.bn (s.extract 0 k)=(U.bn s).take k:=by
 unfold U.bn;rw[←List.map_take]
 congr 1
 simp[ByteArray.data_extract]
theorem DI(s:ByteArray)(h:((s.extract 0 4).toList==[120,110,45,45])=true):U.bn s=120::110::45::45::U.bn (s.extract 4 s.size):=by
 have h1:(s.extract 0 4).toList=[120,110,45,45]:=eq_of_beq h;have h2:=jP s 4;unfold U.bn at h2
 rw[←Go.ByteArray.toList_eq,h1]at h2;have h3:=List.take_append_drop 4 (U.bn s);rw[U.aj,←h3];show(U.bn s).take 4++_=_
 rw[show(U.bn s).take 4=[120,110,45,45] from h2.symm];simp
theorem GJ(s:ByteArray)(h:((s.extract 0 4).toList==[120,110,45,45])=false):¬ ∃ r,U.bn s=120::110::45::45::r:=by
 rintro⟨r,hr⟩
 have h2:=jP s 4;rw[hr]at h2;have h3:U.bn (s.extract 0 4)=[120,110,45,45]:=h2
 have h4:(s.extract 0 4).toList=[120,110,45,45]:=by
  rw[Go.ByteArray.toList_eq];unfold U.bn at h3
  have inj:∀(x y:List UInt8),x.map (fun c=>(c.toNat:Int))=y.map (fun c=>(c.toNat:Int))→x=y:=by
   intro x
   induction x with
   | nil=>intro y h;cases y with
    | nil=>rfl
    | cons _ _=>simp at h
   | cons a x ih=>intro y h;cases y with
    | nil=>simp at h
    | cons b y =>
     simp only[List.map_cons,List.cons.injEq]at h;have e1:a=b:=UInt8.toNat_inj.1 (by omega);rw[e1,ih y h.2]
  exact inj _ [120,110,45,45] h3
 rw[h4]at h;exact absurd h (by decide)
theorem jL(s:ByteArray)(w:World)(hs:s.size≤1000000):
  Calls Tryz.prog 19 #[.string s,.string ⟨#[120,110,45,45]⟩] w fun e W'=>tG s e∧W'=w:=by
 by_cases h4:4≤s.size
 ·have HY:=hid (DI s)
  have HNO:=hid (GJ s);have h4z:(4:Int)≤(s.size:Int):=by omega
  obtain⟨q,hq⟩:∃ q,((s.extract 0 4).toList==[120,110,45,45])=q:=⟨_,rfl⟩;rw[hq]at HY HNO;cases q with
  | true =>
   go_enter Tryz.func19,Tryz.ntmps19
   go_wp2
   go_ret2;exact⟨⟨_,_,rfl,.inl ⟨rfl,HY.out trivial⟩⟩,rfl⟩
  | false =>
   go_enter Tryz.func19,Tryz.ntmps19
   go_wp2
   go_ret2;exact⟨⟨_,_,rfl,.inr ⟨rfl,HNO.out trivial⟩⟩,rfl⟩
 ·have HNO:Hid (¬ ∃ r,U.bn s=120::110::45::45::r):=by
   rintro⟨r,hr⟩
   have:=congrArg List.length hr;rw[U.aa]at this;simp at this;omega
  have h4z:¬ (4:Int)≤(s.size:Int):=by omega
  go_enter Tryz.func19,Tryz.ntmps19
  go_wp2
  go_ret2;exact⟨⟨_,_,rfl,.inr ⟨rfl,HNO.out⟩⟩,rfl⟩
theorem C5:(Tryz.prog.info? 23).map (fun i=>(i.zero,i.size,i.bytes))=some (some (.int .u16 0),1,2):=by kernel_rfl
theorem dC{base n:Nat}{v:Value}{X:List Value}{W:World}(h:W.ownsRow base 23 1 v n X):∃ a cap,v=.slice a n cap:=by
 rcases h.2 with⟨rfl,h0⟩ | ⟨g,cap,cur,rfl,_⟩
 ·exact⟨none,0,by rw[h0]⟩
 ·exact⟨_,cap,rfl⟩
theorem gH{W W':World}{base base' e e' size size' n n':Nat}{v v':Value}{X X':List Value}(h:W.ownsRow base e size v n X)(h':W.ownsRow base' e' size' v' n' X')(he:e≠e')(hg:W.grownBy W' v'.ownBlock):W'.ownsRow base e size v n X:=by
 rcases id h with⟨h1,⟨rfl,h2⟩ | ⟨g,cap,cur,rfl,hbg,hgg,h3⟩⟩
 ·exact⟨h1,.inl ⟨rfl,h2⟩⟩
 ·refine⟨h1,.inr ⟨g,cap,cur,rfl,hbg,(hg.block g (Array.getElem?_eq_some_iff.1 hgg).1 (fun e2=>?_)).trans hgg,h3⟩⟩
  rcases h'.2 with⟨rfl,_⟩ | ⟨g2,cap2,cur2,rfl,_,hg2,_⟩
  ·simp[Value.ownBlock]at e2
  ·have e3:g2=g:=by simpa[Value.ownBlock]using e2.symm
   subst e3;rw[hgg]at hg2;cases hg2
   exact he rfl
theorem pI(l:List Int)(hy:Bool):L.flt l hy≤255:=by
 by_cases h:l.length=0
 ·unfold L.flt;rw[if_pos h];omega
 ·rw[kY l hy h]
  have k:∀(b:Bool) (v:Int),0≤v→L.bt b v≤v:=fun b v hv=>by unfold L.bt;split <;> omega
  have h1:=k (!decide (N.cK l=l)) 1 (by omega);have h2:=k (hy&&decide (4≤l.length)&&decide (l[2]?.getD 0=45)&&decide (l[3]?.getD 0=45)) 2 (by omega);have h3:=k (hy&&(decide (l[0]?.getD 0=45)||decide (l[l.length - 1]?.getD 0=45))) 4 (by omega);have h4:=k (L.dh l) 8 (by omega);have h5:=k (l.any (fun r=>decide (r=46))) 16 (by omega);have h6:=k (L.mrk (l[0]?.getD 0)) 32 (by omega);have h7:=k (l.any L.et) 64 (by omega);have h8:=k (!L.jok l) 128 (by omega);omega
theorem one_le(l:List Int)(hy:Bool):(one l hy).2≤512:=by
 have h:=pI l hy;unfold one;split
 ·show L.flt l hy≤512;omega
 ·split
  ·exact Int.le_refl _
  ·split
   ·exact Int.le_refl _
   ·rename_i m _
    split
    ·exact Int.le_refl _
    ·have:=pI m hy
     show L.flt m hy≤512;omega
theorem pk(l:List Int)(hy:Bool)(h:l.length≤10000):(one l hy).1.length≤10000:=by
 unfold one;split
 ·exact h
 ·split
  ·exact h
  ·rename_i h2
   cases hr:rdx (l.drop 4) with
   | none=>exact h
   | some m =>
    simp only;split
    ·exact h
    ·unfold rdx at hr
     split at hr
     ·cases hr
     ·split at hr
      ·cases hr
      ·rename_i h3 h4
       have hp:=cn.1 (show plain l=true by simpa using h2);have hB:U.Bytes (l.drop 4):=fun c hc=>by have:=hp c (List.mem_of_mem_drop hc);omega
       have:=(P.kZ hr (by simpa using h4) hB (by omega)).2.2;show m.length≤10000
       omega
structure Pr(w1 wr:World)(vo vf:Value)(m:Nat)(vs:List Value)(ys:List (List Int×Int)):Prop where
 out:wr.ownsRow w1.heap.size 58 1 vo m vs
 els:Els wr vs (ys.map (·.1))
 flt:wr.ownsRow w1.heap.size 23 1 vf m (ys.map fun y=>Value.int .u16 y.2)
 be:Below w1.heap.size w1 wr
 len:m=ys.length
theorem Pr.below{w1 wr w2:World}{vo vf:Value}{m:Nat}{vs:List Value}{ys:List (List Int×Int)}(h:Pr w1 wr vo vf m vs ys)(hb:Below wr.heap.size wr w2):Pr w1 w2 vo vf m vs ys :=
 ⟨U.ax h.out hb (Nat.le_refl _),h.els.below hb,U.ax h.flt hb (Nat.le_refl _),h.be.trans (hb.mono h.be.size),h.len⟩
theorem dH(W:World)(o:Obj):Below W.heap.size W (W.alloc o):=(Below.refl _ W).alloc (Nat.le_refl _) o
theorem Pr.mid{w1 w2 w3:World}{vo vo' vf:Value}{m:Nat}{vs:List Value}{ys:List (List Int×Int)}{u:Value}(h:Pr w1 w2 vo vf m vs ys)
  (g3:(w2.alloc (.cells #[u] 58)).grownBy w3 vo.ownBlock):w3.ownsRow w1.heap.size 23 1 vf m (ys.map fun y=>Value.int .u16 y.2)∧w1.heap.size≤w3.heap.size:=by
 refine⟨gH (h.flt.alloc _) (h.out.alloc _) (by decide) g3,?_⟩;have h1:=h.be.size;have h2:=g3.size;simp at h2
 omega
theorem Pr.push{w1 w2 w3 w4:World}{vo vo' vf vf':Value}{m:Nat}{vs:List Value}{ys:List (List Int×Int)}{u:Value}{l:List Int}{f:Int}(h:Pr w1 w2 vo vf m vs ys)(hu:El w2 u l)
  (h3:w3.ownsRow w1.heap.size 58 1 vo' (m+1) (vs++[u])) (g3:(w2.alloc (.cells #[u] 58)).grownBy w3 vo.ownBlock)
  (h4:w4.ownsRow w1.heap.size 23 1 vf' (m+1) ((ys.map fun y=>Value.int .u16 y.2)++[.int .u16 f])) (g4:(w3.alloc (.cells #[.int .u16 f] 23)).grownBy w4 vf.ownBlock):Pr w1 w4 vo' vf' (m+1) (vs++[u]) (ys++[(l,f)]):=by
 have ba:=dH w2 (.cells #[u] 58);have o2:=h.out.alloc (.cells #[u] 58);have e3:=((h.els.below ba).kept o2 (by decide) g3).snoc ((hu.below ba).kept o2 (by decide) g3);have f3:=(h.mid (vo':=vo') g3).1;have bb:=dH w3 (.cells #[.int .u16 f] 23);have f4:=f3.alloc (.cells #[.int .u16 f] 23);have b3:Below w1.heap.size w1 w3:=U.below_grow (h.be.alloc h.be.size _) (Nat.le_trans h.be.size (by simp)) o2 g3;refine⟨gH (h3.alloc _) f4 (by decide) g4,?_,?_,U.below_grow (b3.alloc b3.size _) (Nat.le_trans b3.size (by simp)) f4 g4,by rw[List.length_append,←h.len];rfl⟩
 ·rw[List.map_append]
  exact(e3.below bb).kept f4 (by decide) g4
 ·rw[List.map_append];exact h4
theorem qx:∀ l:List Int,∀ a∈spl l,a.length≤l.length
 | [],a,h=>by simp[spl]at h;simp[h]
 | c::l,a,h=>by
  obtain⟨b,t,hb⟩:=bL l;have ih:=qx l;by_cases hc:c=46
  ·rw[spl,if_pos hc]at h
   rcases List.mem_cons.1 h with rfl | h
   ·simp
   ·have:=ih a h;simp;omega
  ·rw[spl,if_neg hc,hb]at h
   rw[hb]at ih;rcases List.mem_cons.1 h with rfl | h
   ·have:=ih b (by simp);simp;omega
   ·have:=ih a (by simp[h]);simp;omega
theorem own_base'{W:World}{a b e size:Nat}{v:Value}{n:Nat}{X:List Value}(h:W.ownsRow b e size v n X)(hab:a≤b):W.ownsRow a e size v n X:=by
 rcases h with⟨h1,h2 | ⟨g,cap,cur,rfl,hbg,h3⟩⟩
 ·exact⟨h1,.inl h2⟩
 ·exact⟨h1,.inr ⟨g,cap,cur,rfl,Nat.le_trans hab hbg,h3⟩⟩
theorem fi{W:World}{base e n cap:Nat}{a:Option Addr}{X:List Value}(h:W.ownsRow base e 1 (.slice a n cap) n X)(k:Nat)(hk:k<n):∃ g,a=some ⟨g,0,none⟩∧W.cell? ⟨g,k,none⟩=some (X[k]?.getD undef)∧W.frozen? ⟨g,k,none⟩=false:=by
 rcases id h.2 with⟨e1,h0⟩ | ⟨g,cap',cur,e1,_,hg,_⟩
 ·omega
 ·cases e1
  refine⟨g,rfl,?_,by simp[World.frozen?,hg]⟩;have hl:=h.1;rw[h.cellAt k (by omega),List.getElem?_eq_getElem (by omega)];rfl
theorem jG{W:World}{u:Value}{l:List Int}(h:El W u l):∃ a c,u=.slice a l.length c:=by
 obtain⟨a,c,e,_⟩:=h.1;exact⟨a,c,e⟩
theorem xo(ys:List (List Int×Int))(y:List Int×Int):jb (ys++[y])=(jb ys||L.kE y.1):=by simp[jb]
def iN(ys:List (List Int×Int))(k:Nat):List (List Int×Int):=(ys.take k).map dU++ys.drop k
theorem ll(ys:List (List Int×Int))(k:Nat):(iN ys k).map (·.1)=ys.map (·.1):=by
 unfold iN;rw[List.map_append,List.map_map];have:((·.1)∘dU:List Int×Int→List Int)=(·.1):=rfl;rw[this,←List.map_append,List.take_append_drop]
theorem lj(ys:List (List Int×Int))(k:Nat)(h:k<ys.length):iN ys k=(ys.take k).map dU++ys[k]::ys.drop (k+1)∧iN ys (k+1)=(ys.take k).map dU++dU ys[k]::ys.drop (k+1):=by
 unfold iN;refine⟨by rw[List.drop_eq_getElem_cons h],?_⟩;rw[List.take_succ_eq_append_getElem h,List.map_append,List.append_assoc];rfl
theorem G9(ys:List (List Int×Int))(k:Nat)(h:k<ys.length)(hb:L.dJ ys[k].1=true):iN ys (k+1)=iN ys k:=by
 obtain⟨e1,e2⟩:=lj ys k h;rw[e1,e2];have:dU ys[k]=ys[k]:=by unfold dU;rw[hb];rfl
 rw[this]
theorem EU(ys:List (List Int×Int))(k:Nat)(h:k<ys.length)(hb:L.dJ ys[k].1=false):(iN ys (k+1)).map (fun y=>Value.int .u16 y.2)=((iN ys k).map (fun y=>Value.int .u16 y.2)).set k (.int .u16 (ys[k].2+256)):=by
 obtain⟨e1,e2⟩:=lj ys k h;rw[e1,e2];have hl:((ys.take k).map dU).length=k:=by rw[List.length_map,List.length_take];omega
 have:dU ys[k]=(ys[k].1,ys[k].2+256):=by unfold dU;rw[hb];rfl
 rw[this,List.map_append,List.map_append,List.map_cons,List.map_cons,List.set_append_right _ _ (by simp;omega)];simp only[List.length_map];rw[show k - (ys.take k).length=0 by rw[List.length_take];omega];rfl
theorem ET(ys:List (List Int×Int))(k:Nat)(h:k<ys.length):(iN ys k)[k]? = some ys[k]:=by
 obtain⟨e1,_⟩:=lj ys k h;have hl:((ys.take k).map dU).length=k:=by rw[List.length_map,List.length_take];omega
 rw[e1,List.getElem?_append_right (by omega),hl,Nat.sub_self];rfl
theorem ES(ys:List (List Int×Int))(k:Nat):(iN ys k).length=ys.length:=by
 have:=congrArg List.length (ll ys k)
 simpa using this
def Bd(xs:List (List Int×Int))(w:World)(e:Ending)(W':World):Prop:=∃ v f vs,e=.returned (.tuple #[v,f])∧Pr w W' v f xs.length vs xs
theorem E9(xs:List (List Int×Int))(k:Nat)(h:k<xs.length):xs.take (k+1)=xs.take k++[xs[k]]:=List.take_succ_eq_append_getElem h
theorem kS(X:List Int)(hy:Bool):(prc X hy).length=(spl X).length:=by
 unfold prc;split <;> simp
theorem cH:∀(ls:List (List Int)) (B:Nat),(∀ l∈ls,l.length≤B)→(join ls).length≤ls.length * (B+1)
 | [],B,_=>by simp[join]
 | [a],B,h=>by
  have:=h a (by simp);simp[join];omega
 | a::b::l,B,h=>by
  have h1:=cH (b::l) B (fun x hx=>h x (by simp at hx ⊢;exact .inr hx));have h2:=h a (by simp);rw[join,List.length_append,List.length_cons,List.length_cons,Nat.add_mul];omega
theorem H9:(Tryz.prog.info? 9).map (fun i=>(i.zero,i.size,i.bytes))=some (some (.string ⟨#[]⟩),1,16):=by kernel_rfl
theorem Ai{l:List Int}{t:ByteArray}{r:Int}(h:P.kN l t r)(hp:plain l=false):(r=0∧Part l ([120,110,45,45]++U.bn t)∧t.size≤63)∨(r≠0∧¬ ∃ p,Part l p):=by
 rcases h with⟨h1,rfl,rfl⟩ | ⟨h1,h2,rfl,rfl⟩ | ⟨h1,h2,T,h3,⟨h4,rfl,rfl⟩ | ⟨h4,h5,rfl⟩⟩
 ·refine .inr ⟨by decide,?_⟩
  rintro⟨p,⟨k,_⟩ | ⟨_,T,_,_,hl,_⟩⟩
  ·rw[hp]at k;cases k
  ·omega
 ·refine .inr ⟨by decide,?_⟩
  rintro⟨p,⟨k,_⟩ | ⟨_,T,_,_,_,hs,_⟩⟩
  ·rw[hp]at k;cases k
  ·rw[h2]at hs;cases hs
 ·refine .inr ⟨by decide,?_⟩
  rintro⟨p,⟨k,_⟩ | ⟨_,T',hE,hT,_,_,_⟩⟩
  ·rw[hp]at k;cases k
  ·rw[h3.one hE]at h4;omega
 ·refine .inl ⟨rfl,.inr ⟨hp,T,h3,h4,h1,h2,by rw[h5]⟩,?_⟩
  rw[←U.aa,h5];exact h4
def bU(xs:List (List Int×Int))(ts:List ByteArray):Prop:=ts.length=xs.length∧∀ i,i<xs.length→(xs[i]?.getD ([],0)).2=0∧Part (xs[i]?.getD ([],0)).1 (U.bn (ts[i]?.getD ⟨#[]⟩))
def qg(xs:List (List Int×Int)):Prop:=∃ x∈xs,x.2≠0∨¬ ∃ p,Part x.1 p
theorem bU.nil:bU [] []:=⟨rfl,fun i hi=>by simp at hi⟩
theorem bU.snoc{xs:List (List Int×Int)}{ts:List ByteArray}{x:List Int×Int}{t:ByteArray}(h:bU xs ts)(h0:x.2=0)(hp:Part x.1 (U.bn t)):bU (xs++[x]) (ts++[t]):=by
 refine⟨by simp[h.1],fun i hi=>?_⟩;by_cases e:i<xs.length
 ·rw[List.getElem?_append_left e,List.getElem?_append_left (by rw[h.1];exact e)]
  exact h.2 i e
 ·have e2:i=xs.length:=by simp at hi;omega
  subst e2;rw[List.getElem?_append_right (Nat.le_refl _),List.getElem?_append_right (by rw[h.1];exact Nat.le_refl _),h.1,Nat.sub_self];exact⟨h0,hp⟩
theorem yY{l p:List Int}(h:Part l p):p.length≤l.length+67:=by
 rcases h with⟨_,rfl⟩ | ⟨_,T,_,hT,_,_,rfl⟩
 ·omega
 ·simp;omega
def okl(p:List Int):Prop:=p≠[]∧p.length≤63
abbrev mu(ps:List (List Int)):Prop:=1<ps.length∧ps[ps.length - 1]?.getD []=[]
def cps(ps:List (List Int)):List (List Int):=if mu ps then ps.take (ps.length - 1) else ps
def ff(ps:List (List Int)):Prop:=(∃ p∈cps ps,¬ okl p)∨253<(join (cps ps)).length
def G8(xs:List (List Int×Int))(long:Bool)(w:World)(e:Ending)(W':World):Prop :=
 (∃ t r,e=.returned (.tuple #[.string t,.int .i64 r])∧((qg xs∧t=⟨#[]⟩∧r=70)∨(∃ ts,bU xs ts∧((long=true∧ff (ts.map U.bn)∧t=⟨#[]⟩∧r=4)∨(¬ (long=true∧ff (ts.map U.bn))∧U.bn t=join (ts.map U.bn)∧r=0)))))∧Below w.heap.size w W'
theorem b9(t:ByteArray):(t.toList==[])=decide (t.size=0):=by
 rw[Bool.eq_iff_iff,beq_iff_eq,decide_eq_true_eq,Go.ByteArray.toList_eq];rw[←U.aa];unfold U.bn;rw[List.length_map,List.length_eq_zero_iff]
theorem zE{ps:List (List Int)}{n:Nat}(hn:ps.length=n):mu ps↔1<n∧ps[n - 1]?.getD []=[]:=by unfold mu;rw[hn]
end Go.Proofs.YtkekkbciiohbkaaGreatDoor.I
