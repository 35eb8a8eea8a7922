/- Contracts and plain facts. -/
import Derived.Test.YtlmflmdmolcfhaaGreatDoorZ6
import Derived.Laws.Slices
import Derived.Recover
import Derived.Defers
set_option maxRecDepth 100000
set_option maxHeartbeats 16000000
set_option linter.unusedVariables false
set_option linter.unnecessarySimpa false
open Nat (le_refl zero_le le_trans sub_self mod_eq_of_lt zero_add)
open List (length_map length_cons length_take getElem?_eq_getElem map_append getElem?_append_right cons_append nil_append length_append map_cons length_nil push_toArray append_toArray getElem?_map take_of_length_le map_map getElem_mem length_drop)
open Array (replicate_succ replicate_zero)
open Go.World (ownsRow_nil size_alloc)
namespace Go.Proofs.YtlmflmdmolcfhaaGreatDoor
open Tryz Go.RowKit
namespace I
theorem Se:(prog.info? 43).map (fun i=>(i.zero,i.size,i.bytes))=some (some (.slice none 0 0),1,24):=by kernel_rfl
theorem dT{base n:Nat}{v:Value}{X:List Value}{W:World}(h:W.ownsRow base 43 1 v n X):∃ a cap,v=.slice a n cap:=by
 rcases h.2 with⟨rfl,h0⟩ | ⟨g,cap,cur,rfl,_⟩
 ·exact⟨none,0,by rw[h0]⟩
 ·exact⟨_,cap,rfl⟩
def Els(W:World)(vs:List Value)(ls:List (List Int)):Prop:=vs.length=ls.length/\∀ i,i<ls.length->El W (vs[i]?.getD undef) (ls[i]?.getD [])
theorem Els.nil(W:World):Els W [] []:=⟨rfl,fun i hi=>by simp at hi⟩
theorem Els.snoc{W:World}{vs:List Value}{ls:List (List Int)}{u:Value}{l:List Int}(h:Els W vs ls)(hu:El W u l):Els W (vs++[u]) (ls++[l]):=by
 refine⟨by simp[h.1],fun i hi=>?_⟩;by_cases e:i<ls.length
 ·rw[List.getElem?_append_left (by rw[h.1];exact e),List.getElem?_append_left e];exact h.2 i e
 ·have e2:i=ls.length:=by simp at hi;omega
  subst e2;rw[getElem?_append_right (by rw[h.1];exact le_refl _),getElem?_append_right (le_refl _),h.1,sub_self];exact hu
theorem Els.below{W W':World}{vs:List Value}{ls:List (List Int)}(h:Els W vs ls)(hb:Below W.heap.size W W'):Els W' vs ls:=⟨h.1,fun i hi=>(h.2 i hi).below hb⟩
theorem El.kept{W W':World}{u:Value}{l:List Int}{base e size n:Nat}{v:Value}{X:List Value}(h:El W u l)(hown:W.ownsRow base e size v n X)(he:e≠21)(hg:W.grownBy W' v.ownBlock):El W' u l:=by
 refine⟨?_,h.2⟩;obtain⟨a,cap,e1,f⟩:=h.1;refine⟨a,cap,e1,fun hp=>?_⟩;obtain⟨b,off,cur,e2,g,hc⟩:=f hp;refine⟨b,off,cur,e2,(hg.block b (Array.getElem?_eq_some_iff.1 g).1 (fun e'=>?_)).trans g,hc⟩;rcases hown.2 with⟨rfl,_⟩ | ⟨g2,cap2,cur2,rfl,_,hg2,_⟩
 ·simp[Value.ownBlock]at e'
 ·have e3:g2=b:=by simpa[Value.ownBlock]using e'.symm
  subst e3;rw[g]at hg2;cases hg2;exact he rfl
theorem Els.kept{W W':World}{vs:List Value}{ls:List (List Int)}{base e size n:Nat}{v:Value}{X:List Value}(h:Els W vs ls)(hown:W.ownsRow base e size v n X)(he:e≠21)(hg:W.grownBy W' v.ownBlock):Els W' vs ls:=⟨h.1,fun i hi=>(h.2 i hi).kept hown he hg⟩
def tV(cur:List Int):List (List Int)->List (List Int)
 | []=>[cur]
 | a::t=>(cur++a)::t
theorem tU(l:List Int):tV [] (spl l)=spl l:=by obtain⟨a,t,h⟩:=bF l;rw[h];rfl
theorem EE(cur l:List Int):tV cur (spl (46::l))=cur::spl l:=by rw[spl,if_pos rfl];simp[tV]
theorem AV(cur l:List Int)(c:Int)(h:¬ c=46):tV cur (spl (c::l))=tV (cur++[c]) (spl l):=by obtain⟨a,t,hs⟩:=bF l;rw[spl,if_neg h,hs];simp[tV]
theorem drop_at(l:List Int)(k:Nat)(h:k<l.length):l.drop k=l[k]?.getD 0::l.drop (k+1):=by rw[List.drop_eq_getElem_cons h,getElem?_eq_getElem h];rfl
open Go.RowKit Go.Shelf
attribute [local go_sem] Oper.semAt_some
abbrev Pc(n:Nat):={ p:Nat×Nat // p.1<=p.2/\p.2<=n }
def tq(n:Nat)(p:Nat×Nat):Pc n:=if h:p.1<=p.2/\p.2<=n then ⟨p,h⟩ else ⟨(0,0),by simp⟩
theorem rz{n f t:Nat}(h:f<=t/\t<=n):tq n (f,t)=⟨(f,t),h⟩:=by unfold tq;rw[dif_pos h]
def jo:Nat->Nat->List Int->List (Nat×Nat)
 | f,k,[]=>[(f,k)]
 | f,k,c::r=>if c=46 then (f,k)::jo (k+1) (k+1) r else jo f (k+1) r
def jP(n:Nat)(l:List Int):List (Pc n):=(jo 0 0 l).map (tq n)
def lab(l:List Int)(p:Nat×Nat):List Int:=(l.drop p.1).take (p.2 - p.1)
def pcv(a:Option Addr)(p:Nat×Nat):Value:=.slice (if p.2=p.1 then a else a.map (·.add p.1)) (p.2 - p.1) (p.2 - p.1)
theorem Gs(l:List Int)(f k:Nat)(hf:f<=k)(hk:k<l.length):lab l (f,k+1)=lab l (f,k)++[l[k]?.getD 0]:=by unfold lab;show(l.drop f).take (k+1 - f)=(l.drop f).take (k - f)++_;rw[show k+1 - f=k - f+1 by omega,List.take_succ_eq_append_getElem (by rw[length_drop];omega),List.getElem_drop,getElem?_eq_getElem hk];congr 2;simp only[Option.getD_some];congr 1;omega
theorem sM(l:List Int):∀(r:List Int) (f k:Nat),f<=k->k+r.length=l.length->l.drop k=r->(jo f k r).map (lab l)=tV (lab l (f,k)) (spl r)
 | [],f,k,hf,hk,hr=>by simp[jo,spl,tV]
 | c::r,f,k,hf,hk,hr=>by
  simp only[length_cons]at hk;have hkl:k<l.length:=by omega
  have hd:=drop_at l k hkl;rw[hr]at hd;obtain⟨e1,e2⟩:=List.cons.inj hd;rw[jo];split
  ·rename_i h;have ih:=sM l r (k+1) (k+1) (le_refl _) (by omega) e2.symm;have e0:lab l (k+1,k+1)=[]:=by unfold lab;simp
   rw[e0,tU]at ih;rw[map_cons,ih,h,EE]
  ·rename_i h;have ih:=sM l r f (k+1) (by omega) (by omega) e2.symm;rw[Gs l f k hf hkl,<-e1]at ih;rw[ih,AV _ _ _ h]
theorem ym:∀(r:List Int) (f k n:Nat),f<=k->k+r.length=n->∀ p∈jo f k r,p.1<=p.2/\p.2<=n
 | [],f,k,n,hf,hk,p,hp=>by simp[jo]at hp;subst hp;exact⟨hf,by simp at hk;omega⟩
 | c::r,f,k,n,hf,hk,p,hp=>by
  simp only[length_cons]at hk;rw[jo]at hp;split at hp
  ·rcases List.mem_cons.1 hp with rfl | hp
   ·exact⟨hf,by simp only;omega⟩
   ·exact ym r (k+1) (k+1) n (le_refl _) (by omega) p hp
  ·exact ym r f (k+1) n (by omega) (by omega) p hp
theorem Im(n:Nat)(l:List Int)(h:l.length=n):(jP n l).map (fun p=>lab l p.1)=spl l:=by
 have h1:=sM l l 0 0 (le_refl _) (by omega) rfl;have e0:lab l (0,0)=[]:=by unfold lab;simp
 rw[e0,tU]at h1;rw[<-h1];unfold jP;rw[map_map];apply List.map_congr_left;intro p hp;have:=ym l 0 0 n (le_refl _) (by omega) p hp;obtain⟨f,t⟩:=p;show lab l (tq n (f,t)).1=_;rw[rz this]
theorem El.piece{W:World}{a:Option Addr}{n c:Nat}{l:List Int}(h:El W (.slice a n c) l)(hn:l.length=n)(p:Pc n):El W (pcv a p.1) (lab l p.1):=by
 obtain⟨⟨f,t⟩,h1,h2⟩:=p;simp only at h1 h2;have hl:(lab l (f,t)).length=t - f:=by unfold lab;simp only[length_take,length_drop];omega
 by_cases he:t=f
 ·subst he;have e0:lab l (t,t)=[]:=by unfold lab;simp
  show El W (pcv a (t,t)) (lab l (t,t));rw[e0];unfold pcv;simp only[if_true,sub_self];refine⟨⟨a,0,rfl,fun hp=>absurd hp (by simp)⟩,fun a' n' c' e=>by cases e;exact⟨le_refl _,fun _=>rfl⟩⟩
 ·obtain⟨a',c',e',hf⟩:=h.1;rw[hn]at e';cases e';obtain⟨b,off,cur,rfl,hg,hc⟩:=hf (by omega);show El W (pcv (some ⟨b,off,none⟩) (f,t)) (lab l (f,t));unfold pcv;rw[if_neg he];refine⟨⟨_,t - f,by rw[hl],fun hp=>⟨b,off+f,cur,by simp[Addr.add],hg,fun j hj=>?_⟩⟩,fun a' n' c' e=>by cases e;exact⟨le_refl _,fun h=>by cases h⟩⟩;rw[hl]at hj;have:=hc (f+j) (by omega);rw[Nat.add_assoc,this];unfold lab;rw[List.getElem?_take_of_lt (by simp only;omega),List.getElem?_drop]
theorem qg(a:Option Addr)(n c f k:Nat)(h1:f<=k)(h2:k<=c)(W:World):
  (Instr.slice 43 (.slice a n c) (some (.int .i64 (f:Int))) (some (.int .i64 (k:Int))) (some (.int .i64 (k:Int)))).run prog W=.ok (pcv a (f,k)) W:=by
 rw[run_slice_lhm W 43 a n c (by kernel_rfl) .i64 .i64 .i64 (f:Int) (k:Int) (k:Int) (by omega) (by omega) (by omega) (by omega),Ka W];simp only[Result.andThen,sliced,Int.toNat_natCast,Nat.mul_one];rfl
abbrev MK(a:Option Addr)(n:Nat)(p:Pc n):Array Value:=#[pcv a p.1]
structure Bx(Bl:Nat)(v:Value)(l:List Int)(W:World):Prop where
 box:Boxed W Bl 43 v
 el:El W v l
def lG(Bl:Nat)(v:Value)(l:List Int)(W W':World):Prop:=Bx Bl v l W->Bx Bl v l W'
theorem ML(m:Nat)(hm:1<=m)(lp Bl:Nat)(a:Option Addr)(n c:Nat)(l:List Int)(hn:l.length=n)(hlen:n<=100000)(J Jx:List (Pc n)->World->Prop)
  (hY:∀ pre x W,J pre W->pre.length<n+1->YieldAt Fence.wide (m - 1) prog lp (MK a n x) W fun e W' =>
    (e=.returned (.bool true)/\J (pre++[x]) W'/\lG Bl (.slice a n c) l W W')\/(e=.returned (.bool false)/\Jx (pre++[x]) W'))
  (W:World) (hF:Bx Bl (.slice a n c) l W) (h0:J [] W) :
  CallsIn Fence.wide m prog 282 #[.func (.yield lp) #[] #[],.pointer (some ⟨Bl,0,none⟩)] W fun e W'=>(∃ v,e=.returned v) /\
   ((∃ ys,ys=jP n l/\J ys W')\/(∃ pre,pre <+: jP n l/\Jx pre W')):=by
 have hcl:=hF.box.cell;have hnc:=(hF.el.2 _ _ _ rfl).1;have HN:=hid hn;have HS0:Hid (jP n l=[]++(jo 0 0 (l.drop 0)).map (tq n)):=by show _=_;rw[List.drop_zero];rfl
 refine callsIn_of_wp func282 rfl trivial ?_ rfl;simp only[ntmps282,List.size_toArray,length_cons,length_nil,Nat.reduceAdd,Nat.reduceSub,replicate_succ,replicate_zero,push_toArray,append_toArray,nil_append,cons_append];obtain⟨C,hC⟩:=Ex' (jP n l);rw[hC]at HS0 ⊢;clear hC hn;gi_wp2_with fail
 gi_loopw [3,8] (fun v3 v8 wr=>∃(f k:Nat) (pre:List (Pc n)),f<=k/\k<=n/\pre.length<=k/\v3=.int .i64 f/\v8=.int .i64 k/\Bx Bl (.slice a n c) l wr/\J pre wr/\Hid (C=pre++(jo f k (l.drop k)).map (tq n)))
  (fun _ v8 _=>n - (intOf v8).toNat)
 case atStart=>exact⟨0,0,[],le_refl _,zero_le _,le_refl _,rfl,rfl,hF,h0,HS0⟩
 case round =>
  obtain⟨f,k,pre,hfk,hk,hpk,rfl,rfl,hBx,hJ,HE⟩:=hrel;have hcl:=hBx.box.cell;by_cases hlt:k<n
  ·obtain⟨b,off,he,hb,hcell⟩:=N.bU.cell hBx.el.1 HN.out.symm (by rw[HN.out];omega);subst he;have hck:=hcell k (by rw[HN.out];exact hlt);have HDR:=hid (drop_at l k (by rw[HN.out];exact hlt));obtain⟨x,hx⟩:=Ex' (l[k]?.getD 0);rw[hx]at hck HDR;clear hx hcell hb;by_cases h46:x=46
   ·have hsl:=fun W=>qg (some ⟨b,off,none⟩) n c f k hfk (by omega) W;have HST:Hid (C=(pre++[⟨(f,k),hfk,by omega⟩])++(jo (k+1) (k+1) (l.drop (k+1))).map (tq n)):=by show _=_;rw[HE.out,HDR.out,h46,jo,if_pos rfl,map_cons,rz ⟨hfk,by omega⟩];simp
    subst h46;have hyy:=hY pre ⟨(f,k),hfk,by omega⟩ wr hJ (by omega);obtain⟨fn,tmps,assign,body,hy,hR⟩:=hyy;dsimp only[MK]at hy;obtain⟨u,hu⟩:=Ex' (pcv (some ⟨b,off,none⟩) (f,k));rw[hu]at hsl hy;clear hu;gi_wp2;refine hR.mono ?_;rintro e W3 (⟨rfl,hJ3,hk3⟩ | ⟨rfl,hJx3⟩)
    ·have hB3:=hk3 hBx;gi_wp2
     go_roundw
     case rel=>exact⟨k+1,k+1,_,le_refl _,by omega,by simp;omega,by go_num,by go_num,hB3,hJ3,HST⟩
     case measure=>simp[intOf];omega
    ·gi_wp2;refine bodyPost_ret (results_none rfl _ _ _) rfl ?_;exact⟨⟨_,rfl⟩,.inr ⟨_,⟨_,HST.out.symm⟩,hJx3⟩⟩
   ·have h46b:(x != 46)=true:=by simpa using h46
    have h46c:(x==46)=false:=by simpa using h46
    have HST:Hid (C=pre++(jo f (k+1) (l.drop (k+1))).map (tq n)):=by show _=_;rw[HE.out,HDR.out,jo,if_neg h46]
    gi_wp2
    go_roundw
    case rel=>exact⟨f,k+1,pre,by omega,by omega,by omega,by go_num,by go_num,hBx,hJ,HST⟩
    case measure=>simp[intOf];omega
  ·obtain rfl:k=n:=by omega
   have hsl:=fun W=>qg a k c f k hfk hnc W;have HST:Hid (C=pre++[⟨(f,k),hfk,le_refl _⟩]):=by show _=_;rw[HE.out,List.drop_of_length_le (by rw[HN.out];exact le_refl _),jo,map_cons,rz ⟨hfk,le_refl _⟩];rfl
   have hyy:=hY pre ⟨(f,k),hfk,le_refl _⟩ wr hJ (by omega);obtain⟨fn,tmps,assign,body,hy,hR⟩:=hyy;dsimp only[MK]at hy;obtain⟨u,hu⟩:=Ex' (pcv a (f,k));rw[hu]at hsl hy;clear hu;gi_wp2;refine hR.mono ?_;rintro e W3 (⟨rfl,hJ3,hk3⟩ | ⟨rfl,hJx3⟩)
   ·gi_wp2
    go_end0
    exact⟨⟨_,rfl⟩,.inl ⟨_,HST.out.symm,hJ3⟩⟩
   ·gi_wp2
    go_end0
    exact⟨⟨_,rfl⟩,.inr ⟨_,⟨[],by rw[HST.out,List.append_nil]⟩,hJx3⟩⟩
theorem Ck(m:Nat)(v:Value)(w:World)(hv:∃ a k c,v=.slice a k c):
  CallsIn Fence.wide m prog 261 #[v] w fun e w'=>e=.returned (.func (.func 282) #[] #[.pointer (some ⟨w.heap.size,0,none⟩)])/\w'=w.alloc (.cells #[v] 43):=by
 obtain⟨a,k,c,rfl⟩:=hv;refine callsIn_of_wp func261 rfl trivial ?_ rfl;simp only[ntmps261,List.size_toArray,length_cons,length_nil,Nat.reduceAdd,Nat.reduceSub,replicate_succ,replicate_zero,push_toArray,append_toArray,nil_append,cons_append];gi_wp2;go_ret;exact⟨rfl,rfl⟩
theorem El.grown{W W':World}{u:Value}{l:List Int}{row:Option Nat}(h:El W u l)(hg:W.grownBy W' row)(hr:∀ k,row=some k->∀ cur,W.heap[k]? ≠ some (.cells cur 21 (0,0))):El W' u l:=by refine⟨?_,h.2⟩;obtain⟨a,cap,e1,f⟩:=h.1;refine⟨a,cap,e1,fun hp=>?_⟩;obtain⟨b,off,cur,e2,g,hc⟩:=f hp;exact⟨b,off,cur,e2,(hg.block b (Array.getElem?_eq_some_iff.1 g).1 (fun e'=>hr b e'.symm cur g)).trans g,hc⟩
theorem El.other{W W':World}{u:Value}{l:List Int}{row:Option Nat}(h:El W u l)(hg:W.grownBy W' row)(hr:∀ r,row=some r->∃ o:Obj,W.heap[r]? = some o/\o.isCells=false):El W' u l :=
 h.grown hg (fun k e cur hc=>by obtain⟨o,ho,hn⟩:=hr k e;rw[hc]at ho;cases ho;cases hn)
theorem El.set{W:World}{u:Value}{l:List Int}{B:Nat}{t:TypeId}{x:Value}(h:El W u l)(hb:Boxed W B t x)(ht:t≠21)(v':Value):El (W.setCell ⟨B,0,none⟩ v') u l :=
 h.grown (grownBy_setCell' W B v') (fun k e cur hc=>by cases e;rw[show W.heap[B]? = _ from hb]at hc;cases hc;exact ht rfl)
theorem cK{W W':World}{B:Nat}{t:TypeId}{v:Value}{row:Option Nat}(h:Boxed W B t v)(hg:W.grownBy W' row)(hr:∀ r,row=some r->∃ o:Obj,W.heap[r]? = some o/\o.isCells=false):Boxed W' B t v :=
 boxed_own (β:=Unit) B t (fun _=>v) () W W' row h hg hr
theorem Bx.other{W W':World}{Bl:Nat}{v:Value}{l:List Int}{row:Option Nat}(h:Bx Bl v l W)(hg:W.grownBy W' row)(hr:∀ r,row=some r->∃ o:Obj,W.heap[r]? = some o/\o.isCells=false):Bx Bl v l W' :=
 ⟨cK h.box hg hr,h.el.other hg hr⟩
theorem Bx.below{W W':World}{Bl:Nat}{v:Value}{l:List Int}(h:Bx Bl v l W)(hb:Below W.heap.size W W'):Bx Bl v l W':=⟨(hb.block Bl h.box.lt).trans h.box,h.el.below hb⟩
theorem yf(m:Nat)(hm:1<=m)(Bl:Nat)(a:Option Addr)(n c:Nat)(l:List Int)(hn:l.length=n)(hlen:n<=100000)(w:World)(hF:Bx Bl (.slice a n c) l w):
  SeqStopsK Fence.wide m prog 282 #[.pointer (some ⟨Bl,0,none⟩)] (MK a n) (lG Bl (.slice a n c) l) (fun ys=>ys=jP n l) (fun pre=>pre <+: jP n l) (n+1) w:=fun lp J Jx W hW hJ _ hY h0 =>
 ML m hm lp Bl a n c l hn hlen J Jx hY W (hF.below hW) h0
theorem Gt{Bl:Nat}{v:Value}{l:List Int}{A B C:World}(h:lG Bl v l A B)(k:lG Bl v l B C):lG Bl v l A C:=fun x=>k (h x)
theorem Gu{Bl:Nat}{v:Value}{l:List Int}{w:World}(W:World)(k:Nat)(o o':Obj)(_:w.heap.size<=k)(h1:W.heap[k]? = some o)(h2:o.isCells=false)(_:o.isWalk=false):lG Bl v l W (W.putObj k o') :=
 fun x=>x.other (grownBy_putObj' W k o') (fun r e=>by cases e;exact⟨o,h1,h2⟩)
theorem El.srcK{W:World}{u:Value}{l:List Int}(h:El W u l):U.mL W u l:=by
 obtain⟨a,cap,rfl,hf⟩:=id h.1;have h2:=h.2 _ _ _ rfl;cases a with
 | none =>
  have h0:l.length=0:=Nat.eq_zero_of_not_pos (fun hp=>by obtain⟨b,off,cur,e,_⟩:=hf hp;cases e);have e1:=h2.2 rfl;exact .inl ⟨by rw[h0,e1],List.length_eq_zero_iff.1 h0⟩
 | some ad =>
  refine .inr ⟨ad,cap,rfl,fun j hj=>?_⟩;obtain⟨b,off,cur,e,hg,hc⟩:=hf (by omega);cases e;rw[Addr.add_lit];simp[World.cell?,hg,hc j hj]
theorem jQ(u:Value)(l:List Int)(w:World)(hlen:l.length<=100000)(hu:El w u l):
  Calls prog 287 #[u] w fun e W'=>N.pC l w e W':=by
 have HU:=hid hu.srcK;obtain⟨a,c,e,-⟩:=hu.1;subst e;obtain⟨n,hn⟩:=Ex' l.length;have HN:=hid hn;unfold N.pC;rw[hn]at hlen HU ⊢;clear hn hu;go_enter func287,ntmps287;go_wp2_with(at_builtin;refine U.bI rfl _ _ rfl w.heap.size _ 0 [] rfl (ownsRow_nil _ _ _ _) _ l rfl HU.out (by have:=HN.out;omega) (le_refl _) ?_;intro v4 w4 r4 g4;rw[HN.out,zero_add,nil_append]at r4;obtain⟨a4,c4,rfl⟩:=bY r4;have R4:=hid r4;have HB4:=hid (U.below_grow (e:=21) (size:=1) (n:=0) (xs:=[]) (Below.refl _ _) (le_refl _) (ownsRow_nil _ _ _ _) g4);clear r4 g4);go_ret;exact⟨_,rfl,R4.out,HB4.out⟩
def hi8(r:Int):Bool:=decide (128<=r)
theorem ES{l:List Int}(h:Scs l):plain l=!(l.any hi8):=by
 cases hp:plain l with
 | true =>
  have:l.any hi8=false:=by rw[List.any_eq_false];intro r hr;have:=cM.1 hp r hr;simp[hi8];omega
  rw[this];rfl
 | false =>
  cases ha:l.any hi8 with
  | true=>rfl
  | false =>
   have:plain l=true:=cM.2 (fun c hc=>by
     have h1:=List.any_eq_false.1 ha c hc
     have h2:=yX (h c hc)
     simp[hi8]at h1
     omega)
   rw[hp]at this;cases this
theorem PZ(r:Int)(w:World):Calls prog 301 #[.int .i32 r] w fun e W'=>e=.returned (.bool (hi8 r))/\W'=w:=by go_enter func301,ntmps301;go_wp2;go_ret;exact⟨rfl,rfl⟩
theorem uZ(v:Value)(l:List Int)(w:World)(hlen:l.length<=100000)(hv:U.av w v l):
  Calls prog 319 #[v,.func (.func 301) #[] #[]] w fun e W'=>L.Rb (l.any hi8) e/\W'=w:=by
 obtain⟨a,c,rfl,hf⟩:=L.aM hv;have HF:=hid hf;have HNO:=hid (L.lF (p:=hi8) (L:=l));have HYES:=hid (L.ta (p:=hi8) (L:=l));obtain⟨n,hn⟩:=Ex' l.length;rw[hn]at hlen HF HNO HYES ⊢;obtain⟨R,hR⟩:=Ex' (l.any hi8);rw[hR]at HNO HYES ⊢;clear hv hf hn hR;go_enter func319,ntmps319;go_wp2_with fail
 go_loop [8] (fun v8=>∃ k:Nat,k<=n/\v8=.int .i64 k/\Hid (∀ j,j<k->hi8 (l[j]?.getD 0)=false)) (fun v8=>n - (intOf v8).toNat)
 case atStart=>exact⟨0,zero_le _,rfl,(fun j hj=>by omega)⟩
 case round =>
  obtain⟨k,hk,rfl,HA⟩:=hrel;by_cases hlt:k<n
  ·obtain⟨b,off,rfl,hck⟩:=L.ji HF.out (Below.refl _ _) k hlt;have HX:=hid (HYES.out k hlt)
   have HS:Hid (hi8 (l[k]?.getD 0)=false->∀ j,j<k+1->hi8 (l[j]?.getD 0)=false):=fun h j hj=>by
    by_cases e:j=k
    ·rw[e];exact h
    ·exact HA.out j (by omega)
   have HC:=hid (PZ (l[k]?.getD 0) w);obtain⟨t,ht⟩:=Ex' (hi8 (l[k]?.getD 0));rw[ht]at HX HS HC;obtain⟨y,hy⟩:=Ex' (l[k]?.getD 0);rw[hy]at hck HC;clear hy ht;cases t with
   | true =>
    have HR:=hid (HX.out rfl);go_wp2_with(go_at_call 301;refine HC.out.mono ?_;rintro e w1 ⟨rfl,hw1⟩;obtain rfl:=hw1.symm);go_ret;exact⟨⟨k,rfl,by omega,by omega,by rw[HR.out];exact decide_eq_true (by omega)⟩,rfl⟩
   | false =>
    have HR:=hid (HS.out rfl);go_wp2_with(go_at_call 301;refine HC.out.mono ?_;rintro e w1 ⟨rfl,hw1⟩;obtain rfl:=hw1.symm);exact⟨⟨k+1,by omega,by go_num,HR⟩,by simp[intOf];omega⟩
  ·have HR:=hid (HNO.out (fun j hj=>HA.out j (by omega)));go_wp2;go_ret;exact⟨⟨-1,rfl,by omega,by omega,by rw[HR.out];rfl⟩,rfl⟩
theorem lT(v:Value)(l:List Int)(w:World)(hlen:l.length<=100000)(hs:Scs l)(hv:U.av w v l):
  Calls prog 279 #[v] w fun e W'=>e=.returned (.bool (plain l))/\W'=w:=by
 have HC:=hid (uZ v l w hlen hv);have HP:=hid (ES hs);obtain⟨a,c,rfl,-⟩:=L.aM hv;obtain⟨n,hn⟩:=Ex' l.length;rw[hn]at HC ⊢;obtain⟨R,hR⟩:=Ex' (plain l);rw[hR]at HP ⊢;obtain⟨A,hA⟩:=Ex' (l.any hi8);rw[hA]at HP HC;clear hv hn hR hA;have HCF:Hid (Calls prog 300 #[.slice a n c,.func (.func 301) #[] #[]] w fun e W'=>e=.returned (.bool A)/\W'=w):=by show Calls _ _ _ _ _;go_enter func300,ntmps300;go_wp2_with fail;refine HC.out.mono ?_;rintro e w1 ⟨⟨k,rfl,h1,h2,h3⟩,rfl⟩;have H3:=hid h3;clear h3;go_wp2;go_ret;exact⟨by rw[<-H3.out];rfl,rfl⟩
 go_enter func279,ntmps279;go_wp2_with(go_at_call 300;refine HCF.out.mono ?_;rintro e w1 ⟨rfl,hw1⟩;obtain rfl:=hw1.symm);go_ret;exact⟨by rw[HP.out];rfl,rfl⟩
def Re(s t:ByteArray)(b:Bool):Prop:=(b=true/\U.bn s=120::110::45::45::U.bn t)\/(b=false/\¬ ∃ r,U.bn s=120::110::45::45::r)
def yA(s:ByteArray)(e:Ending):Prop:=∃ t b,e=.returned (.tuple #[.string t,.bool b])/\Re s t b
theorem fA(s:ByteArray)(k:Nat):U.bn (s.extract 0 k)=(U.bn s).take k:=by unfold U.bn;rw[<-List.map_take];congr 1;simp[ByteArray.data_extract]
theorem MU(s:ByteArray)(h:((s.extract 0 4).toList==[120,110,45,45])=true):U.bn s=120::110::45::45::U.bn (s.extract 4 s.size):=by have h1:(s.extract 0 4).toList=[120,110,45,45]:=eq_of_beq h;have h2:=fA s 4;unfold U.bn at h2;rw[<-Go.ByteArray.toList_eq,h1]at h2;have h3:=List.take_append_drop 4 (U.bn s);rw[U.ar,<-h3];show(U.bn s).take 4++_=_;rw[show(U.bn s).take 4=[120,110,45,45] from h2.symm];simp
theorem QA(s:ByteArray)(h:((s.extract 0 4).toList==[120,110,45,45])=false):¬ ∃ r,U.bn s=120::110::45::45::r:=by
 rintro⟨r,hr⟩;have h2:=fA s 4;rw[hr]at h2;have h3:U.bn (s.extract 0 4)=[120,110,45,45]:=h2
 have h4:(s.extract 0 4).toList=[120,110,45,45]:=by
  rw[Go.ByteArray.toList_eq];unfold U.bn at h3
  have inj:∀(x y:List UInt8),x.map (fun c=>(c.toNat:Int))=y.map (fun c=>(c.toNat:Int))->x=y:=by
   intro x
   induction x with
   | nil=>intro y h;cases y with
    | nil=>rfl
    | cons _ _=>simp at h
   | cons a x ih=>intro y h;cases y with
    | nil=>simp at h
    | cons b y =>
     simp only[map_cons,List.cons.injEq]at h;have e1:a=b:=UInt8.toNat_inj.1 (by omega);rw[e1,ih y h.2]
  exact inj _ [120,110,45,45] h3
 rw[h4]at h;exact absurd h (by decide)
theorem fw(s:ByteArray)(w:World)(hs:s.size<=1000000):
  Calls prog 90 #[.string s,.string ⟨#[120,110,45,45]⟩] w fun e W'=>yA s e/\W'=w:=by
 by_cases h4:4<=s.size
 ·have HY:=hid (MU s);have HNO:=hid (QA s);have h4z:(4:Int)<=(s.size:Int):=by omega
  obtain⟨q,hq⟩:=Ex' (((s.extract 0 4).toList==[120,110,45,45]));rw[hq]at HY HNO;cases q with
  | true =>
   go_enter func90,ntmps90;go_wp2;go_ret2;exact⟨⟨_,_,rfl,.inl ⟨rfl,HY.out trivial⟩⟩,rfl⟩
  | false =>
   go_enter func90,ntmps90;go_wp2;go_ret2;exact⟨⟨_,_,rfl,.inr ⟨rfl,HNO.out trivial⟩⟩,rfl⟩
 ·have HNO:Hid (¬ ∃ r,U.bn s=120::110::45::45::r):=by rintro⟨r,hr⟩;have:=congrArg List.length hr;rw[U.aa]at this;simp at this;omega
  have h4z:¬ (4:Int)<=(s.size:Int):=by omega
  go_enter func90,ntmps90;go_wp2;go_ret2;exact⟨⟨_,_,rfl,.inr ⟨rfl,HNO.out⟩⟩,rfl⟩
theorem Ml:(prog.info? 23).map (fun i=>(i.zero,i.size,i.bytes))=some (some (.int .u16 0),1,2):=by kernel_rfl
theorem dU{base n:Nat}{v:Value}{X:List Value}{W:World}(h:W.ownsRow base 23 1 v n X):∃ a cap,v=.slice a n cap:=by
 rcases h.2 with⟨rfl,h0⟩ | ⟨g,cap,cur,rfl,_⟩
 ·exact⟨none,0,by rw[h0]⟩
 ·exact⟨_,cap,rfl⟩
theorem nT{W W':World}{base base' e e' size size' n n':Nat}{v v':Value}{X X':List Value}(h:W.ownsRow base e size v n X)(h':W.ownsRow base' e' size' v' n' X')(he:e≠e')(hg:W.grownBy W' v'.ownBlock):W'.ownsRow base e size v n X:=by
 rcases id h with⟨h1,⟨rfl,h2⟩ | ⟨g,cap,cur,rfl,hbg,hgg,h3⟩⟩
 ·exact⟨h1,.inl ⟨rfl,h2⟩⟩
 ·refine⟨h1,.inr ⟨g,cap,cur,rfl,hbg,(hg.block g (Array.getElem?_eq_some_iff.1 hgg).1 (fun e2=>?_)).trans hgg,h3⟩⟩;rcases h'.2 with⟨rfl,_⟩ | ⟨g2,cap2,cur2,rfl,_,hg2,_⟩
  ·simp[Value.ownBlock]at e2
  ·have e3:g2=g:=by simpa[Value.ownBlock]using e2.symm
   subst e3;rw[hgg]at hg2;cases hg2;exact he rfl
theorem sC(l:List Int)(hy:Bool):L.flt l hy<=255:=by
 by_cases h:l.length=0
 ·unfold L.flt;rw[if_pos h];omega
 ·rw[mE l hy h];have k:∀(b:Bool) (v:Int),0<=v->L.bt b v<=v:=fun b v hv=>by unfold L.bt;split <;> omega
  have h1:=k (!decide (N.dA l=l)) 1 (by omega);have h2:=k (hy&&decide (4<=l.length)&&decide (l[2]?.getD 0=45)&&decide (l[3]?.getD 0=45)) 2 (by omega);have h3:=k (hy&&(decide (l[0]?.getD 0=45)||decide (l[l.length - 1]?.getD 0=45))) 4 (by omega);have h4:=k (L.dE l) 8 (by omega);have h5:=k (l.any (fun r=>decide (r=46))) 16 (by omega);have h6:=k (L.mrk (l[0]?.getD 0)) 32 (by omega);have h7:=k (l.any L.eS) 64 (by omega);have h8:=k (!L.jok l) 128 (by omega);omega
theorem one_le(l:List Int)(hy:Bool):(one l hy).2<=512:=by
 have h:=sC l hy;unfold one;split
 ·show L.flt l hy<=512;omega
 ·split
  ·exact Int.le_refl _
  ·split
   ·exact Int.le_refl _
   ·rename_i m _;split
    ·exact Int.le_refl _
    ·have:=sC m hy;show L.flt m hy<=512;omega
theorem rU(l:List Int)(hy:Bool)(h:l.length<=10000):(one l hy).1.length<=10000:=by
 unfold one;split
 ·exact h
 ·split
  ·exact h
  ·rename_i h2;cases hr:rdx (l.drop 4) with
   | none=>exact h
   | some m =>
    simp only;split
    ·exact h
    ·unfold rdx at hr;split at hr
     ·cases hr
     ·split at hr
      ·cases hr
      ·rename_i h3 h4;have hp:=cM.1 (show plain l=true by simpa using h2);have hB:U.Bytes (l.drop 4):=fun c hc=>by have:=hp c (List.mem_of_mem_drop hc);omega
       have:=(P.mF hr (by simpa using h4) hB (by omega)).2.2;show m.length<=10000;omega
structure Pr(w1 wr:World)(vo vf:Value)(m:Nat)(vs:List Value)(ys:List (List Int×Int)):Prop where
 out:wr.ownsRow w1.heap.size 43 1 vo m vs
 els:Els wr vs (ys.map (·.1))
 flt:wr.ownsRow w1.heap.size 23 1 vf m (ys.map fun y=>Value.int .u16 y.2)
 be:Below w1.heap.size w1 wr
 len:m=ys.length
theorem Pr.below{w1 wr w2:World}{vo vf:Value}{m:Nat}{vs:List Value}{ys:List (List Int×Int)}(h:Pr w1 wr vo vf m vs ys)(hb:Below wr.heap.size wr w2):Pr w1 w2 vo vf m vs ys :=
 ⟨U.an h.out hb (le_refl _),h.els.below hb,U.an h.flt hb (le_refl _),h.be.trans (hb.mono h.be.size),h.len⟩
theorem iS(W:World)(o:Obj):Below W.heap.size W (W.alloc o):=(Below.refl _ W).alloc (le_refl _) o
theorem tG:∀ l:List Int,∀ a∈spl l,a.length<=l.length
 | [],a,h=>by simp[spl]at h;simp[h]
 | c::l,a,h=>by
  obtain⟨b,t,hb⟩:=bF l;have ih:=tG l;by_cases hc:c=46
  ·rw[spl,if_pos hc]at h;rcases List.mem_cons.1 h with rfl | h
   ·simp
   ·have:=ih a h;simp;omega
  ·rw[spl,if_neg hc,hb]at h;rw[hb]at ih;rcases List.mem_cons.1 h with rfl | h
   ·have:=ih b (by simp);simp;omega
   ·have:=ih a (by simp[h]);simp;omega
theorem own_base'{W:World}{a b e size:Nat}{v:Value}{n:Nat}{X:List Value}(h:W.ownsRow b e size v n X)(hab:a<=b):W.ownsRow a e size v n X:=by
 rcases h with⟨h1,h2 | ⟨g,cap,cur,rfl,hbg,h3⟩⟩
 ·exact⟨h1,.inl h2⟩
 ·exact⟨h1,.inr ⟨g,cap,cur,rfl,le_trans hab hbg,h3⟩⟩
theorem fY{W:World}{base e n cap:Nat}{a:Option Addr}{X:List Value}(h:W.ownsRow base e 1 (.slice a n cap) n X)(k:Nat)(hk:k<n):∃ g,a=some ⟨g,0,none⟩/\W.cell? ⟨g,k,none⟩=some (X[k]?.getD undef)/\W.frozen? ⟨g,k,none⟩=false:=by
 rcases id h.2 with⟨e1,h0⟩ | ⟨g,cap',cur,e1,_,hg,_⟩
 ·omega
 ·cases e1;refine⟨g,rfl,?_,by simp[World.frozen?,hg]⟩;have hl:=h.1;rw[h.cellAt k (by omega),getElem?_eq_getElem (by omega)];rfl
theorem kL{W:World}{u:Value}{l:List Int}(h:El W u l):∃ a c,u=.slice a l.length c:=by obtain⟨a,c,e,_⟩:=h.1;exact⟨a,c,e⟩
theorem CE(ys:List (List Int×Int))(y:List Int×Int):jV (ys++[y])=(jV ys||L.lY y.1):=by simp[jV]
def jC(ys:List (List Int×Int))(k:Nat):List (List Int×Int):=(ys.take k).map eI++ys.drop k
theorem mP(ys:List (List Int×Int))(k:Nat):(jC ys k).map (·.1)=ys.map (·.1):=by unfold jC;rw[map_append,map_map];have:((·.1)∘eI:List Int×Int->List Int)=(·.1):=rfl;rw[this,<-map_append,List.take_append_drop]
theorem mO(ys:List (List Int×Int))(k:Nat)(h:k<ys.length):jC ys k=(ys.take k).map eI++ys[k]::ys.drop (k+1)/\jC ys (k+1)=(ys.take k).map eI++eI ys[k]::ys.drop (k+1):=by unfold jC;refine⟨by rw[List.drop_eq_getElem_cons h],?_⟩;rw[List.take_succ_eq_append_getElem h,map_append,List.append_assoc];rfl
theorem Rg(ys:List (List Int×Int))(k:Nat)(h:k<ys.length)(hb:L.ef ys[k].1=true):jC ys (k+1)=jC ys k:=by
 obtain⟨e1,e2⟩:=mO ys k h;rw[e1,e2];have:eI ys[k]=ys[k]:=by unfold eI;rw[hb];rfl
 rw[this]
theorem Oj(ys:List (List Int×Int))(k:Nat)(h:k<ys.length)(hb:L.ef ys[k].1=false):(jC ys (k+1)).map (fun y=>Value.int .u16 y.2)=((jC ys k).map (fun y=>Value.int .u16 y.2)).set k (.int .u16 (ys[k].2+256)):=by
 obtain⟨e1,e2⟩:=mO ys k h;rw[e1,e2];have hl:((ys.take k).map eI).length=k:=by rw[length_map,length_take];omega
 have:eI ys[k]=(ys[k].1,ys[k].2+256):=by unfold eI;rw[hb];rfl
 rw[this,map_append,map_append,map_cons,map_cons,List.set_append_right _ _ (by simp;omega)];simp only[length_map];rw[show k - (ys.take k).length=0 by rw[length_take];omega];rfl
theorem Oi(ys:List (List Int×Int))(k:Nat)(h:k<ys.length):(jC ys k)[k]? = some ys[k]:=by
 obtain⟨e1,_⟩:=mO ys k h;have hl:((ys.take k).map eI).length=k:=by rw[length_map,length_take];omega
 rw[e1,getElem?_append_right (by omega),hl,sub_self];rfl
theorem Oh(ys:List (List Int×Int))(k:Nat):(jC ys k).length=ys.length:=by have:=congrArg List.length (mP ys k);simpa using this
def Jg(xs:List (List Int×Int))(w:World)(e:Ending)(W':World):Prop:=∃ v f vs,e=.returned (.tuple #[v,f])/\Pr w W' v f xs.length vs xs
theorem OF(xs:List (List Int×Int))(k:Nat)(h:k<xs.length):xs.take (k+1)=xs.take k++[xs[k]]:=List.take_succ_eq_append_getElem h
theorem mw(X:List Int)(hy:Bool):(prc X hy).length=(spl X).length:=by unfold prc;split <;> simp
theorem cW:∀(ls:List (List Int)) (B:Nat),(∀ l∈ls,l.length<=B)->(join ls).length<=ls.length * (B+1)
 | [],B,_=>by simp[join]
 | [a],B,h=>by
  have:=h a (by simp);simp[join];omega
 | a::b::l,B,h=>by have h1:=cW (b::l) B (fun x hx=>h x (by simp at hx ⊢;exact .inr hx));have h2:=h a (by simp);rw[join,length_append,length_cons,length_cons,Nat.add_mul];omega
theorem Sd:(prog.info? 9).map (fun i=>(i.zero,i.size,i.bytes))=some (some (.string ⟨#[]⟩),1,16):=by kernel_rfl
theorem Hq{l:List Int}{t:ByteArray}{r:Int}(h:P.Jj l t r)(hp:plain l=false):(r=0/\Part l ([120,110,45,45]++U.bn t)/\t.size<=63)\/(r≠0/\¬ ∃ p,Part l p):=by
 rcases h with⟨h1,rfl,rfl⟩ | ⟨h1,h2,rfl,rfl⟩ | ⟨h1,h2,T,h3,⟨h4,rfl,rfl⟩ | ⟨h4,h5,rfl⟩⟩
 ·refine .inr ⟨by decide,?_⟩;rintro⟨p,⟨k,_⟩ | ⟨_,T,_,_,hl,_⟩⟩
  ·rw[hp]at k;cases k
  ·omega
 ·refine .inr ⟨by decide,?_⟩;rintro⟨p,⟨k,_⟩ | ⟨_,T,_,_,_,hs,_⟩⟩
  ·rw[hp]at k;cases k
  ·rw[h2]at hs;cases hs
 ·refine .inr ⟨by decide,?_⟩;rintro⟨p,⟨k,_⟩ | ⟨_,T',hE,hT,_,_,_⟩⟩
  ·rw[hp]at k;cases k
  ·rw[h3.one hE]at h4;omega
 ·refine .inl ⟨rfl,.inr ⟨hp,T,h3,h4,h1,h2,by rw[h5]⟩,?_⟩;rw[<-U.aa,h5];exact h4
def ck(xs:List (List Int×Int))(ts:List ByteArray):Prop:=ts.length=xs.length/\∀ i,i<xs.length->(xs[i]?.getD ([],0)).2=0/\Part (xs[i]?.getD ([],0)).1 (U.bn (ts[i]?.getD ⟨#[]⟩))
def tg(xs:List (List Int×Int)):Prop:=∃ x∈xs,x.2≠0\/¬ ∃ p,Part x.1 p
theorem ck.nil:ck [] []:=⟨rfl,fun i hi=>by simp at hi⟩
theorem ck.snoc{xs:List (List Int×Int)}{ts:List ByteArray}{x:List Int×Int}{t:ByteArray}(h:ck xs ts)(h0:x.2=0)(hp:Part x.1 (U.bn t)):ck (xs++[x]) (ts++[t]):=by
 refine⟨by simp[h.1],fun i hi=>?_⟩;by_cases e:i<xs.length
 ·rw[List.getElem?_append_left e,List.getElem?_append_left (by rw[h.1];exact e)];exact h.2 i e
 ·have e2:i=xs.length:=by simp at hi;omega
  subst e2;rw[getElem?_append_right (le_refl _),getElem?_append_right (by rw[h.1];exact le_refl _),h.1,sub_self];exact⟨h0,hp⟩
theorem Fg{l p:List Int}(h:Part l p):p.length<=l.length+67:=by
 rcases h with⟨_,rfl⟩ | ⟨_,T,_,hT,_,_,rfl⟩
 ·omega
 ·simp;omega
def okl(p:List Int):Prop:=p≠[]/\p.length<=63
abbrev ot(ps:List (List Int)):Prop:=1<ps.length/\ps[ps.length - 1]?.getD []=[]
def cps(ps:List (List Int)):List (List Int):=if ot ps then ps.take (ps.length - 1) else ps
def fU(ps:List (List Int)):Prop:=(∃ p∈cps ps,¬ okl p)\/253<(join (cps ps)).length
def Rf(xs:List (List Int×Int))(long:Bool)(w:World)(e:Ending)(W':World):Prop :=
 (∃ t r,e=.returned (.tuple #[.string t,.int .i64 r])/\((tg xs/\t=⟨#[]⟩/\r=70)\/(∃ ts,ck xs ts/\((long=true/\fU (ts.map U.bn)/\t=⟨#[]⟩/\r=4)\/(¬ (long=true/\fU (ts.map U.bn))/\U.bn t=join (ts.map U.bn)/\r=0)))))/\Below w.heap.size w W'
theorem cH(t:ByteArray):(t.toList==[])=decide (t.size=0):=by rw[Bool.eq_iff_iff,beq_iff_eq,decide_eq_true_eq,Go.ByteArray.toList_eq];rw[<-U.aa];unfold U.bn;rw[length_map,List.length_eq_zero_iff]
theorem Gn{ps:List (List Int)}{n:Nat}(hn:ps.length=n):ot ps↔1<n/\ps[n - 1]?.getD []=[]:=by unfold ot;rw[hn]
def gz(r:Int):List PanicEntry:=[{ v:=.iface 235 (.agg #[.int .i64 r]),recovered:=false }]
theorem nQ{l:List Int}(h:plain l=true)(p:List Int):Part l p↔p=l:=by
 constructor
 ·rintro(⟨_,e⟩ | ⟨h2,_⟩)
  ·exact e
  ·rw[h]at h2;cases h2
 ·rintro rfl;exact .inl ⟨h,rfl⟩
def WrR(l:List Int)(e:Ending):Prop:=(∃ t,e=.returned (.string t)/\Part l (U.bn t))\/(e=.panicked (gz 70)/\¬ ∃ p,Part l p)
theorem fj(v:Value)(l:List Int)(w:World)(hlen:l.length<=10000)(hs:Scs l)(hv:El w v l):
  Calls prog 260 #[v] w fun e W'=>WrR l e/\Below w.heap.size w W':=by
 have HAS:=hid (lT v l w (by omega) hs hv.ints);have HENC:=hid (U.gU v l (by omega) w hv.ints);have HPE:=hid (P.bP v l (by omega) w hv.ints);have HS:=hid hs;obtain⟨a,c,e0,-⟩:=hv.1;obtain⟨n,hn⟩:=Ex' l.length;rw[hn]at e0;subst e0;clear hv hn hs;cases hp:plain l with
 | true =>
  have HP:=hid (nQ hp);have HEL:Hid (U.aj l=l):=bj (fun c hc=>(cM.1 hp c hc).2);rw[hp]at HAS;clear hp;go_enter func260,ntmps260
  go_wp2_with(first
    | (go_at_call 279;refine HAS.out.mono ?_;rintro e wb ⟨rfl,hwb⟩;obtain rfl:=hwb.symm)
    | (go_at_call 280;refine HENC.out.mono ?_;rintro e w1 ⟨⟨s1,r1,rfl,hE⟩,B1⟩;have HE:=hid hE;have HB1:=hid B1;clear hE B1))
  go_ret;refine⟨.inl ⟨s1,rfl,(HP.out _).2 ?_⟩,HB1.out⟩;rcases HE.out with⟨_,_,h⟩ | ⟨h,_⟩
  ·rw[h,HEL.out]
  ·rw[kl.1 HS.out]at h;cases h
 | false =>
  rw[hp]at HAS;have HP:=hid hp;clear hp;go_enter func260,ntmps260
  go_upto_if 21 with(first
    | (go_at_call 279;refine HAS.out.mono ?_;rintro e wb ⟨rfl,hwb⟩;obtain rfl:=hwb.symm)
    | (go_at_call 281;refine HPE.out.mono ?_;rintro e w1 ⟨⟨s1,r1,rfl,hE⟩,B1⟩;have HE:=hid (Hq hE HP.out);have HB1:=hid B1;clear hE B1))
  by_cases hr:r1=0
  ·subst hr
   have h1:Part l ([120,110,45,45]++U.bn s1)/\s1.size<=63:=by
    rcases HE.out with⟨_,h,h2⟩ | ⟨h,_⟩
    ·exact⟨h,h2⟩
    ·exact absurd rfl h
   have HPT:=hid h1.1;have hs1:=h1.2;clear h1 HE;go_wp2;go_ret;refine⟨.inl ⟨_,rfl,?_⟩,HB1.out⟩;have e:U.bn (⟨#[120,110,45,45]⟩++s1)=[120,110,45,45]++U.bn s1:=by rw[U.aD];rfl
   rw[e];exact HPT.out
  ·have hrb:(r1 != 0)=true:=by simpa using hr
   have hrc:(r1==0)=false:=by simpa using hr
   have HNO:Hid (¬ ∃ p,Part l p):=by
    rcases HE.out with⟨h,_⟩ | ⟨_,h⟩
    ·exact absurd h hr
    ·exact h
   clear HE;go_wp2;exact⟨rfl,.inr ⟨rfl,HNO.out⟩,HB1.out⟩
theorem th(v:Value)(l:List Int)(w:World)(hlen:l.length<=10000)(hs:Scs l)(hv:El w v l)(hp:∃ p,Part l p):
  Calls prog 260 #[v] w fun e W'=>(∃ t,e=.returned (.string t)/\Part l (U.bn t))/\Below w.heap.size w W' :=
 (fj v l w hlen hs hv).mono (by
   rintro e W' ⟨h | ⟨_,h⟩,hB⟩
   · exact⟨h,hB⟩
   · exact absurd hp h)
theorem wG(v:Value)(l:List Int)(w:World)(hlen:l.length<=10000)(hs:Scs l)(hv:El w v l)(hp:¬ ∃ p,Part l p):
  Calls prog 260 #[v] w fun e W'=>e=.panicked (gz 70)/\Below w.heap.size w W' :=
 (fj v l w hlen hs hv).mono (by
   rintro e W' ⟨⟨t,_,h⟩ | ⟨h,_⟩,hB⟩
   · exact absurd ⟨_,h⟩ hp
   · exact⟨h,hB⟩)
theorem Gf(n:Nat):(madeCells #[.string ⟨#[]⟩] n).toList=List.replicate n (Value.string ⟨#[]⟩):=by unfold madeCells;simp[Nat.mod_one,List.map_const']
def pad(ts:List ByteArray)(n:Nat):List Value:=(ts++List.replicate (n - ts.length) (⟨#[]⟩:ByteArray)).map Value.string
theorem Lb(ts:List ByteArray)(n k:Nat)(hk:ts.length=k)(hn:k<n)(t:ByteArray):(pad ts n).set k (.string t)=pad (ts++[t]) n:=by unfold pad;rw[<-List.map_set,List.set_append_right _ _ (by omega),hk,sub_self,show n - k=(n - (k+1))+1 by omega,List.replicate_succ,List.set_cons_zero];congr 1;rw[List.append_assoc,length_append,hk];rfl
theorem Fi(ts:List ByteArray)(n:Nat)(h:ts.length=n):pad ts n=ts.map Value.string:=by unfold pad;rw[h,sub_self];simp
theorem Lc(ts:List ByteArray)(n k:Nat)(hk:ts.length=k)(hn:k<n):(pad ts n)[k]? = some (.string ⟨#[]⟩):=by unfold pad;rw[getElem?_map,getElem?_append_right (by omega),hk,sub_self,show n - k=(n - (k+1))+1 by omega,List.replicate_succ];rfl
def AwR(xs:List (List Int×Int))(n:Nat)(w:World)(e:Ending)(W':World):Prop :=
 (∃ ts cap,ck xs ts/\e=.returned (.slice (some ⟨w.heap.size,0,none⟩) n cap)/\W'.ownsRow w.heap.size 9 1 (.slice (some ⟨w.heap.size,0,none⟩) n cap) n (ts.map Value.string))\/(tg xs/\e=.panicked (gz 70))
theorem iT(w0 w:World)(vo vf:Value)(n:Nat)(vs:List Value)(xs:List (List Int×Int))(hn:n<=10000)(hp:0<n)(hb:∀ x∈xs,(0<=x.2/\x.2<=768)/\x.1.length<=10000/\Scs x.1)(hP:Pr w0 w vo vf n vs xs):
  Calls prog 234 #[vo,vf] w fun e W'=>AwR xs n w e W'/\Below w.heap.size w W':=by
 have HB:=hid hb;have HP:=hid hP;have HL:=hid hP.len;obtain⟨ao,co,rfl⟩:=dT hP.out;obtain⟨af,cf,rfl⟩:=dU hP.flt;have hmk:=fun W=>run_make_row' (P:=prog) 27 9 (.string ⟨#[]⟩) 16 underlying27 Sd rfl .i64 .i64 n (by omega) (by omega) W;have h0:(w.alloc (.cells (madeCells #[.string ⟨#[]⟩] n) 9)).ownsRow w.heap.size 9 1 (.slice (some ⟨w.heap.size,0,none⟩) n n) n (pad [] n):=by refine⟨by simp[pad],.inr ⟨w.heap.size,n,_,rfl,le_refl _,heap_alloc_last w _,le_refl _,by unfold maxLen;omega,by rw[size_madeCells];simp,?_⟩⟩;rw[Gf];simp[pad]
 have H0:=hid h0;clear h0 hP hb;go_enter func234,ntmps234;go_wp2_with fail
 go_loopw [13] (fun v13 wr=>∃(k:Nat) (ts:List ByteArray),k<=n/\v13=.int .i64 k/\Hid (ts.length=k)/\Hid (ck (xs.take k) ts)/\Hid (wr.ownsRow w.heap.size 9 1 (.slice (some ⟨w.heap.size,0,none⟩) n n) n (pad ts n))/\Hid (Below w.heap.size w wr)) (fun v13 _=>n - (intOf v13).toNat)
 case atStart=>exact⟨0,[],zero_le _,rfl,rfl,ck.nil,H0,(Below.refl _ w).alloc (le_refl _) _⟩
 case round =>
  obtain⟨k,ts,hk,rfl,HTL,HPT,HR,HBE⟩:=hrel;by_cases hlt:k<n
  ·have hkx:k<xs.length:=by rw[<-HL.out];exact hlt
   have HT:=hid (OF xs k hkx);have hb:=HB.out _ (getElem_mem hkx);have HMEM:=hid (getElem_mem hkx);obtain⟨g1,rfl,hc1,-⟩:=fY HP.out.out k hlt;obtain⟨g2,rfl,hc2,-⟩:=fY HP.out.flt k hlt;have hel:=HP.out.els.2 k (by rw[length_map];exact hkx);rw[getElem?_map,getElem?_eq_getElem hkx]at hel hc2;replace hel:El w (vs[k]?.getD undef) xs[k].1:=hel;replace hc2:w.cell? ⟨g2,k,none⟩=some (.int .u16 xs[k].2):=hc2;obtain⟨ae,ce,hue⟩:=kL hel;rw[hue]at hc1 hel;obtain⟨⟨lk,fk⟩,hlf⟩:∃ y,xs[k]=y:=⟨_,rfl⟩;rw[hlf]at hc2 hel hc1 hb HT HMEM;simp only at hc2 hel hc1 hb;obtain⟨q,hq⟩:=Ex' lk.length;have HQ:=hid hq;rw[hq]at hc1 hel hb;obtain⟨⟨hb0,hb1⟩,hb2,hb3⟩:=hb;have HEL:=hid (hel.below HBE.out);have HSC:=hid hb3;have d1:wr.cell? ⟨g1,k,none⟩=some (.slice ae q ce):=(HBE.out.cell (p:=⟨g1,k,none⟩) (U.lt_of_cell hc1)).trans hc1;have d2:wr.cell? ⟨g2,k,none⟩=some (.int .u16 fk):=(HBE.out.cell (p:=⟨g2,k,none⟩) (U.lt_of_cell hc2)).trans hc2;have z1:=HBE.out.size;clear hel hue hlf hq hc1 hc2 hb3;by_cases hf0:fk=0
   ·subst hf0;by_cases hpp:∃ p,Part lk p
    ·have HW:=hid (th _ lk wr (by rw[HQ.out];omega) HSC.out HEL.out hpp);clear hpp
     go_upto_region 7 with fail
     go_wp2_with(go_at_call 260;refine HW.out.mono ?_;rintro e w2 ⟨⟨t,rfl,hpt⟩,B2⟩;have HPT2:=hid hpt;have HB2:=Bt' HBE B2;have HR2:=hid (U.an HR.out B2 (le_refl _));have hcw:=(HR2.out.cellAt k (by omega));rw[Lc ts n k HTL.out hlt]at hcw;obtain⟨gw,ew,-,hfw⟩:=fY HR2.out k hlt;cases ew;clear hpt B2);have hst:=HR2.out.stored k (.string t);rw[Lb ts n k HTL.out hlt]at hst;have HST:=hid hst;clear hst
     go_roundw
     case rel =>
      refine⟨k+1,ts++[t],by omega,by go_num,by show _=_;rw[length_append,HTL.out];rfl,?_,HST.out.1,HB2.out.setCell (p:=⟨w.heap.size,k,none⟩) (le_refl _) _⟩;show ck _ _;rw[HT.out];exact HPT.out.snoc rfl HPT2.out
     case measure=>simp[intOf];omega
    ·have HW:=hid (wG _ lk wr (by rw[HQ.out];omega) HSC.out HEL.out hpp);have HNO:=hid hpp;clear hpp;go_wp2_with(go_at_call 260;refine HW.out.mono ?_;rintro e w2 ⟨rfl,B2⟩);exact⟨rfl,.inr ⟨⟨_,HMEM.out,.inr HNO.out⟩,rfl⟩,HBE.out.trans (B2.mono HBE.out.size)⟩
   ·have hfb:(fk != 0)=true:=by simpa using hf0
    have hfc:(fk==0)=false:=by simpa using hf0
    go_wp2;exact⟨rfl,.inr ⟨⟨_,HMEM.out,.inl hf0⟩,rfl⟩,HBE.out⟩
  ·obtain rfl:k=n:=by omega
   have hkk:xs.take k=xs:=take_of_length_le (by rw[<-HL.out];exact le_refl _);rw[hkk]at HPT;rw[Fi ts k HTL.out]at HR;go_wp2;go_ret;exact⟨.inl ⟨ts,k,HPT.out,rfl,HR.out⟩,HBE.out⟩
theorem bw{W:World}{B B':Nat}{t t':TypeId}{v x:Value}(h:Boxed W B t v)(h':Boxed W B' t' x)(ht:t≠t')(u:Value):Boxed (W.setCell ⟨B',0,none⟩ u) B t v :=
 h.other (fun e=>by subst e;have h1:W.heap[B]? = _:=h;have h2:W.heap[B]? = _:=h';rw[h1]at h2;cases h2;exact ht rfl) u
theorem mh(B Bn Be:Nat)(b1:B<=Bn)(b2:B<=Be)(x:ByteArray)(y r:Int)(w:World)(hn:Boxed w Bn 9 (.string x))(he:Boxed w Be 32 (.int .i64 y)):
  CallsD prog 233 #[.pointer (some ⟨Bn,0,none⟩),.pointer (some ⟨Be,0,none⟩)] (.panicking (gz r)) w fun e u' w' =>
   e=.returned (.tuple #[])/\u'=.panicking [{ v:=.iface 235 (.agg #[.int .i64 r]),recovered:=true }]/\Boxed w' Bn 9 (.string ⟨#[]⟩)/\Boxed w' Be 32 (.int .i64 r)/\Below B w w':=by
 have c1:=hn.cell;have f1:=hn.frozen;have c2:=he.cell;have f2:=he.frozen;unfold gz;refine callsD_of_wpS func233 rfl fun c₀ cs hu=>?_;apply wpS_seq;apply wpS_region;simp[wpOpsS,go_sem,recoverD,hu,ntmps233,Exit.thenS];refine wpS_of_wp ?_;have hta:∀ W,(Instr.typeAssert (.iface 235 (.agg #[.int .i64 r])) 20 235 false).run prog W=.ok (.agg #[.int .i64 r]) W:=fun W=>by kernel_rfl
 have hfd:∀ W,(Instr.field 235 (.agg #[.int .i64 r]) 0).run prog W=.ok (.int .i64 r) W:=fun W=>by kernel_rfl
 simp only[replicate_succ,replicate_zero,push_toArray,append_toArray,nil_append,cons_append,List.setIfInBounds_toArray,List.set_cons_zero,List.set_cons_succ];have h5:=(bw he hn (by decide) (.string ⟨#[]⟩)).cell;have h6:=(bw he hn (by decide) (.string ⟨#[]⟩)).frozen;have HN:=hid (bw (hn.set (.string ⟨#[]⟩)) (bw he hn (by decide) (.string ⟨#[]⟩)) (by decide) (.int .i64 r));have HE:=hid ((bw he hn (by decide) (.string ⟨#[]⟩)).set (.int .i64 r));have HB:Hid (Below B w ((w.setCell ⟨Bn,0,none⟩ (.string ⟨#[]⟩)).setCell ⟨Be,0,none⟩ (.int .i64 r))):=((Below.refl B w).setCell (p:=⟨Bn,0,none⟩) b1 _).setCell (p:=⟨Be,0,none⟩) b2 _;go_wp2
 go_region
 have e1:Boxed ((w.setCell ⟨Bn,0,none⟩ (.string ⟨#[]⟩)).setCell ⟨Be,0,none⟩ (.int .i64 r)).drew Bn 9 (.string ⟨#[]⟩):=HN.out;have e2:Boxed ((w.setCell ⟨Bn,0,none⟩ (.string ⟨#[]⟩)).setCell ⟨Be,0,none⟩ (.int .i64 r)).drew Be 32 (.int .i64 r):=HE.out;have e3:=HB.out.drew;obtain⟨V,hV⟩:=Ex' (((w.setCell ⟨Bn,0,none⟩ (.string ⟨#[]⟩)).setCell ⟨Be,0,none⟩ (.int .i64 r)).drew);rw[hV]at e1 e2 e3 ⊢;show bodyPostS prog Tryz.f233 c₀ cs _ Exit.normal _ _ _;simp[bodyPostS,results,results233];exact⟨e1,e2,e3⟩
theorem yp(Bn Be:Nat)(w:World):
  CallsD prog 233 #[.pointer (some ⟨Bn,0,none⟩),.pointer (some ⟨Be,0,none⟩)] .returning w fun e u' w'=>e=.returned (.tuple #[])/\u'=.returning/\w'=w:=by
 refine callsD_of_wpS func233 rfl fun c₀ cs hu=>?_;apply wpS_seq;apply wpS_region;simp[wpOpsS,go_sem,recoverD,hu,ntmps233,Exit.thenS];refine wpS_of_wp ?_;simp only[replicate_succ,replicate_zero,push_toArray,append_toArray,nil_append,cons_append,List.setIfInBounds_toArray,List.set_cons_zero,List.set_cons_succ];go_wp2;cases c₀;simp_all [bodyPostS,results,results233]
theorem JZ(W:World):(sizeOf (prog.elem 27)).run prog W=.ok 1 W:=by kernel_rfl
theorem JS(g n c m:Nat)(h:m<=c)(W:World):(Instr.slice 27 (.slice (some ⟨g,0,none⟩) n c) none (some (.int .i64 (m:Int))) none).run prog W=.ok (.slice (some ⟨g,0,none⟩) m c) W:=by rw[run_slice_h W 27 (some ⟨g,0,none⟩) n c (by kernel_rfl) .i64 (m:Int) (by omega) (by omega),JZ W];simp only[Result.andThen,sliced,Int.toNat_natCast];congr 1;simp[Addr.add]
def MfR(ps:List (List Int))(e:Ending):Prop:=(¬ fU ps/\e=.returned (.tuple #[]))\/(fU ps/\e=.panicked (gz 4))
theorem join_len':∀(ls:List (List Int)) (B:Nat),(∀ l∈ls,l.length<=B)->(join ls).length<=ls.length * (B+1):=cW
theorem gK{t:ByteArray}:okl (U.bn t)↔¬ t.size=0/\t.size<=63:=by
 unfold okl;rw[U.aa];constructor
 ·rintro⟨h1,h2⟩;exact⟨fun h=>h1 (List.length_eq_zero_iff.1 (by rw[U.aa];exact h)),h2⟩
 ·rintro⟨h1,h2⟩;exact⟨fun h=>h1 (by rw[<-U.aa,h];rfl),h2⟩
theorem nh{ps:List (List Int)}{m:Nat}{ts:List ByteArray}(hps:ps=ts.map U.bn)(hm:m<=ts.length):(∀ j,j<m->okl (U.bn (ts[j]?.getD ⟨#[]⟩)))->∀ p∈ps.take m,okl p:=by intro h p hp;obtain⟨j,hj,e⟩:=List.mem_take_iff_getElem.1 hp;subst hps;rw[length_map]at hj;have:=h j (by omega);rw[getElem?_eq_getElem (by omega)]at this;rw[<-e,List.getElem_map];exact this
theorem iA{ps:List (List Int)}{m:Nat}{ts:List ByteArray}(hps:ps=ts.map U.bn)(hm:m<=ts.length)(k:Nat)(hk:k<m):U.bn (ts[k]?.getD ⟨#[]⟩)∈ps.take m:=by subst hps;rw[getElem?_eq_getElem (by omega)];exact List.mem_take_iff_getElem.2 ⟨k,by rw[length_map];omega,by rw[List.getElem_map];rfl⟩
theorem lP(g n c:Nat)(ts:List ByteArray)(w:World)(hn:ts.length=n)(hp:0<n)(hnc:n<=c)(hnb:n<=10000)(hb:∀ t∈ts,t.size<=20000)(hc:∀ j,j<n->w.cell? ⟨g,j,none⟩=some (.string (ts[j]?.getD ⟨#[]⟩))):
  Calls prog 236 #[.slice (some ⟨g,0,none⟩) n c] w fun e W'=>MfR (ts.map U.bn) e/\Below w.heap.size w W':=by
 obtain⟨ps,hps⟩:=Ex' (ts.map U.bn);have hpl:ps.length=n:=by rw[<-hps,length_map];exact hn
 have HC:=hid hc;have HTS:=hid hn;have HPS:=hid hps.symm;have HSZ:Hid (∀ j,j<n->(ts[j]?.getD ⟨#[]⟩).size<=20000):=fun j hj=>by rw[getElem?_eq_getElem (show j<ts.length by omega)];exact hb _ (getElem_mem _)
 have HLE:=hid (Gn hpl);have HPN:Hid (ps[n - 1]?.getD []=U.bn (ts[n - 1]?.getD ⟨#[]⟩)):=by show _=_;rw[<-hps,getElem?_map,getElem?_eq_getElem (show n - 1<ts.length by omega)];rfl
 have HJL:Hid (∀ m,m<=n->(join ((ts.take m).map U.bn)).length<=1000000000):=fun m hm=>by
  have h1:=cW ((ts.take m).map U.bn) 20000 (fun l hl=>by
    obtain⟨t,ht,rfl⟩:=List.mem_map.1 hl
    rw[U.aa]
    exact hb t (List.mem_of_mem_take ht))
  rw[length_map,length_take]at h1;have h2:min m ts.length * (20000+1)<=10000 * 20001:=Nat.mul_le_mul (by omega) (by omega);omega
 have HTM:Hid (∀ m,(ts.take m).map U.bn=ps.take m):=fun m=>by rw[<-hps,List.map_take]
 rw[hps];have hcl:=HC.out (n - 1) (by omega);have hszl:=HSZ.out (n - 1) (by omega);obtain⟨tl,htl⟩:=Ex' (ts[n - 1]?.getD ⟨#[]⟩);rw[htl]at hcl HPN hszl;clear hn hps hc hb htl hpl;obtain⟨n1,hn1⟩:=Ex' (n - 1);rw[hn1]at hcl HPN HLE;have HNN:Hid (n=n1+1):=by show _=_;omega
 have hz:(n:Int) - 1=(n1:Int):=by omega
 have hw:IntKind.i64.wrap (n1:Int)=(n1:Int):=by simp[IntKind.wrap,IntKind.bits,IntKind.signed];omega
 have hn1n:n1<n:=by omega
 clear hn1;by_cases hl:ot ps
 ·have h1:=HLE.out.1 hl;have HCP:Hid (cps ps=ps.take n1):=by show _=_;unfold cps;rw[if_pos hl];congr 1;have:=congrArg List.length HPS.out;rw[length_map,HTS.out]at this;have:=HNN.out;omega
  have htz:tl.size=0:=by have h2:=h1.2;rw[HPN.out]at h2;rw[<-U.aa,h2];rfl
  have e0:(tl.toList==[])=true:=by rw[cH];exact decide_eq_true htz
  have hn1z:(0:Int)<(n1:Int):=by omega
  have hsl:=fun W=>JS g n c n1 (by omega) W;have HMM:Hid (n1<=n):=Nat.le_of_lt hn1n;have HM0:Hid (0<n1):=by show 0<n1;omega
  clear h1 hl htz HLE HPN hszl;go_enter func236,ntmps236;go_wp2_with fail
  go_loop [22] (fun v22=>∃ k:Nat,k<=n1/\v22=.int .i64 k/\Hid (∀ j,j<k->okl (U.bn (ts[j]?.getD ⟨#[]⟩)))) (fun v22=>n1 - (intOf v22).toNat)
  case atStart=>exact⟨0,zero_le _,rfl,(fun j hj=>by omega)⟩
  case round =>
   obtain⟨k,hk,rfl,HA⟩:=hrel;by_cases hlt:k<n1
   ·have hck:=HC.out k (by have:=HMM.out;omega);have hsz:=HSZ.out k (by have:=HMM.out;omega);have HIN:=hid (iA HPS.out (m:=n1) (by rw[HTS.out];exact HMM.out) k hlt)
    have HS:Hid (okl (U.bn (ts[k]?.getD ⟨#[]⟩))->∀ j,j<k+1->okl (U.bn (ts[j]?.getD ⟨#[]⟩))):=fun h j hj=>by
     by_cases e:j=k
     ·rw[e];exact h
     ·exact HA.out j (by omega)
    obtain⟨t,ht⟩:=Ex' (ts[k]?.getD ⟨#[]⟩);rw[ht]at hck hsz HIN HS;clear ht;by_cases hz:t.size=0
    ·have e1:(t.toList==[])=true:=by rw[cH];exact decide_eq_true hz
     have HBAD:Hid (fU ps):=.inl ⟨_,by rw[HCP.out];exact HIN.out,fun h=>(gK.1 h).1 hz⟩;have HZ:=hid hz;clear hz;go_wp2;all_goals exact⟨rfl,.inr ⟨HBAD.out,rfl⟩,Below.refl _ _⟩
    ·have e1:(t.toList==[])=false:=by rw[cH];exact decide_eq_false hz
     by_cases h63:63<t.size
     ·have HBAD:Hid (fU ps):=.inl ⟨_,by rw[HCP.out];exact HIN.out,fun h=>by have:=(gK.1 h).2;omega⟩;go_wp2;exact⟨rfl,.inr ⟨HBAD.out,rfl⟩,Below.refl _ _⟩
     ·have HN:=hid (HS.out (gK.2 ⟨hz,by omega⟩));go_wp2;exact⟨⟨k+1,by omega,by go_num,HN⟩,by simp[intOf];omega⟩
   ·have hkM:¬ (k:Int)<(n1:Int):=by omega
    have HALL:=hid (nh HPS.out (m:=n1) (by rw[HTS.out];exact HMM.out) (fun j hj=>HA.out j (by omega)));have HJ:=hid (iE g c (n1) (ts.take (n1)) (by rw[length_take,HTS.out];have:=HMM.out;omega) w (fun j hj=>by rw[List.getElem?_take_of_lt hj];exact HC.out j (by have:=HMM.out;omega)) HM0.out (by have:=HMM.out;omega) (by have:=HMM.out;omega) (HJL.out _ HMM.out));rw[HTM.out]at HJ;have hjl:=HJL.out (n1) HMM.out;rw[HTM.out]at hjl;obtain⟨Jn,hJn⟩:=Ex' (join (ps.take (n1)));rw[hJn]at HJ hjl;have HJN:=hid hJn;clear hJn
    go_upto_if 39 with(go_at_call 237;refine HJ.out.mono ?_;rintro e w2 ⟨⟨t,rfl,ht⟩,B2⟩;have hts:t.size=Jn.length:=(by rw[<-ht,U.aa]);have HTS2:=hid hts;have HB2:=hid B2;clear ht B2 hts)
    by_cases h253:253<t.size
    ·have HBAD:Hid (fU ps):=.inr (by rw[HCP.out,HJN.out];have:=HTS2.out;omega);go_wp2;exact⟨rfl,.inr ⟨HBAD.out,rfl⟩,HB2.out⟩
    ·have HGOOD:Hid (¬ fU ps):=by
      rintro(⟨p,hp,hno⟩ | h)
      ·rw[HCP.out]at hp;exact hno (HALL.out p hp)
      ·rw[HCP.out,HJN.out]at h;have:=HTS2.out;omega
     go_wp2
     go_end0
     exact⟨.inl ⟨HGOOD.out,rfl⟩,HB2.out⟩
 ·have HCP:Hid (cps ps=ps.take n):=by show _=_;unfold cps;rw[if_neg hl,take_of_length_le];have:=congrArg List.length HPS.out;rw[length_map,HTS.out]at this;omega
  have HMM:Hid (n<=n):=le_refl _;have HM0:Hid (0<n):=hp;by_cases hn1:n1=0
  ·have hn1z:¬ (0:Int)<(n1:Int):=by omega
   clear hl HLE HPN hszl hn1;go_enter func236,ntmps236;go_wp2_with fail
   go_loop [22] (fun v22=>∃ k:Nat,k<=n/\v22=.int .i64 k/\Hid (∀ j,j<k->okl (U.bn (ts[j]?.getD ⟨#[]⟩)))) (fun v22=>n - (intOf v22).toNat)
   case atStart=>exact⟨0,zero_le _,rfl,(fun j hj=>by omega)⟩
   case round =>
    obtain⟨k,hk,rfl,HA⟩:=hrel;by_cases hlt:k<n
    ·have hck:=HC.out k (by have:=HMM.out;omega);have hsz:=HSZ.out k (by have:=HMM.out;omega);have HIN:=hid (iA HPS.out (m:=n) (by rw[HTS.out];exact HMM.out) k hlt)
     have HS:Hid (okl (U.bn (ts[k]?.getD ⟨#[]⟩))->∀ j,j<k+1->okl (U.bn (ts[j]?.getD ⟨#[]⟩))):=fun h j hj=>by
      by_cases e:j=k
      ·rw[e];exact h
      ·exact HA.out j (by omega)
     obtain⟨t,ht⟩:=Ex' (ts[k]?.getD ⟨#[]⟩);rw[ht]at hck hsz HIN HS;clear ht;by_cases hz:t.size=0
     ·have e1:(t.toList==[])=true:=by rw[cH];exact decide_eq_true hz
      have HBAD:Hid (fU ps):=.inl ⟨_,by rw[HCP.out];exact HIN.out,fun h=>(gK.1 h).1 hz⟩;have HZ:=hid hz;clear hz;go_wp2;all_goals exact⟨rfl,.inr ⟨HBAD.out,rfl⟩,Below.refl _ _⟩
     ·have e1:(t.toList==[])=false:=by rw[cH];exact decide_eq_false hz
      by_cases h63:63<t.size
      ·have HBAD:Hid (fU ps):=.inl ⟨_,by rw[HCP.out];exact HIN.out,fun h=>by have:=(gK.1 h).2;omega⟩;go_wp2;exact⟨rfl,.inr ⟨HBAD.out,rfl⟩,Below.refl _ _⟩
      ·have HN:=hid (HS.out (gK.2 ⟨hz,by omega⟩));go_wp2;exact⟨⟨k+1,by omega,by go_num,HN⟩,by simp[intOf];omega⟩
    ·have hkM:¬ (k:Int)<(n:Int):=by omega
     have HALL:=hid (nh HPS.out (m:=n) (by rw[HTS.out];exact HMM.out) (fun j hj=>HA.out j (by omega)));have HJ:=hid (iE g c (n) (ts.take (n)) (by rw[length_take,HTS.out];have:=HMM.out;omega) w (fun j hj=>by rw[List.getElem?_take_of_lt hj];exact HC.out j (by have:=HMM.out;omega)) HM0.out (by have:=HMM.out;omega) (by have:=HMM.out;omega) (HJL.out _ HMM.out));rw[HTM.out]at HJ;have hjl:=HJL.out (n) HMM.out;rw[HTM.out]at hjl;obtain⟨Jn,hJn⟩:=Ex' (join (ps.take (n)));rw[hJn]at HJ hjl;have HJN:=hid hJn;clear hJn
     go_upto_if 39 with(go_at_call 237;refine HJ.out.mono ?_;rintro e w2 ⟨⟨t,rfl,ht⟩,B2⟩;have hts:t.size=Jn.length:=(by rw[<-ht,U.aa]);have HTS2:=hid hts;have HB2:=hid B2;clear ht B2 hts)
     by_cases h253:253<t.size
     ·have HBAD:Hid (fU ps):=.inr (by rw[HCP.out,HJN.out];have:=HTS2.out;omega);go_wp2;exact⟨rfl,.inr ⟨HBAD.out,rfl⟩,HB2.out⟩
     ·have HGOOD:Hid (¬ fU ps):=by
       rintro(⟨p,hp,hno⟩ | h)
       ·rw[HCP.out]at hp;exact hno (HALL.out p hp)
       ·rw[HCP.out,HJN.out]at h;have:=HTS2.out;omega
      go_wp2
      go_end0
      exact⟨.inl ⟨HGOOD.out,rfl⟩,HB2.out⟩
  ·have htz:¬ tl.size=0:=fun h=>hl (HLE.out.2 ⟨by omega,by rw[HPN.out];exact List.length_eq_zero_iff.1 (by rw[U.aa];exact h)⟩);have e0:(tl.toList==[])=false:=by rw[cH];exact decide_eq_false htz
   have hn1z:(0:Int)<(n1:Int):=by omega
   clear hl HLE HPN hszl;go_enter func236,ntmps236;go_wp2_with fail
   go_loop [22] (fun v22=>∃ k:Nat,k<=n/\v22=.int .i64 k/\Hid (∀ j,j<k->okl (U.bn (ts[j]?.getD ⟨#[]⟩)))) (fun v22=>n - (intOf v22).toNat)
   case atStart=>exact⟨0,zero_le _,rfl,(fun j hj=>by omega)⟩
   case round =>
    obtain⟨k,hk,rfl,HA⟩:=hrel;by_cases hlt:k<n
    ·have hck:=HC.out k (by have:=HMM.out;omega);have hsz:=HSZ.out k (by have:=HMM.out;omega);have HIN:=hid (iA HPS.out (m:=n) (by rw[HTS.out];exact HMM.out) k hlt)
     have HS:Hid (okl (U.bn (ts[k]?.getD ⟨#[]⟩))->∀ j,j<k+1->okl (U.bn (ts[j]?.getD ⟨#[]⟩))):=fun h j hj=>by
      by_cases e:j=k
      ·rw[e];exact h
      ·exact HA.out j (by omega)
     obtain⟨t,ht⟩:=Ex' (ts[k]?.getD ⟨#[]⟩);rw[ht]at hck hsz HIN HS;clear ht;by_cases hz:t.size=0
     ·have e1:(t.toList==[])=true:=by rw[cH];exact decide_eq_true hz
      have HBAD:Hid (fU ps):=.inl ⟨_,by rw[HCP.out];exact HIN.out,fun h=>(gK.1 h).1 hz⟩;have HZ:=hid hz;clear hz;go_wp2;all_goals exact⟨rfl,.inr ⟨HBAD.out,rfl⟩,Below.refl _ _⟩
     ·have e1:(t.toList==[])=false:=by rw[cH];exact decide_eq_false hz
      by_cases h63:63<t.size
      ·have HBAD:Hid (fU ps):=.inl ⟨_,by rw[HCP.out];exact HIN.out,fun h=>by have:=(gK.1 h).2;omega⟩;go_wp2;exact⟨rfl,.inr ⟨HBAD.out,rfl⟩,Below.refl _ _⟩
      ·have HN:=hid (HS.out (gK.2 ⟨hz,by omega⟩));go_wp2;exact⟨⟨k+1,by omega,by go_num,HN⟩,by simp[intOf];omega⟩
    ·have hkM:¬ (k:Int)<(n:Int):=by omega
     have HALL:=hid (nh HPS.out (m:=n) (by rw[HTS.out];exact HMM.out) (fun j hj=>HA.out j (by omega)));have HJ:=hid (iE g c (n) (ts.take (n)) (by rw[length_take,HTS.out];have:=HMM.out;omega) w (fun j hj=>by rw[List.getElem?_take_of_lt hj];exact HC.out j (by have:=HMM.out;omega)) HM0.out (by have:=HMM.out;omega) (by have:=HMM.out;omega) (HJL.out _ HMM.out));rw[HTM.out]at HJ;have hjl:=HJL.out (n) HMM.out;rw[HTM.out]at hjl;obtain⟨Jn,hJn⟩:=Ex' (join (ps.take (n)));rw[hJn]at HJ hjl;have HJN:=hid hJn;clear hJn
     go_upto_if 39 with(go_at_call 237;refine HJ.out.mono ?_;rintro e w2 ⟨⟨t,rfl,ht⟩,B2⟩;have hts:t.size=Jn.length:=(by rw[<-ht,U.aa]);have HTS2:=hid hts;have HB2:=hid B2;clear ht B2 hts)
     by_cases h253:253<t.size
     ·have HBAD:Hid (fU ps):=.inr (by rw[HCP.out,HJN.out];have:=HTS2.out;omega);go_wp2;exact⟨rfl,.inr ⟨HBAD.out,rfl⟩,HB2.out⟩
     ·have HGOOD:Hid (¬ fU ps):=by
       rintro(⟨p,hp,hno⟩ | h)
       ·rw[HCP.out]at hp;exact hno (HALL.out p hp)
       ·rw[HCP.out,HJN.out]at h;have:=HTS2.out;omega
      go_wp2
      go_end0
      exact⟨.inl ⟨HGOOD.out,rfl⟩,HB2.out⟩
attribute [local go_sem] Oper.semAt_some
structure So(w W:World)(B0 Bl Bo:Nat)(v:Value)(l:List Int)(vo:Value)(vs:List Value)(ls:List (List Int)):Prop where
 bx:Bx Bl v l W
 bo:Boxed W Bo 136 vo
 out:W.ownsRow B0 43 1 vo ls.length vs
 els:Els W vs ls
 be:Below w.heap.size w W
 b1:Bl<B0
 b2:w.heap.size<=Bo
 b3:w.heap.size<=B0
 b4:B0<=W.heap.size
theorem iW{W W':World}{base e size n:Nat}{v:Value}{X:List Value}{row:Option Nat}(h:W.ownsRow base e size v n X)(hg:W.grownBy W' row)(hr:∀ r,row=some r->∃ o:Obj,W.heap[r]? = some o/\o.isCells=false):W'.ownsRow base e size v n X:=by
 refine h.kept hg ?_;rcases h.2 with⟨rfl,_⟩ | ⟨g,cap,cur,rfl,_,hgb,_⟩
 ·exact .inl rfl
 ·refine .inr fun e'=>?_;obtain⟨o,ho,hc⟩:=hr g (by simpa[Value.ownBlock]using e'.symm);rw[hgb]at ho;cases ho;cases hc
theorem dQ{W:World}{base e size n:Nat}{v:Value}{X:List Value}{B:Nat}{t:TypeId}{x:Value}(h:W.ownsRow base e size v n X)(hb:Boxed W B t x)(ht:t≠e)(v':Value):(W.setCell ⟨B,0,none⟩ v').ownsRow base e size v n X:=by refine h.kept (grownBy_setCell' W B v') ?_;exact .inr fun e'=>hb.not_row ht h (by first | exact e' | exact e'.symm)
theorem Els.other{W W':World}{vs:List Value}{ls:List (List Int)}{row:Option Nat}(h:Els W vs ls)(hg:W.grownBy W' row)(hr:∀ r,row=some r->∃ o:Obj,W.heap[r]? = some o/\o.isCells=false):Els W' vs ls:=⟨h.1,fun i hi=>(h.2 i hi).other hg hr⟩
theorem Els.set{W:World}{vs:List Value}{ls:List (List Int)}{B:Nat}{t:TypeId}{x:Value}(h:Els W vs ls)(hb:Boxed W B t x)(ht:t≠21)(v':Value):Els (W.setCell ⟨B,0,none⟩ v') vs ls:=⟨h.1,fun i hi=>(h.2 i hi).set hb ht v'⟩
theorem So.below{w W W':World}{B0 Bl Bo:Nat}{v vo:Value}{l:List Int}{vs:List Value}{ls:List (List Int)}(h:So w W B0 Bl Bo v l vo vs ls)(hb:Below W.heap.size W W'):So w W' B0 Bl Bo v l vo vs ls :=
 ⟨h.bx.below hb,(hb.block Bo h.bo.lt).trans h.bo,U.an h.out hb (le_refl _),h.els.below hb,h.be.trans (hb.mono h.be.size),h.b1,h.b2,h.b3,le_trans h.b4 hb.size⟩
theorem So.from_other{w W W':World}{B0 Bl Bo:Nat}{v vo:Value}{l:List Int}{vs:List Value}{ls:List (List Int)}{row:Option Nat}(h:So w W B0 Bl Bo v l vo vs ls)(hg:W.grownBy W' row)(hr:∀ r,row=some r->B0<=r/\∃ o:Obj,W.heap[r]? = some o/\o.isCells=false):So w W' B0 Bl Bo v l vo vs ls :=
 ⟨h.bx.other hg (fun r e=>(hr r e).2),cK h.bo hg (fun r e=>(hr r e).2),iW h.out hg (fun r e=>(hr r e).2),h.els.other hg (fun r e=>(hr r e).2),h.be.grown hg h.be.size (fun k e=>le_trans h.b3 (hr k e).1),h.b1,h.b2,h.b3,le_trans h.b4 hg.size⟩
theorem So.push{w W w1:World}{B0 Bl Bo:Nat}{v vo vo':Value}{l:List Int}{vs:List Value}{ls:List (List Int)}{u:Value}{l':List Int}(h:So w W B0 Bl Bo v l vo vs ls)(hu:El W u l')
  (hown:w1.ownsRow B0 43 1 vo' (ls.length+1) (vs++[u])) (hg:(W.alloc (.cells #[u] 43)).grownBy w1 vo.ownBlock) :
  Boxed w1 Bo 136 vo/\So w (w1.setCell ⟨Bo,0,none⟩ vo') B0 Bl Bo v l vo' (vs++[u]) (ls++[l']):=by
 have ba:=iS W (.cells #[u] 43);have ho:=h.out.alloc (.cells #[u] 43);have hbo:=(h.bo.alloc (.cells #[u] 43)).kept hg ((h.bo.alloc _).not_row (by decide) ho);have hbl:=(h.bx.box.alloc (.cells #[u] 43)).kept hg (fun e=>by have:=(ho.lt Bl e.symm).1;have:=h.b1;omega);have hel:=(h.bx.el.below ba).kept ho (by decide) hg;have hels:=(h.els.below ba).kept ho (by decide) hg;have hu1:=(hu.below ba).kept ho (by decide) hg;have hbe:Below w.heap.size w w1:=(h.be.alloc h.be.size _).grown hg (le_trans h.be.size (by simp)) (fun k e=>le_trans h.b3 (ho.lt k e).1);have hne:Bl≠Bo:=fun e=>by subst e;have h1:w1.heap[Bl]? = _:=hbo;have h2:w1.heap[Bl]? = _:=hbl;rw[h1]at h2;cases h2
 refine⟨hbo,⟨hbl.other hne _,hel.set hbo (by decide) _⟩,hbo.set _,?_,(hels.snoc hu1).set hbo (by decide) _,?_,h.b1,h.b2,h.b3,?_⟩
 ·rw[length_append];exact dQ hown hbo (by decide) _
 ·exact hbe.setCell (p:=⟨Bo,0,none⟩) h.b2 _
 ·have h1:=hg.size;have h2:=h.b4;simp at h1 ⊢;omega
theorem zG(l:List Int)(n:Nat)(p:Pc n):(lab l p.1).length<=n:=by unfold lab;have:=p.2;simp only[length_take,length_drop];omega
theorem EY(a:Option Addr)(p:Nat×Nat):∃ a' k c,pcv a p=.slice a' k c:=⟨_,_,_,rfl⟩
theorem ft{W W':World}{base e size n:Nat}{v:Value}{X:List Value}(h:W.ownsRow base e size v n X)(hg:W.grownBy W' v.ownBlock):KeepsOthers W W' :=
 KeepsOthers.of_grownBy hg (fun j o e' ho=>by
   rcases h.2 with⟨rfl,_⟩ | ⟨g,cap,cur,rfl,_,hgb,_⟩
   · simp[Value.ownBlock]at e'
   · have e3:g=j:=by simpa[Value.ownBlock]using e'
     subst e3
     rw[hgb]at ho;cases ho;rfl)
end I
namespace L
theorem qO(r:Int):(0<=r/\r<128/\U.bn (Utf8.encode r)=[r])\/(∃ h t,U.bn (Utf8.encode r)=h::t/\192<=h):=by
 unfold Utf8.encode;simp only;generalize hc:(if Utf8.valid r=true then r.toNat else Utf8.runeError)=c
 have hle:c<=1114111:=by
  rw[<-hc];split
  ·rename_i h;simp[Utf8.valid]at h;omega
  ·decide
 by_cases h1:c<128
 ·left
  have hv:Utf8.valid r=true:=by
   by_cases hv:Utf8.valid r=true
   ·exact hv
   ·rw[if_neg hv]at hc;have:Utf8.runeError=65533:=rfl;omega
  rw[if_pos hv]at hc;have h0:0<=r:=by simp[Utf8.valid]at hv;omega
  refine⟨h0,by omega,?_⟩;rw[if_pos h1];show [((UInt8.ofNat c).toNat:Int)]=[r];rw[UInt8.toNat_ofNat',mod_eq_of_lt (by omega)];congr 1;omega
 ·right;rw[if_neg h1];split
  ·exact⟨((UInt8.ofNat (192+c / 64)).toNat:Int),_,rfl,by rw[UInt8.toNat_ofNat',mod_eq_of_lt (by omega)];omega⟩
  ·split
   ·exact⟨((UInt8.ofNat (224+c / 4096)).toNat:Int),_,rfl,by rw[UInt8.toNat_ofNat',mod_eq_of_lt (by omega)];omega⟩
   ·exact⟨((UInt8.ofNat (240+c / 262144)).toNat:Int),_,rfl,by rw[UInt8.toNat_ofNat',mod_eq_of_lt (by omega)];omega⟩
theorem zM:∀(ns:List Int) (s:ByteArray),U.bn (ns.foldl (fun r n=>r++Utf8.encode n) s)=U.bn s++ns.flatMap fun r=>U.bn (Utf8.encode r)
 | [],s=>by simp
 | a::l,s=>by rw[List.foldl_cons,zM l,U.aD,List.flatMap_cons,List.append_assoc]
theorem tO(ns:List Int):U.bn (runesBytes ns)=ns.flatMap fun r=>U.bn (Utf8.encode r):=by unfold runesBytes;rw[zM];rfl
theorem oM:∀(ns T:List Int),(∀ c∈T,c<128)->(ns.flatMap fun r=>U.bn (Utf8.encode r))=T->ns=T
 | [],T,_,h=>by simpa using h
 | a::l,T,hT,h=>by
  rw[List.flatMap_cons]at h;rcases qO a with⟨h0,h1,h2⟩ | ⟨x,t,h2,h3⟩
  ·rw[h2]at h;cases T with
   | nil=>simp at h
   | cons y T =>
    simp only[cons_append,nil_append,List.cons.injEq]at h;rw[h.1,oM l T (fun c hc=>hT c (by simp[hc])) h.2]
  ·rw[h2]at h;cases T with
   | nil=>simp at h
   | cons y T =>
    simp only[cons_append,List.cons.injEq]at h;have:=hT y (by simp);omega
theorem pg:∀(ns:List Int),(∀ c∈ns,0<=c/\c<128)->(ns.flatMap fun r=>U.bn (Utf8.encode r))=ns
 | [],_=>rfl
 | a::l,h=>by
  rw[List.flatMap_cons,pg l (fun c hc=>h c (by simp[hc]))];rcases qO a with⟨h0,h1,h2⟩ | ⟨x,t,h2,h3⟩
  ·rw[h2];rfl
  ·have h1:=h a (by simp);exfalso;have hv:Utf8.valid a=true:=by simp[Utf8.valid];omega
   unfold Utf8.encode at h2;simp only[hv,if_true,if_pos (show a.toNat<128 by omega)]at h2;have e:U.bn ⟨#[UInt8.ofNat a.toNat]⟩=[((UInt8.ofNat a.toNat).toNat:Int)]:=rfl;rw[e,UInt8.toNat_ofNat',mod_eq_of_lt (by omega)]at h2;simp only[List.cons.injEq]at h2;omega
def xn:ByteArray:=⟨#[120,110,45,45]⟩
theorem NZ:U.bn xn=[120,110,45,45]:=rfl
theorem Oo(ns:List Int):(runesBytes ns=xn)↔ns=[120,110,45,45]:=by
 constructor
 ·intro h;have h2:=congrArg U.bn h;rw[tO,NZ]at h2;exact oM ns _ (by decide) h2
 ·rintro rfl;apply U.ak;rw[tO,NZ];exact pg _ (by decide)
theorem Kc(W:World):(sizeOf (prog.elem 43)).run prog W=.ok 1 W:=by kernel_rfl
theorem KU(L:List Int)(h:¬ 4<=L.length):dE L=false:=by unfold dE;apply decide_eq_false;intro e;have:=congrArg List.length e;rw[length_take]at this;simp at this;omega
theorem Jp(t:ByteArray):(t.toList==[120,110,45,45])=decide (t=xn):=by
 rw[Bool.eq_iff_iff,beq_iff_eq,decide_eq_true_eq,Go.ByteArray.toList_eq];constructor
 ·intro h;exact Go.WideShapes.bytes_inj h
 ·rintro rfl;rfl
theorem OX(B:Nat)(v:Value)(L:List Int)(w:World)(hlen:L.length<=10000)(hb:Boxed w B 43 v)(hv:U.av w v L)(hcap:∀ a n c,v=.slice a n c->n<=c):
  Calls prog 340 #[.pointer (some ⟨B,0,none⟩)] w fun e W'=>e=.returned (.bool (dE L))/\Below w.heap.size w W':=by
 obtain⟨a,c,rfl,hf⟩:=aM hv;have hc:=hb.cell;have hcp:=hcap _ _ _ rfl;by_cases h4:4<=L.length
 ·obtain⟨b,off,rfl,hcc⟩:=hf (by omega);have hsl:∀ W,(Instr.slice 43 (.slice (some ⟨b,off,none⟩) L.length c) none (some (.int .i64 4)) none).run prog W=.ok (.slice (some ⟨b,off,none⟩) 4 c) W:=fun W=>by rw[run_slice_h W 43 (some ⟨b,off,none⟩) L.length c (by kernel_rfl) .i64 4 (by omega) (by omega),Kc W];simp only[Result.andThen,sliced];split <;> simp[Addr.add]
  have hcv:(convert 43 9 (.slice (some ⟨b,off,none⟩) 4 c)).run prog w=.ok (.string (runesBytes (L.take 4))) w :=
   run_convert_runes w 43 9 21 ⟨b,off,none⟩ 4 c L h4 underlying43 underlying21 underlying9 (fun j hj=>by
     rw[Addr.add_lit,hcc j hj,List.getD_eq_getElem?_getD])
  have HP:Hid (dE L=decide (runesBytes (L.take 4)=xn)):=by show _=_;unfold dE;exact decide_eq_decide.2 (Oo _).symm
  obtain⟨t,ht⟩:=Ex' (runesBytes (L.take 4));rw[ht]at hcv HP;obtain⟨R,hR⟩:=Ex' (dE L);rw[hR]at HP ⊢;obtain⟨n,hn⟩:=Ex' L.length;rw[hn]at hc h4 hlen hsl hcp;have h4z:(4:Int)<=(n:Int):=by omega
  clear ht hR hn hb hv hf hcc hcap;go_enter func340,ntmps340;go_wp2;go_ret;refine⟨?_,Below.refl _ _⟩;rw[HP.out,<-Jp t];rfl
 ·have hcn:∃ z,L.length=z:=⟨_,rfl⟩;rw[KU L h4];obtain⟨n,hn⟩:=hcn;rw[hn]at hc h4 hlen;have h4z:¬ (4:Int)<=(n:Int):=by omega
  clear hn hb hv hf hcap hcp;go_enter func340,ntmps340;go_wp2;go_ret;exact⟨rfl,Below.refl _ _⟩
def pt(b:Nat):Value:=.pointer (some ⟨b,0,none⟩)
def nM(Bl Bh Bf Bz:Nat):Array Value :=
 #[.int .u16 1,.func (.func 336) #[] #[pt Bl],.int .u16 2,.func (.func 338) #[] #[pt Bh,pt Bl],.int .u16 4,.func (.func 339) #[] #[pt Bh,pt Bf,pt Bz],
   .int .u16 8,.func (.func 340) #[] #[pt Bl],.int .u16 16,.func (.func 341) #[] #[pt Bl],.int .u16 32,.func (.func 343) #[] #[pt Bf],
   .int .u16 64,.func (.func 345) #[] #[pt Bl],.int .u16 128,.func (.func 347) #[] #[pt Bl]]
structure Qs(W:World)(g Bl Bh Bf Bz:Nat)(v:Value)(hy:Bool)(x y:Int):Prop where
 row:W.heap[g]? = some (.cells (nM Bl Bh Bf Bz) 289 (0,0))
 l:Boxed W Bl 43 v
 h:Boxed W Bh 4 (.bool hy)
 f:Boxed W Bf 21 (.int .i32 x)
 z:Boxed W Bz 21 (.int .i32 y)
structure pA(w W:World)(Bl Bh Bf Bz:Nat)(v:Value)(hy:Bool)(x y:Int):Prop where
 l:Boxed W Bl 43 v
 h:Boxed W Bh 4 (.bool hy)
 f:Boxed W Bf 21 (.int .i32 x)
 z:Boxed W Bz 21 (.int .i32 y)
 be:Below w.heap.size w W
theorem gX{W:World}{B:Nat}{t:TypeId}{v:Value}(h:Boxed W B t v):Boxed W.drew B t v:=h
theorem yt{w W:World}{n:Nat}(h:Below n w W):Below n w W.drew:=⟨h.os,h.tape,h.output,h.size,h.block⟩
theorem pA.new1{w W:World}{Bl Bh:Nat}{v:Value}{hy:Bool}{x y:Int}(hl:Boxed W Bl 43 v)(hh:Boxed W Bh 4 (.bool hy))(hB:Below w.heap.size w W):
  pA w ((W.alloc (.cells #[.int .i32 x] 21)).alloc (.cells #[.int .i32 y] 21)).drew Bl Bh W.heap.size (W.heap.size+1) v hy x y:=by
 have b1:=Boxed.new W 21 (.int .i32 x);have b2:=Boxed.new (W.alloc (.cells #[.int .i32 x] 21)) 21 (.int .i32 y);rw[size_alloc]at b2;exact⟨gX ((hl.alloc _).alloc _),gX ((hh.alloc _).alloc _),gX (b1.alloc _),gX b2,yt ((hB.alloc hB.size _).alloc (le_trans hB.size (by simp)) _)⟩
theorem pA.new2{w W:World}{Bl Bh:Nat}{v:Value}{hy:Bool}{x y:Int}(hl:Boxed W Bl 43 v)(hh:Boxed W Bh 4 (.bool hy))(hB:Below w.heap.size w W):
  pA w ((W.alloc (.cells #[.int .i32 y] 21)).alloc (.cells #[.int .i32 x] 21)).drew Bl Bh (W.heap.size+1) W.heap.size v hy x y :=
 let h:=pA.new1 (x:=y) (y:=x) hl hh hB
 ⟨h.l,h.h,h.z,h.f,h.be⟩
theorem pA.qs{w W:World}{Bl Bh Bf Bz:Nat}{v:Value}{hy:Bool}{x y:Int}(h:pA w W Bl Bh Bf Bz v hy x y):
  Qs (W.alloc (.cells (nM Bl Bh Bf Bz) 289)) W.heap.size Bl Bh Bf Bz v hy x y :=
 ⟨World.alloc_heap_new W _,h.l.alloc _,h.h.alloc _,h.f.alloc _,h.z.alloc _⟩
theorem pI(v:Value)(hy:Bool)(L:List Int)(w:World)(hp:0<L.length)(hlen:L.length<=10000)(hv:U.av w v L):
  Calls prog 310 #[v,.bool hy] w fun e W'=>(∃ g Bl Bh Bf Bz,e=.returned (.slice (some ⟨g,0,none⟩) 8 8)/\Qs W' g Bl Bh Bf Bz v hy (L[0]?.getD 0) (L[L.length - 1]?.getD 0))/\Below w.heap.size w W':=by
 obtain⟨a,c,rfl,hf⟩:=aM hv;obtain⟨b,off,rfl,hcc⟩:=hf hp;have h0:=hcc 0 hp;have h1:=hcc (L.length - 1) (by omega);obtain⟨x,hx⟩:=Ex' (L[0]?.getD 0);obtain⟨y,hyy⟩:=Ex' (L[L.length - 1]?.getD 0);rw[hx]at h0;rw[hyy]at h1;rw[hx,hyy];obtain⟨m,hm⟩:=Ex' (L.length - 1);obtain⟨n,hn⟩:=Ex' L.length;have em:(n:Int) - 1=(m:Int):=by omega
 rw[hm]at h1;rw[hn]at hp hlen ⊢;have hlb:b<w.heap.size:=U.lt_of_cell h0;have hm1:m<n:=by omega
 rw[Nat.add_zero]at h0;clear hx hyy hm hn hv hf hcc;go_enter func310,ntmps310;go_wp2_with fail;have hsz:((w.alloc (.cells #[.slice (some ⟨b,off,none⟩) n c] 43)).alloc (.cells #[.bool hy] 4)).heap.size=w.heap.size+2:=by simp only[size_alloc]
 have bl:Boxed ((w.alloc (.cells #[.slice (some ⟨b,off,none⟩) n c] 43)).alloc (.cells #[.bool hy] 4)) w.heap.size 43 (.slice (some ⟨b,off,none⟩) n c):=(Boxed.new w _ _).alloc _
 have bh:Boxed ((w.alloc (.cells #[.slice (some ⟨b,off,none⟩) n c] 43)).alloc (.cells #[.bool hy] 4)) (w.heap.size+1) 4 (.bool hy):=by
  have:=Boxed.new (w.alloc (.cells #[.slice (some ⟨b,off,none⟩) n c] 43)) 4 (.bool hy)
  rwa [size_alloc]at this
 have hB2:Below w.heap.size w ((w.alloc (.cells #[.slice (some ⟨b,off,none⟩) n c] 43)).alloc (.cells #[.bool hy] 4)):=((Below.refl _ w).alloc (le_refl _) _).alloc (by simp) _;obtain⟨w2,hw2⟩:=Ex' (((w.alloc (.cells #[.slice (some ⟨b,off,none⟩) n c] 43)).alloc (.cells #[.bool hy] 4)));rw[hw2]at hsz bl bh hB2 ⊢;have d0:w2.cell? ⟨b,off,none⟩=some (.int .i32 x):=(hB2.cell (p:=⟨b,off,none⟩) hlb).trans h0;have d1:w2.cell? ⟨b,off+m,none⟩=some (.int .i32 y):=(hB2.cell (p:=⟨b,off+m,none⟩) hlb).trans h1;have dl:=bl.cell;clear h0 h1 hw2;have HSZ:=hid hsz;clear hsz;have hnz:(0:Int)<(n:Int):=by omega
 have hwm:IntKind.i64.wrap (m:Int)=(m:Int):=by rw[IntKind.wrap_i64];omega
 have hll:w.heap.size<w2.heap.size:=by have:=HSZ.out;omega
 have hlb2:b<w2.heap.size:=by have:=HSZ.out;omega
 have ca:∀(o:Obj) (p:Addr) (z:Value),p.block<w2.heap.size->w2.cell? p=some z->(w2.alloc o).cell? p=some z:=fun o p z h1 h2=>(((Below.refl w2.heap.size w2).alloc (le_refl _) o).cell (p:=p) h1).trans h2;have cb:∀(o o':Obj) (p:Addr) (z:Value),p.block<w2.heap.size->w2.cell? p=some z->((w2.alloc o).alloc o').cell? p=some z:=fun o o' p z h1 h2=>((((Below.refl w2.heap.size w2).alloc (le_refl _) o).alloc (by simp) o').cell (p:=p) h1).trans h2;have la:∀ o,(w2.alloc o).cell? ⟨w.heap.size,0,none⟩=some (.slice (some ⟨b,off,none⟩) n c):=fun o=>ca o _ _ hll dl;have lb:∀ o o',((w2.alloc o).alloc o').cell? ⟨w.heap.size,0,none⟩=some (.slice (some ⟨b,off,none⟩) n c):=fun o o'=>cb o o' _ _ hll dl;have xa:∀ o,(w2.alloc o).cell? ⟨b,off,none⟩=some (.int .i32 x):=fun o=>ca o _ _ hlb2 d0;have xb:∀ o o',((w2.alloc o).alloc o').cell? ⟨b,off,none⟩=some (.int .i32 x):=fun o o'=>cb o o' _ _ hlb2 d0;have ya:∀ o,(w2.alloc o).cell? ⟨b,off+m,none⟩=some (.int .i32 y):=fun o=>ca o _ _ hlb2 d1;have yb:∀ o o',((w2.alloc o).alloc o').cell? ⟨b,off+m,none⟩=some (.int .i32 y):=fun o o'=>cb o o' _ _ hlb2 d1;have BL:=hid bl;have BH:=hid bh;have HB2:=hid hB2;clear ca cb bl bh hB2 hll hlb2
 go_region
 ·obtain⟨w3,hw3⟩:=Ex' (((w2.alloc (.cells #[.int .i32 x] 21)).alloc (.cells #[.int .i32 y] 21)).drew);have hq:pA w w3 w.heap.size (w.heap.size+1) (w2.heap.size) (w2.heap.size+1) (.slice (some ⟨b,off,none⟩) n c) hy x y:=by rw[<-hw3];exact pA.new1 BL.out BH.out HB2.out
  have HQ:=hid hq;rw[hw3];generalize w2.heap.size=Bf at HQ ⊢;generalize w2.heap.size+1=Bz at HQ ⊢;clear hw3 hq la lb xa xb ya yb d0 d1 dl;go_wp2_with((refine D.wpList_buildSlice rfl 286 8 _ rfl 289 underlying286 2 sizeOfQ _ zeroOfQ (by omega) (by omega) (nM w.heap.size (w.heap.size+1) Bf Bz) (by rfl) ?_));go_ret;exact⟨⟨w3.heap.size,_,_,_,_,rfl,HQ.out.qs⟩,HQ.out.be.alloc HQ.out.be.size _⟩
 ·obtain⟨w3,hw3⟩:=Ex' (((w2.alloc (.cells #[.int .i32 y] 21)).alloc (.cells #[.int .i32 x] 21)).drew);have hq:pA w w3 w.heap.size (w.heap.size+1) (w2.heap.size+1) (w2.heap.size) (.slice (some ⟨b,off,none⟩) n c) hy x y:=by rw[<-hw3];exact pA.new2 BL.out BH.out HB2.out
  have HQ:=hid hq;rw[hw3];generalize w2.heap.size+1=Bf at HQ ⊢;generalize w2.heap.size=Bz at HQ ⊢;clear hw3 hq la lb xa xb ya yb d0 d1 dl;go_wp2_with((refine D.wpList_buildSlice rfl 286 8 _ rfl 289 underlying286 2 sizeOfQ _ zeroOfQ (by omega) (by omega) (nM w.heap.size (w.heap.size+1) Bf Bz) (by rfl) ?_));go_ret;exact⟨⟨w3.heap.size,_,_,_,_,rfl,HQ.out.qs⟩,HQ.out.be.alloc HQ.out.be.size _⟩
theorem Pq:∀ k:Fin 8,∀ s:Fin 128,s.val<2 ^ k.val->bits .or .u16 (s.val:Int) (2 ^ k.val)=(s.val:Int)+2 ^ k.val:=by decide +kernel
theorem rD:∀(l:List Bool) (i:Nat) (b:Bool),sm i (l++[b])=sm i l+bt b (2 ^ (i+l.length))
 | [],i,b=>by simp[sm]
 | a::l,i,b=>by rw[cons_append,sm,sm,rD l (i+1) b,length_cons,show i+1+l.length=i+(l.length+1) by omega];omega
theorem Qs.below{W W':World}{g Bl Bh Bf Bz:Nat}{v:Value}{hy:Bool}{x y:Int}(h:Qs W g Bl Bh Bf Bz v hy x y)(hB:Below W.heap.size W W'):Qs W' g Bl Bh Bf Bz v hy x y :=
 ⟨(hB.block g (Array.getElem?_eq_some_iff.1 h.row).1).trans h.row,(hB.block _ h.l.lt).trans h.l,(hB.block _ h.h.lt).trans h.h,(hB.block _ h.f.lt).trans h.f,(hB.block _ h.z.lt).trans h.z⟩
theorem Qs.alloc{W:World}{g Bl Bh Bf Bz:Nat}{v:Value}{hy:Bool}{x y:Int}(h:Qs W g Bl Bh Bf Bz v hy x y)(o:Obj):Qs (W.alloc o) g Bl Bh Bf Bz v hy x y:=h.below ((Below.refl _ W).alloc (le_refl _) o)
theorem Qs.cell{W:World}{g Bl Bh Bf Bz:Nat}{v:Value}{hy:Bool}{x y:Int}(h:Qs W g Bl Bh Bf Bz v hy x y)(i:Nat)(z:Value)(hz:(nM Bl Bh Bf Bz)[i]? = some z):W.cell? ⟨g,i,none⟩=some z:=by simp[World.cell?,h.row,hz]
structure Sm(Q:List Bool)(k:Nat)(s:Int):Prop where
 eq:s=sm 0 (Q.take k)
 lo:0<=s
 hi:s<2 ^ k
theorem Sm.yes{Q:List Bool}{k:Nat}{s:Int}(h:Sm Q k s)(hk:k<8)(hq:Q[k]? = some true):Sm Q (k+1) (bits .or .u16 s (2 ^ k)):=by
 have hkl:k<Q.length:=(List.getElem?_eq_some_iff.1 hq).1
 have hlt:s<128:=by
  have h1:=h.hi
  have h2:(2:Int) ^ k<=2 ^ 7:=by
   have:=Nat.pow_le_pow_right (show 0<2 by omega) (show k<=7 by omega)
   exact_mod_cast this
  have e7:(2:Int) ^ 7=128:=by decide
  omega
 obtain⟨m,rfl⟩:∃ m:Nat,s=m:=⟨s.toNat,by have:=h.lo;omega⟩;have hm:m<2 ^ k:=by have:=h.hi;exact_mod_cast this
 have e:=Pq ⟨k,hk⟩ ⟨m,by omega⟩ hm;simp only at e;have ep:(2:Int) ^ (k+1)=2 ^ k+2 ^ k:=by rw[Int.pow_succ];omega
 have hq':Q[k]=true:=(List.getElem?_eq_some_iff.1 hq).2;refine⟨?_,?_,?_⟩
 ·rw[e,h.eq,List.take_succ_eq_append_getElem hkl,rD,length_take,hq',Nat.min_eq_left (by omega),zero_add];rfl
 ·rw[e];have:(0:Int)<2 ^ k:=Int.pow_pos (by omega);omega
 ·rw[e,ep];have:=h.hi;omega
theorem Sm.no{Q:List Bool}{k:Nat}{s:Int}(h:Sm Q k s)(hq:Q[k]? = some false):Sm Q (k+1) s:=by
 have hkl:k<Q.length:=(List.getElem?_eq_some_iff.1 hq).1;have hq':Q[k]=false:=(List.getElem?_eq_some_iff.1 hq).2;have ep:(2:Int) ^ (k+1)=2 ^ k+2 ^ k:=by rw[Int.pow_succ];omega
 refine⟨?_,h.lo,?_⟩
 ·rw[List.take_succ_eq_append_getElem hkl,rD,hq',<-h.eq];simp[bt]
 ·have:=h.hi;have:(0:Int)<2 ^ k:=Int.pow_pos (by omega);omega
structure SC(w:World)(L:List Int)(hy:Bool)(v:Value)(g Bl Bh Bf Bz:Nat):Prop where
 a1:∀ W,Qs W g Bl Bh Bf Bz v hy (L[0]?.getD 0) (L[L.length - 1]?.getD 0)->Below w.heap.size w W->Calls prog 336 #[.pointer (some ⟨Bl,0,none⟩)] W fun e W'=>e=.returned (.bool ((qs L hy)[0]?.getD false))/\Below W.heap.size W W'
 a2:∀ W,Qs W g Bl Bh Bf Bz v hy (L[0]?.getD 0) (L[L.length - 1]?.getD 0)->Below w.heap.size w W->Calls prog 338 #[.pointer (some ⟨Bh,0,none⟩),.pointer (some ⟨Bl,0,none⟩)] W fun e W'=>e=.returned (.bool ((qs L hy)[1]?.getD false))/\Below W.heap.size W W'
 a3:∀ W,Qs W g Bl Bh Bf Bz v hy (L[0]?.getD 0) (L[L.length - 1]?.getD 0)->Below w.heap.size w W->Calls prog 339 #[.pointer (some ⟨Bh,0,none⟩),.pointer (some ⟨Bf,0,none⟩),.pointer (some ⟨Bz,0,none⟩)] W fun e W'=>e=.returned (.bool ((qs L hy)[2]?.getD false))/\Below W.heap.size W W'
 a4:∀ W,Qs W g Bl Bh Bf Bz v hy (L[0]?.getD 0) (L[L.length - 1]?.getD 0)->Below w.heap.size w W->Calls prog 340 #[.pointer (some ⟨Bl,0,none⟩)] W fun e W'=>e=.returned (.bool ((qs L hy)[3]?.getD false))/\Below W.heap.size W W'
 a5:∀ W,Qs W g Bl Bh Bf Bz v hy (L[0]?.getD 0) (L[L.length - 1]?.getD 0)->Below w.heap.size w W->Calls prog 341 #[.pointer (some ⟨Bl,0,none⟩)] W fun e W'=>e=.returned (.bool ((qs L hy)[4]?.getD false))/\Below W.heap.size W W'
 a6:∀ W,Qs W g Bl Bh Bf Bz v hy (L[0]?.getD 0) (L[L.length - 1]?.getD 0)->Below w.heap.size w W->Calls prog 343 #[.pointer (some ⟨Bf,0,none⟩)] W fun e W'=>e=.returned (.bool ((qs L hy)[5]?.getD false))/\Below W.heap.size W W'
 a7:∀ W,Qs W g Bl Bh Bf Bz v hy (L[0]?.getD 0) (L[L.length - 1]?.getD 0)->Below w.heap.size w W->Calls prog 345 #[.pointer (some ⟨Bl,0,none⟩)] W fun e W'=>e=.returned (.bool ((qs L hy)[6]?.getD false))/\Below W.heap.size W W'
 a8:∀ W,Qs W g Bl Bh Bf Bz v hy (L[0]?.getD 0) (L[L.length - 1]?.getD 0)->Below w.heap.size w W->Calls prog 347 #[.pointer (some ⟨Bl,0,none⟩)] W fun e W'=>e=.returned (.bool ((qs L hy)[7]?.getD false))/\Below W.heap.size W W'
theorem asks(w:World)(L:List Int)(hy:Bool)(v:Value)(g Bl Bh Bf Bz:Nat)(hlen:L.length<=10000)(hv:N.bU w v L)(hcap:∀ a n c,v=.slice a n c->n<=c):SC w L hy v g Bl Bh Bf Bz:=by have hI:U.av w v L:=N.wI hv;exact⟨fun W hQ hB=>Pb Bl v L W hlen hQ.l (hv.below hB),fun W hQ hB=>OZ Bl Bh v hy L W hlen hQ.l hQ.h (hI.below hB (le_refl _)),fun W hQ hB=>OY Bh Bf Bz hy _ _ W hQ.h hQ.f hQ.z,fun W hQ hB=>OX Bl v L W hlen hQ.l (hI.below hB (le_refl _)) hcap,fun W hQ hB=>OW Bl v L W hlen hQ.l (hI.below hB (le_refl _)),fun W hQ hB=>OV Bf _ W hQ.f,fun W hQ hB=>OU Bl v L W hlen hQ.l (hI.below hB (le_refl _)),fun W hQ hB=>OT Bl v L W hlen hQ.l (hI.below hB (le_refl _))⟩
theorem vF(v:Value)(hy:Bool)(L:List Int)(w:World)(hp:0<L.length)(hlen:L.length<=10000)(hv:N.bU w v L)(hcap:∀ a n c,v=.slice a n c->n<=c):
  Calls prog 288 #[v,.bool hy] w fun e W'=>e=.returned (.int .u16 (sm 0 (qs L hy)))/\Below w.heap.size w W':=by
 have hI:U.av w v L:=N.wI hv;have HQ:=hid (pI v hy L w hp hlen hI);have HA:=hid (fun g Bl Bh Bf Bz=>asks w L hy v g Bl Bh Bf Bz hlen hv hcap);obtain⟨a,c,rfl,-⟩:=aM hI;obtain⟨x,hx⟩:=Ex' (L[0]?.getD 0);obtain⟨y,hyy⟩:=Ex' (L[L.length - 1]?.getD 0);have HA2:Hid (∀ g Bl Bh Bf Bz,SC w L hy (.slice a L.length c) g Bl Bh Bf Bz):=HA.out;obtain⟨Q,hQ⟩:=Ex' (qs L hy);have HL:Hid (Q.length=8):=by show _=_;rw[<-hQ];rfl
 have HQQ:=hid hQ;have HX:=hid hx;have HY:=hid hyy;rw[hx,hyy]at HQ;rw[hQ];obtain⟨n,hn⟩:=Ex' L.length;have HN:=hid hn;rw[hn]at HQ hp hlen ⊢;have h0:((n:Int)==0)=false:=by simp;omega
 have h0z:¬ ((n:Int)=0):=by omega
 clear hx hyy hQ hv hI hcap hn HA;go_enter func288,ntmps288;go_wp2_with fail;refine HQ.out.mono ?_;rintro e w1 ⟨⟨g,Bl,Bh,Bf,Bz,rfl,hqs⟩,B1⟩;have HS:=hid hqs;have HB1:=hid B1;clear hqs B1 HQ;go_wp2_with fail
 go_loopw [5,15] (fun v5 v15 wr=>∃(k:Nat) (s:Int),k<=8/\v5=.int .u16 s/\v15=.int .i64 k/\Hid (Sm Q k s)/\Hid (Qs wr g Bl Bh Bf Bz (.slice a n c) hy x y)/\Hid (Below w.heap.size w wr)) (fun _ v15 _=>8 - (intOf v15).toNat)
 case atStart=>exact⟨0,0,zero_le _,rfl,rfl,⟨rfl,Int.le_refl _,by decide⟩,HS,HB1⟩
 case round =>
  clear HS HB1;obtain⟨k,s,hk,rfl,rfl,HM,HS,HB⟩:=hrel;have HNO:Hid (∀ i,i<8->Q[i]? = some (Q[i]?.getD false)):=fun i hi=>by have:=HL.out;rw[getElem?_eq_getElem (show i<Q.length by omega)];rfl
  by_cases hlt:k<8
  ·have HMY:Hid (Q[k]? = some true->Sm Q (k+1) (bits .or .u16 s (2 ^ k))):=HM.out.yes hlt;have HMN:Hid (Q[k]? = some false->Sm Q (k+1) s):=HM.out.no;have HNX:=hid (HNO.out k hlt);obtain⟨t,ht⟩:=Ex' (Q[k]?.getD false);rw[ht]at HNX;have HFIN:Hid (∀(cs:Array Value) (z:Value),cs[0]? = some z->∀ W',Below (wr.alloc (.cells cs 289)).heap.size (wr.alloc (.cells cs 289)) W'->Qs W' g Bl Bh Bf Bz (.slice a n c) hy x y/\Below w.heap.size w W'/\W'.cell? ⟨wr.heap.size,0,none⟩=some z):=fun cs z hz W' B=>by have bb:=HB.out.alloc HB.out.size (.cells cs 289);refine⟨(HS.out.alloc _).below B,bb.trans (B.mono bb.size),?_⟩;rw[B.cell (p:=⟨wr.heap.size,0,none⟩) (by simp)];simp only[World.cell?,World.alloc_heap_new];exact hz
   have hcase:k=0\/k=1\/k=2\/k=3\/k=4\/k=5\/k=6\/k=7:=by omega
   clear hlt hk HM;rcases hcase with rfl | rfl | rfl | rfl | rfl | rfl | rfl | rfl
   focus
    obtain⟨fv,hfv⟩:∃ fv:Value,fv=.func (.func 336) #[] #[.pointer (some ⟨Bl,0,none⟩)]:=⟨_,rfl⟩;have hf:=HFIN.out #[.int .u16 1,fv] _ rfl;have h2:=(HA2.out g Bl Bh Bf Bz).a1 (wr.alloc (.cells #[.int .u16 1,fv] 289));have hb:=HS.out.cell 0 (.int .u16 1) rfl;have hfn:=HS.out.cell 1 fv (by rw[hfv];rfl);subst hfv
   rotate_left
   focus
    obtain⟨fv,hfv⟩:∃ fv:Value,fv=.func (.func 338) #[] #[.pointer (some ⟨Bh,0,none⟩),.pointer (some ⟨Bl,0,none⟩)]:=⟨_,rfl⟩;have hf:=HFIN.out #[.int .u16 2,fv] _ rfl;have h2:=(HA2.out g Bl Bh Bf Bz).a2 (wr.alloc (.cells #[.int .u16 2,fv] 289));have hb:=HS.out.cell 2 (.int .u16 2) rfl;have hfn:=HS.out.cell 3 fv (by rw[hfv];rfl);subst hfv
   rotate_left
   focus
    obtain⟨fv,hfv⟩:∃ fv:Value,fv=.func (.func 339) #[] #[.pointer (some ⟨Bh,0,none⟩),.pointer (some ⟨Bf,0,none⟩),.pointer (some ⟨Bz,0,none⟩)]:=⟨_,rfl⟩;have hf:=HFIN.out #[.int .u16 4,fv] _ rfl;have h2:=(HA2.out g Bl Bh Bf Bz).a3 (wr.alloc (.cells #[.int .u16 4,fv] 289));have hb:=HS.out.cell 4 (.int .u16 4) rfl;have hfn:=HS.out.cell 5 fv (by rw[hfv];rfl);subst hfv
   rotate_left
   focus
    obtain⟨fv,hfv⟩:∃ fv:Value,fv=.func (.func 340) #[] #[.pointer (some ⟨Bl,0,none⟩)]:=⟨_,rfl⟩;have hf:=HFIN.out #[.int .u16 8,fv] _ rfl;have h2:=(HA2.out g Bl Bh Bf Bz).a4 (wr.alloc (.cells #[.int .u16 8,fv] 289));have hb:=HS.out.cell 6 (.int .u16 8) rfl;have hfn:=HS.out.cell 7 fv (by rw[hfv];rfl);subst hfv
   rotate_left
   focus
    obtain⟨fv,hfv⟩:∃ fv:Value,fv=.func (.func 341) #[] #[.pointer (some ⟨Bl,0,none⟩)]:=⟨_,rfl⟩;have hf:=HFIN.out #[.int .u16 16,fv] _ rfl;have h2:=(HA2.out g Bl Bh Bf Bz).a5 (wr.alloc (.cells #[.int .u16 16,fv] 289));have hb:=HS.out.cell 8 (.int .u16 16) rfl;have hfn:=HS.out.cell 9 fv (by rw[hfv];rfl);subst hfv
   rotate_left
   focus
    obtain⟨fv,hfv⟩:∃ fv:Value,fv=.func (.func 343) #[] #[.pointer (some ⟨Bf,0,none⟩)]:=⟨_,rfl⟩;have hf:=HFIN.out #[.int .u16 32,fv] _ rfl;have h2:=(HA2.out g Bl Bh Bf Bz).a6 (wr.alloc (.cells #[.int .u16 32,fv] 289));have hb:=HS.out.cell 10 (.int .u16 32) rfl;have hfn:=HS.out.cell 11 fv (by rw[hfv];rfl);subst hfv
   rotate_left
   focus
    obtain⟨fv,hfv⟩:∃ fv:Value,fv=.func (.func 345) #[] #[.pointer (some ⟨Bl,0,none⟩)]:=⟨_,rfl⟩;have hf:=HFIN.out #[.int .u16 64,fv] _ rfl;have h2:=(HA2.out g Bl Bh Bf Bz).a7 (wr.alloc (.cells #[.int .u16 64,fv] 289));have hb:=HS.out.cell 12 (.int .u16 64) rfl;have hfn:=HS.out.cell 13 fv (by rw[hfv];rfl);subst hfv
   rotate_left
   focus
    obtain⟨fv,hfv⟩:∃ fv:Value,fv=.func (.func 347) #[] #[.pointer (some ⟨Bl,0,none⟩)]:=⟨_,rfl⟩;have hf:=HFIN.out #[.int .u16 128,fv] _ rfl;have h2:=(HA2.out g Bl Bh Bf Bz).a8 (wr.alloc (.cells #[.int .u16 128,fv] 289));have hb:=HS.out.cell 14 (.int .u16 128) rfl;have hfn:=HS.out.cell 15 fv (by rw[hfv];rfl);subst hfv
   rotate_left
   all_goals
    rw[HX.out,HY.out,HN.out,HQQ.out,ht]at h2;have HCall:=hid (h2 (HS.out.alloc _) (HB.out.alloc HB.out.size _));have HF:=hid hf;clear h2 ht hf HFIN;cases t
    all_goals
     first
      | have HM2:=hid (HMN.out HNX.out)
      | have HM2:=hid (HMY.out HNX.out)
     clear HMN HMY HNX;go_wp2_with((first | go_at_call 336 | go_at_call 338 | go_at_call 339 | go_at_call 340 | go_at_call 341 | go_at_call 343 | go_at_call 345 | go_at_call 347);refine HCall.out.mono ?_;rintro e w4 ⟨rfl,B4⟩;obtain⟨hS4,hB4,hc4⟩:=HF.out _ B4;have HS4:=hid hS4;have HB4:=hid hB4;clear hS4 hB4 B4)
     go_roundw
     case rel=>exact⟨_,_,by omega,rfl,by first | rfl | go_num,HM2,HS4,HB4⟩
     case measure=>simp[intOf]
  ·obtain rfl:k=8:=by omega
   have HE:Hid (sm 0 Q=s):=by show _=_;rw[HM.out.eq,take_of_length_le (by rw[HL.out];exact le_refl _)]
   go_wp2;go_ret;exact⟨by rw[HE.out];rfl,HB.out⟩
theorem oO(v:Value)(hy:Bool)(L:List Int)(w:World)(hlen:L.length<=10000)(hv:N.bU w v L)(hcap:∀ a n c,v=.slice a n c->n<=c):
  Calls prog 288 #[v,.bool hy] w fun e W'=>e=.returned (.int .u16 (flt L hy))/\Below w.heap.size w W':=by
 by_cases h0:L.length=0
 ·obtain⟨a,c,rfl,-⟩:=hv;unfold flt;rw[if_pos h0,h0];clear hcap hlen h0;go_enter func288,ntmps288;go_wp2;go_ret;exact⟨rfl,Below.refl _ _⟩
 ·unfold flt;rw[if_neg h0];exact vF v hy L w (by omega) hlen hv hcap
end L
namespace I
theorem El.cap{W:World}{u:Value}{l:List Int}(h:El W u l):∀ a n c,u=.slice a n c->n<=c:=fun a n c e=>(h.2 a n c e).1
theorem AB(v:Value)(l:List Int)(hy:Bool)(w:World)(hlen:l.length<=10000)(hs:Scs l)(hv:El w v l):
  Calls prog 263 #[v,.bool hy] w fun e W'=>CI l hy w e W':=by
 have HV:=hid hv;have HENC:=hid (U.gU v l (by omega) w hv.ints);have HSC:=hid hs;obtain⟨a,c,e0,-⟩:=hv.1;have HCO:Hid (∀ W,Below w.heap.size w W->Calls prog 287 #[v] W fun e W'=>N.pC l W e W'):=fun W h=>jQ v l W (by omega) (hv.below h);have HFL:Hid (∀ W,Below w.heap.size w W->Calls prog 288 #[v,.bool hy] W fun e W'=>e=.returned (.int .u16 (L.flt l hy))/\Below W.heap.size W W'):=fun W h=>L.oO v hy l W hlen (hv.below h).1 (hv.below h).cap;obtain⟨n,hn⟩:=Ex' l.length;rw[hn]at e0 hlen;have HN:=hid hn;subst e0;clear hv hn hs;go_enter func263,ntmps263
 go_upto_if 23 with(first
   | (go_at_call 90;refine(fw s1 _ (by have:=HZ1.out;omega)).mono ?_;rintro e w2 ⟨⟨t2,b2,rfl,hc⟩,hw2⟩;obtain rfl:=hw2.symm;have HC:=hid hc;clear hc)
   | (go_at_call 280;refine HENC.out.mono ?_;rintro e w1 ⟨⟨s1,r1,rfl,hE⟩,B1⟩;have HE:=hid hE;have HB1:=hid B1;have HZ1:Hid (s1.size<=40000):=(by show _<=_;rcases hE with⟨_,_,h⟩ | ⟨_,_,h⟩ <;> first | (have h2:=U.cX l;rw[<-h,U.aa]at h2;have:=HN.out;omega) | (rw[h];exact zero_le _));clear hE B1))
 have hbn:U.bn s1=U.aj l:=by
  rcases HE.out with⟨_,_,h⟩ | ⟨h,_,_⟩
  ·exact h
  ·rw[kl.1 HSC.out]at h;cases h
 have HBN:=hid hbn;clear hbn;cases b2 with
 | false =>
  have hp:L.dE l=false:=by
   rcases HC.out with⟨h,_⟩ | ⟨_,h⟩
   ·cases h
   ·rw[HBN.out,<-qk]at h;simpa using h
  have HO:=hid (RS (hy:=hy) hp);have HC1:=hid (HCO.out w1 HB1.out);obtain⟨F,hF⟩:=Ex' (L.flt l hy);rw[hF]at HFL HO;clear hp hF
  go_wp2_with(first
    | (go_at_call 288;refine(HFL.out _ HB3.out).mono ?_;rintro e w4 ⟨rfl,B4⟩;have HB4:=hid B4;clear B4)
    | (go_at_call 287;refine HC1.out.mono ?_;rintro e w3 ⟨v3,rfl,r3,B3⟩;have R3:=hid r3;have HB3:=Bt' HB1 B3;obtain⟨a3,c3,rfl⟩:=bY r3;clear r3 B3))
  go_ret2;unfold CI;rw[HO.out];exact⟨_,rfl,(El.own rfl R3.out).below HB4.out,HB3.out.trans (HB4.out.mono HB3.out.size)⟩
 | true =>
  have hp:L.dE l=true/\U.bn t2=U.aj (l.drop 4):=by
   rcases HC.out with⟨_,h⟩ | ⟨h,_⟩
   ·rw[HBN.out]at h;have hq:=(qk l).2 ⟨_,h⟩;have h4:=yc hq;rw[h]at h4;exact⟨hq,by rw[<-h4];rfl⟩
   ·cases h
  have HO:=hid (Bd (hy:=hy) HSC.out hp.1);have HSM:=hid (Cn (T:=U.aj (l.drop 4)) (by rw[<-hp.2];exact U.ay t2));have HDD:=hid (P.ix t2 w1);rw[hp.2]at HDD;have HBT:Hid (U.Bytes (U.aj (l.drop 4))):=by show U.Bytes _;rw[<-hp.2];exact U.ay t2
  obtain⟨T,hT⟩:=Ex' (U.aj (l.drop 4));rw[hT]at HO HSM HDD HBT;clear hp hT HC HBN
  go_upto_region 6 with(go_at_call 289;refine HDD.out.mono ?_;rintro e w3 ⟨⟨v3,r3,rfl,hD⟩,B3⟩;have HD:=hid hD;have HB3:=Bt' HB1 B3;obtain⟨a3,c3,he3,_⟩:=L.aM (Ik hD).ints;have HE3:=hid he3;clear hD B3 he3;obtain⟨q,hq⟩:=Ex' ((P.ig T).1.length);rw[hq]at HE3;obtain rfl:=HE3.out;have HQ:=hid hq;clear hq)
  obtain⟨h1,h2,h3⟩:=HD.out.one HBT.out;have hel:=Ik HD.out;have HEL:=hid hel;rw[HQ.out]at h3;have HAS:=hid (lT _ (P.ig T).1 w3 (by rw[HQ.out];omega) HSM.out h1);have HFM:=hid (L.oO _ hy (P.ig T).1 w3 (by rw[HQ.out];omega) hel.1 hel.cap);have HC3:=hid (HCO.out w3 HB3.out);rw[<-h2]at HO;obtain⟨m,hm⟩:=Ex' ((P.ig T).1);rw[hm]at HO HAS HFM HEL;obtain⟨F,hF⟩:=Ex' (L.flt m hy);rw[hF]at HO HFM;obtain⟨pm,hpm⟩:=Ex' (plain m);rw[hpm]at HO HAS;clear h1 h2 hel hm hF hpm HD HQ HE3 HDD HFL HCO;by_cases hr:r3=0
  ·subst hr;cases pm with
   | true =>
    have HO2:Hid (one l hy=(l,512)):=by show _=_;rw[HO.out,if_neg (by decide)]
    go_wp2_with(first
      | (go_at_call 287;refine HC3.out.mono ?_;rintro e w4 ⟨v4,rfl,r4,B4⟩;have R4:=hid r4;have HB4:=Bt' HB3 B4;obtain⟨a4,c4,rfl⟩:=bY r4;clear r4 B4)
      | (go_at_call 279;refine HAS.out.mono ?_;rintro e wb ⟨rfl,hwb⟩;obtain rfl:=hwb.symm))
    go_ret2;unfold CI;rw[HO2.out];exact⟨_,rfl,El.own rfl R4.out,HB4.out⟩
   | false =>
    have HO2:Hid (one l hy=(m,F)):=by show _=_;rw[HO.out,if_pos ⟨rfl,rfl⟩]
    go_wp2_with(first
      | (go_at_call 279;refine HAS.out.mono ?_;rintro e wb ⟨rfl,hwb⟩;obtain rfl:=hwb.symm)
      | (go_at_call 288;refine HFM.out.mono ?_;rintro e w4 ⟨rfl,B4⟩))
    go_ret2;unfold CI;rw[HO2.out];exact⟨_,rfl,HEL.out.below B4,HB3.out.trans (B4.mono HB3.out.size)⟩
  ·have hrb:(r3 != 0)=true:=by simpa using hr
   have hrc:(r3==0)=false:=by simpa using hr
   have HO2:Hid (one l hy=(l,512)):=by show _=_;rw[HO.out,if_neg (fun h=>hr h.1)]
   go_wp2_with(go_at_call 287;refine HC3.out.mono ?_;rintro e w4 ⟨v4,rfl,r4,B4⟩;have R4:=hid r4;have HB4:=Bt' HB3 B4;obtain⟨a4,c4,rfl⟩:=bY r4;clear r4 B4);go_ret2;unfold CI;rw[HO2.out];exact⟨_,rfl,El.own rfl R4.out,HB4.out⟩
theorem kA(s:ByteArray)(w:World)(hs:s.size<=4096):
  Calls prog 262 #[.string s] w fun e W'=>N.pC (Mp (U.dec (U.bn s))) w e W':=by
 have hdl:=U.dv (U.bn s).length (U.bn s) (le_refl _) (U.ay s);have hml:=Lt (U.bn s) (U.ay s);rw[U.aa]at hdl hml;have HDEC:=hid (U.oR s (by omega) w);have HMP:Hid (Mp (U.dec (U.bn s))=N.dA ((U.dec (U.bn s)).flatMap mpx)):=rfl;obtain⟨l,hl⟩:=Ex' (U.dec (U.bn s));rw[hl]at HDEC HMP hdl hml ⊢;obtain⟨M,hM⟩:=Ex' (Mp l);rw[hM]at HMP ⊢;obtain⟨n,hn⟩:=Ex' l.length;have HN:=hid hn;have HML:=hid hml;rw[hn]at HDEC hdl;clear hl hM hn hml;go_enter func262,ntmps262;go_wp2_with fail;refine HDEC.out.mono ?_;rintro e w1 ⟨v1,rfl,r1,B1⟩;obtain⟨a1,c1,rfl⟩:=bY r1;have HI:=hid (U.av.own HN.out.symm r1);obtain⟨a,c,he,hf⟩:=L.aM HI.out;rw[HN.out]at he hf;cases he;have HF:=hid hf;have HB1:=hid B1;clear r1 B1 HDEC hf;go_wp2_with fail
 go_loopw [3,9] (fun v4 v5 wr=>∃(k m c:Nat) (a:Option Addr),k<=n/\m<=8 * k/\v4=.slice a m c/\v5=.int .i64 k/\Hid (m=((l.take k).flatMap mpx).length)/\Hid (wr.ownsRow w1.heap.size 21 1 (.slice a m c) m (((l.take k).flatMap mpx).map (Value.int .i32)))/\Hid (Below w1.heap.size w1 wr)) (fun _ v5 _=>n - (intOf v5).toNat)
 case atStart=>exact⟨0,0,0,none,zero_le _,le_refl _,rfl,rfl,rfl,ownsRow_nil _ _ _ _,Below.refl _ _⟩
 case round =>
  obtain⟨k,m,c,a,hk,hmk,rfl,rfl,HM,HR,HB⟩:=hrel;by_cases hlt:k<n
  ·obtain⟨b,off,rfl,hck⟩:=L.ji HF.out HB.out k hlt;have HT:=hid (Ga l k (by rw[HN.out];exact hlt));have hml:=Ls (l[k]?.getD 0);have HST:=hid (fun W=>D.ny (l[k]?.getD 0) W);have HRM:=hid (fun W=>D.kA (l[k]?.getD 0) W);have HMX:Hid (mpx (l[k]?.getD 0)=if (D.fnd (l[k]?.getD 0)).2.2.1=0 then [l[k]?.getD 0] else D.mp (l[k]?.getD 0)):=rfl;obtain⟨y2,h2⟩:=Ex' ((D.fnd (l[k]?.getD 0)).2.2.1);rw[h2]at HMX HST;obtain⟨Z,hZ⟩:=Ex' (mpx (l[k]?.getD 0));rw[hZ]at HT HMX hml;obtain⟨x,hx⟩:=Ex' (l[k]?.getD 0);rw[hx]at hck HRM HMX HST;obtain⟨Y,hY⟩:=Ex' ((l.take k).flatMap mpx);rw[hY]at HT HM HR;clear h2 hx hZ hY;have z1:=HB.out.size;by_cases h0:y2=0
   ·subst h0;have HZ:Hid (Z=[x]):=by show _=_;rw[HMX.out,if_pos rfl]
    clear HMX
    go_wp2_with(first
      | (at_builtin;refine U.bI rfl _ _ rfl w1.heap.size _ m Y rfl (R2.out.alloc _) _ [x] rfl (.inr ⟨⟨w2.heap.size,0,none⟩,1,rfl,fun j hj=>by(have hj0:j=0:=by(simp only[length_cons,length_nil]at hj;omega));subst hj0;rw[U.gx];exact(Boxed.new w2 21 (.int .i32 x)).cell⟩) (by simp only[length_cons,length_nil];omega) (by simp;omega) ?_;intro v3 w3 r3 g3;simp only[length_cons,length_nil,zero_add]at r3;obtain⟨a3,c3,rfl⟩:=bY r3)
      | (go_at_call 284;refine(HST.out _).mono ?_;rintro e w2 ⟨rfl,B2⟩;have R2:=hid (U.an HR.out B2 (le_refl _));have HB2:=Bt' HB B2;have z2:=HB2.out.size;clear B2))
    go_roundw
    case rel =>
     refine⟨k+1,m+1,c3,a3,by omega,by omega,rfl,by go_num,by show _=_;rw[HT.out,HZ.out,length_append,<-HM.out];rfl,?_,U.below_grow (w1:=w2.alloc (.cells #[.int .i32 x] 21)) (HB2.out.alloc HB2.out.size _) (le_trans HB2.out.size (by simp)) (R2.out.alloc _) g3⟩;show World.ownsRow _ _ _ _ _ _ _;rw[HT.out,HZ.out];exact r3
    case measure=>simp[intOf];omega
   ·have h0b:(y2==0)=false:=by simpa using h0
    have hZ:Z=D.mp x:=by rw[HMX.out,if_neg h0]
    rw[<-hZ]at HRM;obtain⟨q,hq⟩:=Ex' Z.length;have HQ:=hid hq;rw[hq]at hml;clear HMX hZ hq
    go_wp2_with(first
      | (at_builtin;refine U.bI rfl _ _ rfl w1.heap.size _ m Y rfl R3.out _ Z rfl S3.out (by have:=HQ.out;omega) HB3.out.size ?_;intro v4 w4 r4 g4;rw[HQ.out]at r4;obtain⟨a4,c4,rfl⟩:=bY r4)
      | (go_at_call 285;refine(HRM.out _).mono ?_;rintro e w3 ⟨⟨v3,rfl,hI3⟩,B3⟩;have R3:=hid (U.an R2.out B3 (le_refl _));have HB3:=Bt' HB2 B3;have S3:=hid (ND hI3);obtain⟨a3,c3,hv3,_,_⟩:=id hI3;rw[HQ.out]at hv3;subst hv3;clear hI3 B3)
      | (go_at_call 284;refine(HST.out _).mono ?_;rintro e w2 ⟨rfl,B2⟩;have R2:=hid (U.an HR.out B2 (le_refl _));have HB2:=Bt' HB B2;have z2:=HB2.out.size;clear B2))
    go_roundw
    case rel =>
     refine⟨k+1,m+q,c4,a4,by omega,by omega,rfl,by go_num,by show _=_;rw[HT.out,length_append,<-HM.out,HQ.out],?_,U.below_grow HB3.out HB3.out.size R3.out g4⟩;show World.ownsRow _ _ _ _ _ _ _;rw[HT.out];exact r4
    case measure=>simp[intOf];omega
  ·have hkk:l.take k=l:=take_of_length_le (by rw[HN.out];omega);rw[hkk]at HM HR;have hl8:=HML.out;have HC:=hid (N.zA _ (l.flatMap mpx) wr (by omega) (N.bU.of_own HM.out HR.out));clear hkk;go_wp2_with fail;refine HC.out.mono ?_;rintro e w2 ⟨v2,rfl,r2,B2⟩;rw[<-HMP.out]at r2;obtain⟨a2,c2,rfl⟩:=bY r2;have R2:=hid r2;have BB:=hid (HB1.out.trans (((HB.out.trans (B2.mono HB.out.size))).mono HB1.out.size));have z1:=HB1.out.size;have z2:=HB.out.size;clear r2 B2;go_wp2;go_ret;exact⟨_,rfl,N.nU R2.out (by omega),BB.out⟩
open Go.RowKit Go.Shelf
theorem aC{W:World}{B B':Nat}{t t':TypeId}{v x:Value}(h:Boxed W B t v)(h':Boxed W B' t' x)(ht:t≠t')(u:Value):Boxed (W.setCell ⟨B',0,none⟩ u) B t v :=
 h.other (fun e=>by subst e;have h1:W.heap[B]? = _:=h;have h2:W.heap[B]? = _:=h';rw[h1]at h2;cases h2;exact ht rfl) u
structure Pf(w W:World)(B0 Bh Bf Br:Nat)(hy rt:Bool)(vf:Value)(fs:List Int):Prop where
 bh:Boxed W Bh 4 (.bool hy)
 bf:Boxed W Bf 132 vf
 br:Boxed W Br 4 (.bool rt)
 flt:W.ownsRow B0 23 1 vf fs.length (fs.map (Value.int .u16))
 n1:Bh≠Br
 n2:w.heap.size<=Bf
 n3:w.heap.size<=Br
theorem Pf.below{w W W':World}{B0 Bh Bf Br:Nat}{hy rt:Bool}{vf:Value}{fs:List Int}(h:Pf w W B0 Bh Bf Br hy rt vf fs)(hb:Below W.heap.size W W'):Pf w W' B0 Bh Bf Br hy rt vf fs :=
 ⟨(hb.block _ h.bh.lt).trans h.bh,(hb.block _ h.bf.lt).trans h.bf,(hb.block _ h.br.lt).trans h.br,U.an h.flt hb (le_refl _),h.n1,h.n2,h.n3⟩
theorem Pf.from_other{w W W':World}{B0 Bh Bf Br:Nat}{hy rt:Bool}{vf:Value}{fs:List Int}{row:Option Nat}(h:Pf w W B0 Bh Bf Br hy rt vf fs)(hg:W.grownBy W' row)(hr:∀ r,row=some r->∃ o:Obj,W.heap[r]? = some o/\o.isCells=false):Pf w W' B0 Bh Bf Br hy rt vf fs :=
 ⟨cK h.bh hg hr,cK h.bf hg hr,cK h.br hg hr,iW h.flt hg hr,h.n1,h.n2,h.n3⟩
theorem Pf.pushO{w W w1:World}{B0 Bh Bf Br Bo m:Nat}{hy rt:Bool}{vf vo:Value}{fs:List Int}{vs:List Value}{u:Value}(h:Pf w W B0 Bh Bf Br hy rt vf fs)(ho:W.ownsRow B0 43 1 vo m vs)
  (hg:(W.alloc (.cells #[u] 43)).grownBy w1 vo.ownBlock) (hbo:Boxed w1 Bo 136 vo) (x:Value):Pf w (w1.setCell ⟨Bo,0,none⟩ x) B0 Bh Bf Br hy rt vf fs:=by
 have ho':=ho.alloc (.cells #[u] 43);have k:∀ {B:Nat} {t:TypeId} {v:Value},Boxed W B t v->t≠43->Boxed w1 B t v:=fun hb ht=>(hb.alloc _).kept hg ((hb.alloc _).not_row ht ho');have hf:=nT (h.flt.alloc (.cells #[u] 43)) ho' (by decide) hg;exact⟨aC (k h.bh (by decide)) hbo (by decide) _,aC (k h.bf (by decide)) hbo (by decide) _,aC (k h.br (by decide)) hbo (by decide) _,dQ hf hbo (by decide) _,h.n1,h.n2,h.n3⟩
theorem NQ{w W w1:World}{B0 Bl Bo Bh Bf Br:Nat}{v vo vf vf':Value}{l:List Int}{vs:List Value}{ls:List (List Int)}{hy rt:Bool}{fs:List Int}{f:Int}(hs:So w W B0 Bl Bo v l vo vs ls)(h:Pf w W B0 Bh Bf Br hy rt vf fs)
  (hown:w1.ownsRow B0 23 1 vf' (fs.length+1) (fs.map (Value.int .u16)++[.int .u16 f])) (hg:(W.alloc (.cells #[.int .u16 f] 23)).grownBy w1 vf.ownBlock) :
  Boxed w1 Bf 132 vf/\So w (w1.setCell ⟨Bf,0,none⟩ vf') B0 Bl Bo v l vo vs ls/\Pf w (w1.setCell ⟨Bf,0,none⟩ vf') B0 Bh Bf Br hy rt vf' (fs++[f]):=by
 have ba:=iS W (.cells #[.int .u16 f] 23);have ho:=h.flt.alloc (.cells #[.int .u16 f] 23);have k:∀ {B:Nat} {t:TypeId} {v:Value},Boxed W B t v->t≠23->Boxed w1 B t v:=fun hb ht=>(hb.alloc _).kept hg ((hb.alloc _).not_row ht ho);have kbf:=k h.bf (by decide);have hbe:Below w.heap.size w w1:=(hs.be.alloc hs.be.size _).grown hg (le_trans hs.be.size (by simp)) (fun k e=>le_trans hs.b3 (ho.lt k e).1);have hels:=(hs.els.below ba).kept ho (by decide) hg;have hel:=(hs.bx.el.below ba).kept ho (by decide) hg;have hout:=nT (hs.out.alloc (.cells #[.int .u16 f] 23)) ho (by decide) hg
 refine⟨kbf,⟨⟨aC (k hs.bx.box (by decide)) kbf (by decide) _,hel.set kbf (by decide) _⟩,aC (k hs.bo (by decide)) kbf (by decide) _,dQ hout kbf (by decide) _,hels.set kbf (by decide) _,hbe.setCell (p:=⟨Bf,0,none⟩) h.n2 _,hs.b1,hs.b2,hs.b3,?_⟩,
   ⟨aC (k h.bh (by decide)) kbf (by decide) _,kbf.set _,aC (k h.br (by decide)) kbf (by decide) _,?_,h.n1,h.n2,h.n3⟩⟩
 ·have h1:=hg.size;have h2:=hs.b4;simp at h1 ⊢;omega
 ·rw[length_append,map_append];exact dQ hown kbf (by decide) _
theorem Ry{w W:World}{B0 Bl Bo Bh Bf Br:Nat}{v vo vf:Value}{l:List Int}{vs:List Value}{ls:List (List Int)}{hy rt:Bool}{fs:List Int}(hs:So w W B0 Bl Bo v l vo vs ls)(h:Pf w W B0 Bh Bf Br hy rt vf fs)(b:Bool):
  So w (W.setCell ⟨Br,0,none⟩ (.bool b)) B0 Bl Bo v l vo vs ls/\Pf w (W.setCell ⟨Br,0,none⟩ (.bool b)) B0 Bh Bf Br hy b vf fs :=
 ⟨⟨⟨aC hs.bx.box h.br (by decide) _,hs.bx.el.set h.br (by decide) _⟩,aC hs.bo h.br (by decide) _,dQ hs.out h.br (by decide) _,hs.els.set h.br (by decide) _,hs.be.setCell (p:=⟨Br,0,none⟩) h.n3 _,hs.b1,hs.b2,hs.b3,by have:=hs.b4;simp;omega⟩,
   ⟨h.bh.other h.n1 _,aC h.bf h.br (by decide) _,h.br.set _,dQ h.flt h.br (by decide) _,h.n1,h.n2,h.n3⟩⟩
structure Qr(B0:Nat)(W:World)(vo vf:Value)(m:Nat)(vs:List Value)(ys:List (List Int×Int)):Prop where
 out:W.ownsRow B0 43 1 vo m vs
 els:Els W vs (ys.map (·.1))
 flt:W.ownsRow B0 23 1 vf m (ys.map fun y=>Value.int .u16 y.2)
 len:m=ys.length
theorem Qr.below{B0:Nat}{W W':World}{vo vf:Value}{m:Nat}{vs:List Value}{ys:List (List Int×Int)}(h:Qr B0 W vo vf m vs ys)(hb:Below W.heap.size W W'):Qr B0 W' vo vf m vs ys :=
 ⟨U.an h.out hb (le_refl _),h.els.below hb,U.an h.flt hb (le_refl _),h.len⟩
theorem RQ:∀ x:Fin 256,bits .or .u16 (x.val:Int) 256=(x.val:Int)+256:=by decide +kernel
theorem Ps(x:Int)(h:0<=x/\x<=255\/x=512):bits .or .u16 x 256=x+256:=by
 rcases h with h | rfl
 ·obtain⟨k,rfl⟩:∃ k:Nat,x=k:=⟨x.toNat,by omega⟩;exact RQ ⟨k,by omega⟩
 ·decide +kernel
theorem RR(l:List Int)(hy:Bool):0<=(one l hy).2/\(one l hy).2<=255\/(one l hy).2=512:=by
 have h:=sC l hy;have h0:=gR l hy;unfold one;split
 ·exact .inl ⟨h0,h⟩
 ·split
  ·exact .inr rfl
  ·split
   ·exact .inr rfl
   ·rename_i m _;split
    ·exact .inr rfl
    ·exact .inl ⟨gR m hy,sC m hy⟩
theorem wE(B0:Nat)(vo vf:Value)(m:Nat)(vs:List Value)(ys:List (List Int×Int))(w:World)(hm:m<=100000)(hB:B0<=w.heap.size)(hf:∀ y∈ys,(0<=y.2/\y.2<=255\/y.2=512)/\y.1.length<=10000)(hq:Qr B0 w vo vf m vs ys):
  Calls prog 265 #[vo,vf] w fun e W'=>e=.returned (.tuple #[])/\Qr B0 W' vo vf m vs (ys.map eI)/\Below B0 w W'/\KeepsOthers w W':=by
 have HYB:=hid hf;have HYL:=hid hq.len;have HQ0:Hid (Qr B0 w vo vf m vs (jC ys 0)):=hq;have HEND:Hid (jC ys m=ys.map eI):=by show _=_;unfold jC;rw[take_of_length_le (by rw[hq.len];exact le_refl _),List.drop_of_length_le (by rw[hq.len];exact le_refl _),List.append_nil]
 obtain⟨ao,co,rfl⟩:=dT hq.out;obtain⟨af,cf,rfl⟩:=dU hq.flt;clear hq hf;go_enter func265,ntmps265;go_wp2_with fail
 go_loopw [8] (fun v8 wq=>∃ k2:Nat,k2<=m/\v8=.int .i64 k2/\Hid (Below B0 w wq)/\Hid (KeepsOthers w wq)/\Hid (Qr B0 wq (.slice ao m co) (.slice af m cf) m vs (jC ys k2))) (fun v8 _=>m - (intOf v8).toNat)
 case atStart=>exact⟨0,zero_le _,rfl,Below.refl _ _,KeepsOthers.refl _,HQ0⟩
 case round =>
  clear HQ0;obtain⟨k2,hk2,rfl,HB,HKO,HQ2⟩:=hrel;by_cases hlt2:k2<m
  ·have hky:k2<ys.length:=by rw[<-HYL.out];exact hlt2
   have hb:=HYB.out ys[k2] (getElem_mem hky);obtain⟨go,rfl,hco,-⟩:=fY HQ2.out.out k2 hlt2;obtain⟨gf,rfl,hcf,hff⟩:=fY HQ2.out.flt k2 hlt2;have hel:=HQ2.out.els.2 k2 (by rw[mP,length_map];exact hky);rw[mP,getElem?_map,getElem?_eq_getElem hky]at hel;replace hel:El wr (vs[k2]?.getD undef) ys[k2].1:=hel;rw[getElem?_map,Oi ys k2 hky]at hcf;replace hcf:wr.cell? ⟨gf,k2,none⟩=some (.int .u16 ys[k2].2):=hcf;obtain⟨ae,ce,hue⟩:=kL hel;rw[hue]at hco hel;have HBD:=hid (L.oW _ ys[k2].1 wr (by omega) hel.ints);have HZO:=hid (Rg ys k2 hky);have HZB:=hid (Oj ys k2 hky);have HOR:=hid (Ps ys[k2].2 hb.1);obtain⟨bo,hbo⟩:=Ex' (L.ef ys[k2].1);rw[hbo]at HBD HZO HZB;obtain⟨f2,hf2⟩:=Ex' (ys[k2].2);rw[hf2]at HZB hcf hb HOR;obtain⟨p2,hp2⟩:=Ex' (ys[k2].1.length);rw[hp2]at hco HBD;have hb0:0<=f2:=by omega
   have hb1:f2<=512:=by omega
   clear hel hue hbo hf2 hp2 hb;have z1:=HB.out.size;cases bo with
   | true =>
    have HZ:=hid (HZO.out rfl);go_wp2_with(go_at_call 291;refine HBD.out.mono ?_;rintro e w5 ⟨rfl,B5⟩)
    go_roundw
    case rel=>exact⟨k2+1,by omega,by go_num,HB.out.trans (B5.mono (by omega)),HKO.out.trans (L.bQ B5),by show Qr _ _ _ _ _ _ _;rw[HZ.out];exact HQ2.out.below B5⟩
    case measure=>simp[intOf];omega
   | false =>
    have HZ:=hid (HZB.out rfl)
    go_upto_if 15 with(go_at_call 291;refine HBD.out.mono ?_;rintro e w5 ⟨rfl,B5⟩)
    have HQ5:=hid (HQ2.out.below B5);have HB5:=hid (HB.out.trans (B5.mono (by omega)));have hcf5:w5.cell? ⟨gf,k2,none⟩=some (.int .u16 f2):=(B5.cell (p:=⟨gf,k2,none⟩) (U.lt_of_cell hcf)).trans hcf;obtain⟨g',e',-,hff5⟩:=fY HQ5.out.flt k2 hlt2;cases e';have hst:=HQ5.out.flt.stored k2 (.int .u16 (f2+256));have HST:=hid hst;have hor:=HOR.out;have HKB:=hid (HKO.out.trans (L.bQ B5));clear B5 hcf hff hco hst;go_wp2
    go_roundw
    case rel =>
     refine⟨k2+1,by omega,by go_num,HB5.out.setCell (p:=⟨gf,k2,none⟩) (by have:=(HQ5.out.flt.lt gf rfl).1;exact this) _,HKB.out.trans (KeepsOthers.setCell _ _ _),?_⟩;show Qr _ _ _ _ _ _ _;refine⟨nT HQ5.out.out HQ5.out.flt (by decide) HST.out.2,?_,by rw[HZ.out];exact HST.out.1,by rw[Oh];exact HYL.out⟩;rw[mP,<-mP ys k2];exact HQ5.out.els.kept HQ5.out.flt (by decide) HST.out.2
    case measure=>simp[intOf];omega
  ·obtain rfl:k2=m:=by omega
   rw[HEND.out]at HQ2;go_wp2
   go_end0
   exact⟨rfl,HQ2.out,HB.out,HKO.out⟩
theorem qL{w W:World}{B0 Bo Bf D:Nat}{vo vf:Value}{m:Nat}{vs:List Value}{xs:List (List Int×Int)}(hq:Qr B0 W vo vf m vs xs)(hbo:Boxed W Bo 136 vo)(hbf:Boxed W Bf 132 vf)(hbe:Below w.heap.size w W)
  (h1:w.heap.size<=Bo) (h2:w.heap.size<=Bf) (h3:w.heap.size<=B0) (hD:w.heap.size<=D) (hK:W.heap[D]? = some (.deferred (some []))) :
  ((W.setCell ⟨Bo,0,none⟩ vo).setCell ⟨Bf,0,none⟩ vf).heap[D]? = some (.deferred (some [])) /\
  Boxed (((W.setCell ⟨Bo,0,none⟩ vo).setCell ⟨Bf,0,none⟩ vf).putObj D (.deferred none)) Bo 136 vo/\Boxed (((W.setCell ⟨Bo,0,none⟩ vo).setCell ⟨Bf,0,none⟩ vf).putObj D (.deferred none)) Bf 132 vf /\
  Pr w (((W.setCell ⟨Bo,0,none⟩ vo).setCell ⟨Bf,0,none⟩ vf).putObj D (.deferred none)) vo vf m vs xs:=by
 have k1:=(KeepsOthers.setCell W ⟨Bo,0,none⟩ vo).same D _ hK rfl;have k2:=(KeepsOthers.setCell (W.setCell ⟨Bo,0,none⟩ vo) ⟨Bf,0,none⟩ vf).same D _ k1 rfl;have o1:=hbo.set vo;have f1:=aC hbf hbo (by decide) vo;have o2:=aC o1 f1 (by decide) vf;have f2:=f1.set vf;have e1:=dQ (dQ hq.out hbo (by decide) vo) f1 (by decide) vf;have e2:=dQ (dQ hq.flt hbo (by decide) vo) f1 (by decide) vf;have e3:=(hq.els.set hbo (by decide) vo).set f1 (by decide) vf;have e4:Below w.heap.size w ((W.setCell ⟨Bo,0,none⟩ vo).setCell ⟨Bf,0,none⟩ vf):=(hbe.setCell (p:=⟨Bo,0,none⟩) h1 _).setCell (p:=⟨Bf,0,none⟩) h2 _;have hg:=grownBy_putObj' ((W.setCell ⟨Bo,0,none⟩ vo).setCell ⟨Bf,0,none⟩ vf) D (.deferred none);have hr:∀ r,some D=some r->∃ o:Obj,((W.setCell ⟨Bo,0,none⟩ vo).setCell ⟨Bf,0,none⟩ vf).heap[r]? = some o/\o.isCells=false:=fun r e=>by cases e;exact⟨_,k2,rfl⟩
 exact⟨k2,cK o2 hg hr,cK f2 hg hr,own_base' (iW e1 hg hr) h3,e3.other hg hr,own_base' (iW e2 hg hr) h3,e4.grown hg e4.size (fun k e=>by cases e;exact hD),hq.len⟩
attribute [local go_sem] Oper.semAt_some
theorem fL{fn:Func}{p u:Tmp}{ty tz:TypeId}(h:fn.results=#[.cell p ty,.cell u tz])(tmps:Array Value)(P:Program)(w:World):
  (results fn tmps).run P w =
   ((asAddr (tmps.getD p undef)).run P w).andThen fun a w₁=>((loadVar ty a).run P w₁).andThen fun v w₂=>((asAddr (tmps.getD u undef)).run P w₂).andThen fun b w₃=>((loadVar tz b).run P w₃).andThen fun x w₄=>.ok (.tuple #[v,x]) w₄:=by
 simp only[results,h];simp[Sem.run_bind,Result.andThen]
theorem Els.ot{W:World}{vs:List Value}{ls:List (List Int)}{u:Value}{l:List Int}{m:Nat}(h:Els W (vs++[u]) (ls++[l]))(hm:ls.length=m):El W u l:=by
 have hv:vs.length=ls.length:=by have:=h.1;simpa using this
 have:=h.2 ls.length (by simp);rw[getElem?_append_right (by rw[hv];exact le_refl _),getElem?_append_right (le_refl _),hv,sub_self]at this;exact this
def ysP(n:Nat)(X:List Int)(hy:Bool)(pre:List (Pc n)):List (List Int×Int):=pre.map fun p=>one (lab X p.1) hy
theorem CM(n:Nat)(X:List Int)(hy:Bool)(pre:List (Pc n))(x:Pc n):ysP n X hy (pre++[x])=ysP n X hy pre++[one (lab X x.1) hy]:=by simp[ysP]
theorem Gr{X:List Int}(h:Scs X)(p:Nat×Nat):Scs (lab X p):=fun c hc=>h c (List.mem_of_mem_drop (List.mem_of_mem_take hc))
theorem Qr.of{w W:World}{B0 Bl Bo Bh Bf Br:Nat}{v vo vf:Value}{l:List Int}{vs:List Value}{hy rt:Bool}{ys:List (List Int×Int)}(hs:So w W B0 Bl Bo v l vo vs (ys.map (·.1)))(h:Pf w W B0 Bh Bf Br hy rt vf (ys.map (·.2))):Qr B0 W vo vf ys.length vs ys :=
 ⟨by have:=hs.out;rwa [length_map]at this,hs.els,by have:=h.flt;rw[length_map,map_map]at this;exact this,rfl⟩
theorem lM(s:ByteArray)(hy:Bool)(w:World)(hs:s.size<=4096):
  Calls prog 235 #[.string s,.bool hy] w fun e W'=>Jg (prc (Mp (U.dec (U.bn s))) hy) w e W':=by
 obtain⟨i0,hi,hz0,hz1,hz2⟩:=info_parts Se;obtain⟨i1,hj,hy0,hy1,hy2⟩:=info_parts Ml;have HMP:=hid (fun W=>kA s W hs);have hml:=mN (U.bn s) (U.ay s);have HSX:=hid (mM _ (jh _ (U.ay s)));rw[U.aa]at hml;obtain⟨X,hX⟩:=Ex' (Mp (U.dec (U.bn s)));rw[hX]at HMP hml HSX ⊢;obtain⟨n,hn⟩:=Ex' X.length;have HN:=hid hn;have HCUT:=hid (Im n X hn);unfold N.pC at HMP;rw[hn]at hml HMP;have hnb:n<=8192:=by omega
 clear hX hn hml;refine(callsIn_wide (n:=3)).1 ?_;refine callsIn_of_wp_marks func235 rfl trivial ?_ rfl;simp only[ntmps235,List.size_toArray,length_cons,length_nil,Nat.reduceAdd,Nat.reduceSub,replicate_succ,replicate_zero,push_toArray,append_toArray,nil_append,cons_append];gi_wp2_with fail;refine⟨trivial,?_⟩;refine(callsIn_wide.2 (HMP.out _)).mono ?_;rintro e w5 ⟨v5,rfl,r5,B5⟩;obtain⟨a,c,rfl⟩:=bY r5;gi_wp2_with fail;refine⟨trivial,?_⟩;refine(Ck _ _ _ ⟨_,_,_,rfl⟩).mono ?_;rintro e w' ⟨rfl,rfl⟩;gi_wp2_with fail;have b0:=Boxed.new w 4 (.bool hy);have b1:=Boxed.new (w.alloc (.cells #[.bool hy] 4)) 136 (.slice none 0 0);have b2:=Boxed.new ((w.alloc (.cells #[.bool hy] 4)).alloc (.cells #[.slice none 0 0] 136)) 132 (.slice none 0 0);have b3:=Boxed.new (((w.alloc (.cells #[.bool hy] 4)).alloc (.cells #[.slice none 0 0] 136)).alloc (.cells #[.slice none 0 0] 132)) 4 (.bool false);simp only[size_alloc]at b1 b2 b3;replace b0:=((b0.alloc (.cells #[.slice none 0 0] 136)).alloc (.cells #[.slice none 0 0] 132)).alloc (.cells #[.bool false] 4);replace b1:=(b1.alloc (.cells #[.slice none 0 0] 132)).alloc (.cells #[.bool false] 4);replace b2:=b2.alloc (.cells #[.bool false] 4)
 have bb:Below w.heap.size w ((((w.alloc (.cells #[.bool hy] 4)).alloc (.cells #[.slice none 0 0] 136)).alloc (.cells #[.slice none 0 0] 132)).alloc (.cells #[.bool false] 4)) :=
  ((((Below.refl _ w).alloc (le_refl _) _).alloc (by simp) _).alloc (by simp;omega) _).alloc (by simp;omega) _
 have hw4:((((w.alloc (.cells #[.bool hy] 4)).alloc (.cells #[.slice none 0 0] 136)).alloc (.cells #[.slice none 0 0] 132)).alloc (.cells #[.bool false] 4)).heap.size=w.heap.size+4:=by simp
 obtain⟨w4,hw⟩:=Ex' ((((w.alloc (.cells #[.bool hy] 4)).alloc (.cells #[.slice none 0 0] 136)).alloc (.cells #[.slice none 0 0] 132)).alloc (.cells #[.bool false] 4));rw[hw]at b0 b1 b2 b3 bb hw4 r5 B5;have hz5:=B5.size;have c0:=(B5.block _ b0.lt).trans b0;have c1:=(B5.block _ b1.lt).trans b1;have c2:=(B5.block _ b2.lt).trans b2;have c3:=(B5.block _ b3.lt).trans b3;have bl:=Boxed.new w5 43 (.slice a n c);have b5:=bb.trans (B5.mono (by omega));have el5:=El.own HN.out.symm r5;have ba:=iS w5 (.cells #[.slice a n c] 43);obtain⟨W0,hW0⟩:=Ex' (w5.alloc (.cells #[.slice a n c] 43));have hs0:W0.heap.size=w5.heap.size+1:=by rw[<-hW0];simp
 rw[hW0]at bl ba ⊢;have d0:Boxed W0 _ _ _:=(ba.block _ (Array.getElem?_eq_some_iff.1 c0).1).trans c0;have d1:Boxed W0 _ _ _:=(ba.block _ (Array.getElem?_eq_some_iff.1 c1).1).trans c1;have d2:Boxed W0 _ _ _:=(ba.block _ (Array.getElem?_eq_some_iff.1 c2).1).trans c2;have d3:Boxed W0 _ _ _:=(ba.block _ (Array.getElem?_eq_some_iff.1 c3).1).trans c3;have hB0:=b5.trans (ba.mono (by omega));have hbx:Bx w5.heap.size (.slice a n c) X W0:=⟨bl,el5.below ba⟩
 have hSo:So w W0 W0.heap.size w5.heap.size (w.heap.size+1) (.slice a n c) X (.slice none 0 0) [] ((ysP n X hy []).map (·.1)) :=
  ⟨hbx,d1,ownsRow_nil _ _ _ _,Els.nil _,hB0,by omega,by omega,by omega,le_refl _⟩
 have hPf:Pf w W0 W0.heap.size w.heap.size (w.heap.size+1+1) (w.heap.size+1+1+1) hy (jV (ysP n X hy [])) (.slice none 0 0) ((ysP n X hy []).map (·.2)) :=
  ⟨d0,d2,d3,ownsRow_nil _ _ _ _,by omega,by omega,by omega⟩
 have hzz:w.heap.size+4<=w5.heap.size:=by omega
 have HB0:=hid hB0;clear b0 b1 b2 b3 bb hw4 hw r5 B5 c0 c1 c2 c3 bl b5 el5 ba hW0 d0 d1 d2 d3 hB0 HMP hz5
 refine wpIn_rangeFunc_ownG rfl (by omega) (gf:=282) (lb:=#[.pointer (some ⟨w5.heap.size,0,none⟩)]) rfl trivial (enters_of func282 (by kernel_rfl) rfl)
  (yf 2 (by omega) w5.heap.size a n c X HN.out (by omega) W0 hbx) Gt (Gu (w:=W0)) (Below.refl _ _) (fun _=>rfl)
  (fun pre W=>∃ vo vf vs,So w W W0.heap.size w5.heap.size (w.heap.size+1) (.slice a n c) X vo vs ((ysP n X hy pre).map (·.1))/\Pf w W W0.heap.size w.heap.size (w.heap.size+1+1) (w.heap.size+1+1+1) hy (jV (ysP n X hy pre)) vf ((ysP n X hy pre).map (·.2)))
  (fun _ _ _=>False)
  (fun s X Y row hs hg hr=>by obtain⟨vo,vf,vs,h,h'⟩:=hs;exact⟨vo,vf,vs,h.from_other hg hr,h'.from_other hg (fun r e=>(hr r e).2)⟩)
  (fun _ _ _ _ _ hs _ _=>hs)
  ⟨_,_,_,hSo,hPf⟩
  (fun x=>{ tmps:=#[.string s,.bool hy,undef,.pointer (some ⟨w.heap.size,0,none⟩),.pointer (some ⟨w.heap.size+1,0,none⟩),.pointer (some ⟨w.heap.size+1+1,0,none⟩),.pointer (some ⟨w.heap.size+1+1+1,0,none⟩),pcv a x.1,undef,undef,.string s,.slice a n c,.func (.func 282) #[] #[.pointer (some ⟨w5.heap.size,0,none⟩)],pcv a x.1,undef,undef,undef,undef,undef,undef,undef,undef,undef,undef,undef,undef,undef,undef,undef,undef,undef,undef,undef,undef,undef,undef,undef,undef,undef],defers:=[] }) ?assign ?body ?done ?stop
 case assign =>
  intro lp x W K hK;obtain⟨a',k',c',hu⟩:=EY a x.1;rw[hu]at hK;gi_wp2;first | exact hK | (rw[hu];exact hK)
 case body =>
  rintro lp pre x W ⟨vo,vf,vs,hS,hP⟩ hlt;have hel:=hS.bx.el.piece HN.out x;have hll:=zG X n x;have HONE:=hid (AB _ _ hy W (by omega) (Gr HSX.out x.1) hel);have HYS:=hid (CM n X hy pre x);have HAS:=hid (CE (ysP n X hy pre) (one (lab X x.1) hy));have hpl:(ysP n X hy pre).length=pre.length:=by simp[ysP]
  have hol:=rU (lab X x.1) hy (by omega);have ho0:=one_nonneg (lab X x.1) hy;have ho1:=one_le (lab X x.1) hy;obtain⟨a',k',c',hu⟩:=EY a x.1;rw[hu]at HONE ⊢;unfold CI at HONE;obtain⟨⟨l',f⟩,hlf⟩:∃ y,one (lab X x.1) hy=y:=⟨_,rfl⟩;rw[hlf]at HONE HYS HAS hol ho0 ho1;simp only at HONE hol ho0 ho1 HAS;obtain⟨q,hq⟩:=Ex' l'.length;have HQ:=hid hq;rw[hq]at hol;obtain⟨Ys,hYs⟩:=Ex' (ysP n X hy pre);rw[hYs]at hS hP HYS HAS hpl;obtain⟨Y1,hY1⟩:=Ex' (Ys.map (·.1));obtain⟨Y2,hY2⟩:=Ex' (Ys.map (·.2));have HY1:=hid hY1;have HY2:=hid hY2;rw[hY1]at hS;rw[hY2]at hP;obtain⟨m,hm⟩:=Ex' Ys.length;have HM1:Hid (Y1.length=m):=by show _=_;rw[<-hY1,length_map];exact hm
  have HM2:Hid (Y2.length=m):=by show _=_;rw[<-hY2,length_map];exact hm
  have hmb:m<=8193:=by omega
  have HS:=hid hS;have HP:=hid hP;obtain⟨ao,co,hvo⟩:=dT HS.out.out;rw[HM1.out]at hvo;subst hvo;obtain⟨af,cf,hvf⟩:=dU HP.out.flt;rw[HM2.out]at hvf;subst hvf;have hch:=HP.out.bh.cell;obtain⟨rt,hrt⟩:=Ex' (jV Ys);rw[hrt]at HP HAS;clear hu hlf hq hYs hY1 hY2 hm hel hS hP hpl hll hrt hSo hPf hbx;obtain⟨gr,hgr⟩:=Ex' (L.lY l');have HGR:=hid hgr;rw[hgr]at HAS;have HAS':Hid (jV (ysP n X hy (pre++[x]))=(rt||gr)):=by show _=_;rw[HYS.out];exact HAS.out
  clear hgr;cases rt with
  | true =>
   gi_wp2_with (first
   | (gi_at_builtin;refine wpListIn_append_own _ rfl _ _ 132 rfl W0.heap.size 23 i1 (.int .u16 0) 1 2 underlying132 hj hy0 hy1 hy2 rfl (by decide) _ m (Y2.map (Value.int .u16)) rfl (by have h:=HP1.out.flt.alloc (.cells #[.int .u16 f] 23);rw[HM2.out]at h;exact h) ⟨w3.heap.size,0,none⟩ 1 1 [.int .u16 f] rfl rfl (by have h:=cell_one_new (w3.setCell ⟨w.heap.size+1,0,none⟩ (.slice a3 (m+1) c3)) (.int .u16 f) 23;rw[show(w3.setCell ⟨w.heap.size+1,0,none⟩ (.slice a3 (m+1) c3)).heap.size=w3.heap.size by simp]at h;exact h) (by simp[Value.oneCell']) (by unfold maxLen;omega) (by omega) (by have:=HS1.out.b4;simp at this ⊢;omega) ?_;intro v4 w4 r4 g4 _;obtain⟨a4,c4,rfl⟩:=dU r4;have HPU2:=hid (NQ HS1.out HP1.out (by rw[HM2.out];exact r4) g4);have HK2:=hid (((HK1.out.trans (KeepsOthers.alloc _ _)).trans (ft (HP1.out.flt.alloc (.cells #[.int .u16 f] 23)) (by first | exact g4 | (rw[HM2.out];exact g4)))).trans (KeepsOthers.setCell _ ⟨w.heap.size+1+1,0,none⟩ (.slice a4 (m+1) c4)));have hc4:=HPU2.out.1.cell;have hf4:=HPU2.out.1.frozen;have hcr:=HPU2.out.2.2.br.cell;have hfr:=HPU2.out.2.2.br.frozen;have HE4:=hid (HPU2.out.2.1.els.ot HM1.out);clear r4 g4)
   | (gi_at_builtin;refine wpListIn_append_own _ rfl _ _ 136 rfl W0.heap.size 43 i0 (.slice none 0 0) 1 24 underlying136 hi hz0 hz1 hz2 rfl (by decide) _ m vs rfl (by have h:=HS2.out.out.alloc (.cells #[.slice a2 q c2] 43);rw[HM1.out]at h;exact h) ⟨w2.heap.size,0,none⟩ 1 1 [.slice a2 q c2] rfl rfl (cell_one_new _ _ _) (by simp[Value.oneCell']) (by unfold maxLen;omega) (by omega) (by have:=HS2.out.b4;simp;omega) ?_;intro v3 w3 r3 g3 _;obtain⟨a3,c3,rfl⟩:=dT r3;have HPU:=hid (HS2.out.push HE2.out (by rw[HM1.out];exact r3) g3);have HS1:=hid HPU.out.2;have HP1:=hid (HP2.out.pushO HS2.out.out g3 HPU.out.1 (.slice a3 (m+1) c3));have HK1:=hid (((HK0.out.trans (KeepsOthers.alloc _ _)).trans (ft (HS2.out.out.alloc (.cells #[.slice a2 q c2] 43)) (by first | exact g3 | (rw[HM1.out];exact g3)))).trans (KeepsOthers.setCell _ ⟨w.heap.size+1,0,none⟩ (.slice a3 (m+1) c3)));have hc3:=HPU.out.1.cell;have hf3:=HPU.out.1.frozen;have hcf:=HP1.out.bf.cell;clear r3 g3)
   | (refine⟨trivial,?_⟩;gi_at_call 263;refine(CallsIn.inRound lp (callsIn_wide.2 HONE.out)).mono ?_;rintro e w2 ⟨u,rfl,hu,B2⟩;obtain⟨a2,c2,hue⟩:=kL hu;rw[HQ.out]at hue;subst hue;have HE2:=hid hu;have HS2:=hid (HS.out.below B2);have HP2:=hid (HP.out.below B2);have HK0:=hid (L.bQ B2);have hc2:=HS2.out.bo.cell;clear hu B2))
   refine⟨trivial,?_⟩;gi_wp2;have HR:=hid (Ry HPU2.out.2.1 HPU2.out.2.2 true);exact⟨(HK2.out.trans (KeepsOthers.setCell _ _ _)).from _,fun _=>HR.out.1.bx,_,_,_,by rw[HYS.out,map_append,HY1.out];exact HR.out.1,by rw[HAS'.out];rw[HYS.out,map_append,HY2.out];exact HR.out.2⟩
  | false =>
   gi_wp2_with (first
   | (gi_at_builtin;refine wpListIn_append_own _ rfl _ _ 132 rfl W0.heap.size 23 i1 (.int .u16 0) 1 2 underlying132 hj hy0 hy1 hy2 rfl (by decide) _ m (Y2.map (Value.int .u16)) rfl (by have h:=HP1.out.flt.alloc (.cells #[.int .u16 f] 23);rw[HM2.out]at h;exact h) ⟨w3.heap.size,0,none⟩ 1 1 [.int .u16 f] rfl rfl (by have h:=cell_one_new (w3.setCell ⟨w.heap.size+1,0,none⟩ (.slice a3 (m+1) c3)) (.int .u16 f) 23;rw[show(w3.setCell ⟨w.heap.size+1,0,none⟩ (.slice a3 (m+1) c3)).heap.size=w3.heap.size by simp]at h;exact h) (by simp[Value.oneCell']) (by unfold maxLen;omega) (by omega) (by have:=HS1.out.b4;simp at this ⊢;omega) ?_;intro v4 w4 r4 g4 _;obtain⟨a4,c4,rfl⟩:=dU r4;have HPU2:=hid (NQ HS1.out HP1.out (by rw[HM2.out];exact r4) g4);have HK2:=hid (((HK1.out.trans (KeepsOthers.alloc _ _)).trans (ft (HP1.out.flt.alloc (.cells #[.int .u16 f] 23)) (by first | exact g4 | (rw[HM2.out];exact g4)))).trans (KeepsOthers.setCell _ ⟨w.heap.size+1+1,0,none⟩ (.slice a4 (m+1) c4)));have hc4:=HPU2.out.1.cell;have hf4:=HPU2.out.1.frozen;have hcr:=HPU2.out.2.2.br.cell;have hfr:=HPU2.out.2.2.br.frozen;have HE4:=hid (HPU2.out.2.1.els.ot HM1.out);clear r4 g4)
   | (gi_at_builtin;refine wpListIn_append_own _ rfl _ _ 136 rfl W0.heap.size 43 i0 (.slice none 0 0) 1 24 underlying136 hi hz0 hz1 hz2 rfl (by decide) _ m vs rfl (by have h:=HS2.out.out.alloc (.cells #[.slice a2 q c2] 43);rw[HM1.out]at h;exact h) ⟨w2.heap.size,0,none⟩ 1 1 [.slice a2 q c2] rfl rfl (cell_one_new _ _ _) (by simp[Value.oneCell']) (by unfold maxLen;omega) (by omega) (by have:=HS2.out.b4;simp;omega) ?_;intro v3 w3 r3 g3 _;obtain⟨a3,c3,rfl⟩:=dT r3;have HPU:=hid (HS2.out.push HE2.out (by rw[HM1.out];exact r3) g3);have HS1:=hid HPU.out.2;have HP1:=hid (HP2.out.pushO HS2.out.out g3 HPU.out.1 (.slice a3 (m+1) c3));have HK1:=hid (((HK0.out.trans (KeepsOthers.alloc _ _)).trans (ft (HS2.out.out.alloc (.cells #[.slice a2 q c2] 43)) (by first | exact g3 | (rw[HM1.out];exact g3)))).trans (KeepsOthers.setCell _ ⟨w.heap.size+1,0,none⟩ (.slice a3 (m+1) c3)));have hc3:=HPU.out.1.cell;have hf3:=HPU.out.1.frozen;have hcf:=HP1.out.bf.cell;clear r3 g3)
   | (refine⟨trivial,?_⟩;gi_at_call 264;refine(CallsIn.inRound lp (callsIn_wide.2 (L.AP _ l' _ (by have:=HQ.out;omega) (HE4.out.ints)))).mono ?_;rw[HGR.out];rintro e w7 ⟨rfl,B7⟩;have HB7:=hid B7;have hcr7:=(HPU2.out.2.2.below B7).br.cell;have hfr7:=(HPU2.out.2.2.below B7).br.frozen;clear B7)
   | (refine⟨trivial,?_⟩;gi_at_call 263;refine(CallsIn.inRound lp (callsIn_wide.2 HONE.out)).mono ?_;rintro e w2 ⟨u,rfl,hu,B2⟩;obtain⟨a2,c2,hue⟩:=kL hu;rw[HQ.out]at hue;subst hue;have HE2:=hid hu;have HS2:=hid (HS.out.below B2);have HP2:=hid (HP.out.below B2);have HK0:=hid (L.bQ B2);have hc2:=HS2.out.bo.cell;clear hu B2))
   have HR:=hid (Ry (HPU2.out.2.1.below HB7.out) (HPU2.out.2.2.below HB7.out) gr);exact⟨((HK2.out.trans (L.bQ HB7.out)).trans (KeepsOthers.setCell _ _ _)).from _,fun _=>HR.out.1.bx,_,_,_,by rw[HYS.out,map_append,HY1.out];exact HR.out.1,by rw[HAS'.out];rw[HYS.out,map_append,HY2.out];exact HR.out.2⟩
 case done =>
  rintro D ys W hD rfl ⟨vo,vf,vs,hS,hP⟩ hK;have HYS:Hid (ysP n X hy (jP n X)=(spl X).map fun l=>one l hy):=by show _=_;rw[<-HCUT.out,map_map];rfl
  have HPRC:Hid (prc X hy=if jV (ysP n X hy (jP n X))=true then (ysP n X hy (jP n X)).map eI else ysP n X hy (jP n X)):=by show _=_;rw[HYS.out];rfl
  have HYB:Hid (∀ y∈ysP n X hy (jP n X),(0<=y.2/\y.2<=255\/y.2=512)/\y.1.length<=10000):=fun y hy'=>by obtain⟨p,hp,rfl⟩:=List.mem_map.1 hy';exact⟨RR _ hy,rU _ hy (by have:=zG X n p;omega)⟩
  have HYN:Hid ((ysP n X hy (jP n X)).length<=8193):=by show _<=_;rw[HYS.out,length_map];have:=eM X;rw[HN.out]at this;omega
  obtain⟨Ys,hYs⟩:=Ex' (ysP n X hy (jP n X));rw[hYs]at hS hP HPRC HYB HYN;have HQ:=hid (Qr.of hS hP);obtain⟨m,hm⟩:=Ex' Ys.length;rw[hm]at HQ HYN;have HM:=hid hm;obtain⟨ao,co,hvo⟩:=dT HQ.out.out;subst hvo;obtain⟨af,cf,hvf⟩:=dU HQ.out.flt;subst hvf;have HBO:=hid hS.bo;have HBF:=hid hP.bf;have HBE:=hid hS.be;have hb4:=hS.b4;have hcr:=hP.br.cell;have hco:=hS.bo.cell;have hcf:=hP.bf.cell;obtain⟨rt,hrt⟩:=Ex' (jV Ys);rw[hrt]at HPRC hcr;have HK:=hid hK;clear hYs hm hrt hS hP HYS hSo hPf hbx;cases rt with
  | true =>
   have HPX:Hid (prc X hy=Ys.map eI):=HPRC.out;have hmz:m<=100000:=by have:=HYN.out;omega
   gi_wp2_with (refine⟨trivial,?_⟩;gi_at_call 265;refine(callsIn_wide.2 (wE W0.heap.size _ _ m vs Ys W hmz hb4 HYB.out HQ.out)).mono ?_;rintro e w7 ⟨rfl,hq7,B7,K7⟩;have HQ7:=hid hq7;have HB7:=hid B7;have HK7:=hid K7;clear hq7 B7 K7);have HBO7:=hid ((HB7.out.block _ (by omega)).trans HBO.out);have HBF7:=hid ((HB7.out.block _ (by omega)).trans HBF.out);have HBE7:=hid (HBE.out.trans (HB7.out.mono (by omega)));have hK7:=hid (HK7.out.same D _ HK.out rfl);have h1:w7.cell? ⟨w.heap.size+1,0,none⟩=some (.slice ao m co):=Boxed.cell HBO7.out;have h2:w7.cell? ⟨w.heap.size+1+1,0,none⟩=some (.slice af m cf):=Boxed.cell HBF7.out;have h3:w7.frozen? ⟨w.heap.size+1,0,none⟩=false:=Boxed.frozen HBO7.out;have h4:w7.frozen? ⟨w.heap.size+1+1,0,none⟩=false:=Boxed.frozen HBF7.out;have h5:=(aC (t:=132) (t':=136) HBF7.out HBO7.out (by decide) (.slice ao m co)).cell;have h6:=(aC (t:=132) (t':=136) HBF7.out HBO7.out (by decide) (.slice ao m co)).frozen;have HFW:=hid (qL HQ7.out HBO7.out HBF7.out HBE7.out (by omega) (by omega) (by omega) (by omega) hK7.out)
   gi_region
   all_goals gi_wp2
   obtain⟨z1,z2,z3,z4⟩:=HFW.out;refine⟨by simp,.inl ⟨_,_,rfl,run_takeDeferred (by exact z1),?_⟩⟩;have y4:=z4.below ((Below.refl _ _).drew);obtain⟨V,hV⟩:=Ex' (((w7.setCell ⟨w.heap.size+1,0,none⟩ (.slice ao m co)).setCell ⟨w.heap.size+1+1,0,none⟩ (.slice af m cf)).drew.putObj D (.deferred none));have y2:V.cell? ⟨w.heap.size+1,0,none⟩=some (.slice ao m co):=by rw[<-hV];exact z2.cell
   have y3:V.cell? ⟨w.heap.size+1+1,0,none⟩=some (.slice af m cf):=by rw[<-hV];exact z3.cell
   have y5:Pr w V (.slice ao m co) (.slice af m cf) m vs (Ys.map eI):=by rw[<-hV];exact y4
   rw[hV];clear hV z1 z2 z3 z4 y4;refine⟨.tuple #[.slice ao m co,.slice af m cf],?_,⟨_,_,vs,rfl,?_⟩⟩
   ·rw[fL (p:=4) (u:=5) (ty:=136) (tz:=132) rfl];have hl1:(loadVar 136 ⟨w.heap.size+1,0,none⟩).run prog V=.ok (.slice ao m co) V:=by go_simp
    have hl2:(loadVar 132 ⟨w.heap.size+1+1,0,none⟩).run prog V=.ok (.slice af m cf) V:=by go_simp
    simp[asAddr,Result.andThen,hl1,hl2]
   ·rw[HPX.out,length_map,HM.out];exact y5
  | false =>
   have HPX:Hid (prc X hy=Ys):=by show _=_;rw[HPRC.out];rfl
   gi_wp2_with fail;have h1:W.cell? ⟨w.heap.size+1,0,none⟩=some (.slice ao m co):=Boxed.cell HBO.out;have h2:W.cell? ⟨w.heap.size+1+1,0,none⟩=some (.slice af m cf):=Boxed.cell HBF.out;have h3:W.frozen? ⟨w.heap.size+1,0,none⟩=false:=Boxed.frozen HBO.out;have h4:W.frozen? ⟨w.heap.size+1+1,0,none⟩=false:=Boxed.frozen HBF.out;have h5:=(aC (t:=132) (t':=136) HBF.out HBO.out (by decide) (.slice ao m co)).cell;have h6:=(aC (t:=132) (t':=136) HBF.out HBO.out (by decide) (.slice ao m co)).frozen;have HFW:=hid (qL HQ.out HBO.out HBF.out HBE.out (by omega) (by omega) (by omega) (by omega) HK.out)
   gi_region
   all_goals gi_wp2
   obtain⟨z1,z2,z3,z4⟩:=HFW.out;refine⟨by simp,.inl ⟨_,_,rfl,run_takeDeferred (by exact z1),?_⟩⟩;have y4:=z4.below ((Below.refl _ _).drew);obtain⟨V,hV⟩:=Ex' (((W.setCell ⟨w.heap.size+1,0,none⟩ (.slice ao m co)).setCell ⟨w.heap.size+1+1,0,none⟩ (.slice af m cf)).drew.putObj D (.deferred none));have y2:V.cell? ⟨w.heap.size+1,0,none⟩=some (.slice ao m co):=by rw[<-hV];exact z2.cell
   have y3:V.cell? ⟨w.heap.size+1+1,0,none⟩=some (.slice af m cf):=by rw[<-hV];exact z3.cell
   have y5:Pr w V (.slice ao m co) (.slice af m cf) m vs Ys:=by rw[<-hV];exact y4
   rw[hV];clear hV z1 z2 z3 z4 y4;refine⟨.tuple #[.slice ao m co,.slice af m cf],?_,⟨_,_,vs,rfl,?_⟩⟩
   ·rw[fL (p:=4) (u:=5) (ty:=136) (tz:=132) rfl];have hl1:(loadVar 136 ⟨w.heap.size+1,0,none⟩).run prog V=.ok (.slice ao m co) V:=by go_simp
    have hl2:(loadVar 132 ⟨w.heap.size+1+1,0,none⟩).run prog V=.ok (.slice af m cf) V:=by go_simp
    simp[asAddr,Result.andThen,hl1,hl2]
   ·rw[HPX.out,HM.out];exact y5
 case stop =>
  rintro D c pre W _ _ h _;exact h.elim
end I
end Go.Proofs.YtlmflmdmolcfhaaGreatDoor
