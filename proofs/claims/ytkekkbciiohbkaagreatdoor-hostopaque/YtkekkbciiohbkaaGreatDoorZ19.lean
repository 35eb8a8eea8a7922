/- Texts one behind the other: IB IC ID UQ PRA PRB PWK PRC PRD PRE. -/
import Derived.Test.YtkekkbciiohbkaaGreatDoorZ14
import Derived.Test.YtkekkbciiohbkaaGreatDoorZ18
import Derived.Test.YtkekkbciiohbkaaGreatDoorZ2
import Derived.Test.YtkekkbciiohbkaaGreatDoorZ16
import Derived.Deep.Cut
import Derived.Deep.CutRange
set_option maxRecDepth 100000
set_option maxHeartbeats 16000000
set_option linter.unusedVariables false
set_option linter.unnecessarySimpa false
namespace Go.Proofs.YtkekkbciiohbkaaGreatDoor.I
open Go.RowKit
def rdx(T:List Int):Option (List Int):=if 63<T.length then none else if P.asc T=false then none else P.nt T
def one(l:List Int)(hy:Bool):List Int×Int :=
 if L.dh l=false then (l,L.flt l hy) else if plain l=false then (l,512) else match rdx (l.drop 4) with
  | none=>(l,512)
  | some m=>if plain m=true then (l,512) else (m,L.flt m hy)
def jb(xs:List (List Int×Int)):Bool:=xs.any fun x=>L.kE x.1
def dU(x:List Int×Int):List Int×Int:=(x.1,if L.dJ x.1 then x.2 else x.2+256)
def prc(X:List Int)(hy:Bool):List (List Int×Int) :=
 if jb ((spl X).map fun l=>one l hy)=true then ((spl X).map fun l=>one l hy).map dU else (spl X).map fun l=>one l hy
def noF(xs:List (List Int×Int)):Bool:=xs.all fun x=>decide (x.2=0)
theorem one_nonneg(l:List Int)(hy:Bool):0≤(one l hy).2:=by
 unfold one;split
 ·exact fU l hy
 ·split
  ·show(0:Int)≤512;omega
  ·split
   ·show(0:Int)≤512;omega
   ·split
    ·show(0:Int)≤512;omega
    ·exact fU _ hy
theorem qR{l:List Int}{hy:Bool}(h:(one l hy).2=0):L.flt (one l hy).1 hy=0:=by
 unfold one at h ⊢
 split
 ·rename_i h1
  rw[if_pos h1]at h;exact h
 ·rename_i h1
  rw[if_neg h1]at h;split
  ·rename_i h2
   rw[if_pos h2]at h;exact absurd h (show ¬ (512:Int)=0 by omega)
  ·rename_i h2
   rw[if_neg h2]at h;cases hr:rdx (l.drop 4) with
   | none =>
    rw[hr]at h;exact absurd h (show ¬ (512:Int)=0 by omega)
   | some m =>
    rw[hr]at h;simp only at h ⊢
    split
    ·rename_i h3
     rw[if_pos h3]at h;exact absurd h (show ¬ (512:Int)=0 by omega)
    ·rename_i h3
     rw[if_neg h3]at h;exact h
structure Ok(hy:Bool)(ls:List (List Int)):Prop where
 ne:ls≠[]
 flt:∀ l∈ls,L.flt l hy=0
 bidi:ls.any L.kE=true→∀ l∈ls,L.dJ l=true
theorem any_map{α β:Type}(f:α→β)(p:β→Bool):∀ l:List α,(l.map f).any p=l.any (fun x=>p (f x))
 | []=>rfl
 | a::l=>by rw[List.map_cons,List.any_cons,List.any_cons,any_map f p l]
theorem od:∀(ys:List (List Int×Int)),(∀ x∈ys,x.2=0)→ys=(ys.map (·.1)).map (fun l=>(l,0))
 | [],_=>rfl
 | y::ys,h=>by
  have h1:=od ys (fun x hx=>h x (by simp[hx]));have h2:=h y (by simp);rw[List.map_cons,List.map_cons,←h1]
  congr 1
  exact Prod.ext rfl h2
theorem mx{p:Int→Prop}(h46:p 46):∀(xs:List (List Int)),(∀ l∈xs,∀ r∈l,p r)→∀ r∈join xs,p r
 | [],_,r,hr=>by simp[join]at hr
 | [a],hx,r,hr=>hx a (by simp) r hr
 | a::b::l,hx,r,hr=>by
  rw[join]at hr;rcases List.mem_append.1 hr with hr | hr
  ·exact hx a (by simp) r hr
  ·rcases List.mem_cons.1 hr with rfl | hr
   ·exact h46
   ·exact mx h46 (b::l) (fun x hx'=>hx x (by simp at hx' ⊢;exact .inr hx')) r hr
theorem Fv{X:List Int}{hy:Bool}(h:noF (prc X hy)=true):Ok hy ((prc X hy).map (·.1))∧prc X hy=((prc X hy).map (·.1)).map (fun l=>(l,0)):=by
 have hz:∀ x∈prc X hy,x.2=0:=fun x hx=>by simpa using List.all_eq_true.1 h x hx
 obtain⟨a,t,hs⟩:=bL X
 have h2:prc X hy=((prc X hy).map (·.1)).map (fun l=>(l,0)):=by
  exact od _ hz
 refine⟨?_,h2⟩;by_cases hr:jb ((spl X).map fun l=>one l hy)=true
 ·have e:prc X hy=((spl X).map fun l=>one l hy).map dU:=by unfold prc;rw[if_pos hr]
  rw[e]at hz ⊢
  have hb:∀ x∈(spl X).map (fun l=>one l hy),x.2=0∧L.dJ x.1=true:=fun x hx=>by
   have h1:=hz (dU x) (List.mem_map_of_mem hx);obtain⟨l,_,rfl⟩:=List.mem_map.1 hx;have h3:=one_nonneg l hy;unfold dU at h1
   by_cases hk:L.dJ (one l hy).1=true
   ·simp only[hk,if_true]at h1
    exact⟨h1,hk⟩
   ·simp only[hk]at h1
    simp at h1
    omega
  have em:(((spl X).map fun l=>one l hy).map dU).map (·.1)=(spl X).map fun l=>(one l hy).1:=by
   rw[List.map_map,List.map_map];rfl
  rw[em];refine⟨by rw[hs];simp,?_,?_⟩
  ·intro l hl
   obtain⟨y,hy',rfl⟩:=List.mem_map.1 hl;exact qR (hb _ (List.mem_map_of_mem hy')).1
  ·intro _ l hl
   obtain⟨y,hy',rfl⟩:=List.mem_map.1 hl;exact(hb _ (List.mem_map_of_mem hy')).2
 ·have e:prc X hy=(spl X).map fun l=>one l hy:=by unfold prc;rw[if_neg hr]
  rw[e]at hz ⊢;have em:((spl X).map fun l=>one l hy).map (·.1)=(spl X).map fun l=>(one l hy).1:=by rw[List.map_map];rfl
  rw[em];refine⟨by rw[hs];simp,?_,?_⟩
  ·intro l hl
   obtain⟨y,hy',rfl⟩:=List.mem_map.1 hl;exact qR (hz _ (List.mem_map_of_mem hy'))
  ·intro hg
   unfold jb at hr
   rw[any_map]at hr hg;exact absurd hg hr
theorem Fw{hy:Bool}{ls:List (List Int)}(hok:Ok hy ls)(f:List Int→List Int)(hd:∀ l∈ls,46∉f l)(h1:∀ l∈ls,one (f l) hy=(l,0)):prc (join (ls.map f)) hy=ls.map fun l=>(l,0):=by
 have hs:spl (join (ls.map f))=ls.map f:=dA _ (by simpa using hok.ne) (fun a ha=>by
   obtain⟨l,hl,rfl⟩:=List.mem_map.1 ha
   exact hd l hl)
 have hm:(ls.map f).map (fun l=>one l hy)=ls.map fun l=>(l,0):=by
  rw[List.map_map];exact List.map_congr_left (fun l hl=>h1 l hl)
 unfold prc;rw[hs,hm];split
 ·rename_i hr
  unfold jb at hr
  rw[any_map]at hr;have hb:=hok.bidi hr;rw[List.map_map];apply List.map_congr_left;intro l hl
  simp[dU,hb l hl]
 ·rfl
theorem qS{l:List Int}{hy:Bool}(h:L.flt l hy=0):one l hy=(l,0):=by
 unfold one;rw[if_pos (uM h).pre,h]
def Part(l p:List Int):Prop:=(plain l=true∧p=l)∨(plain l=false∧∃ T,P.Enc l T∧T.length≤63∧l.length≤63∧l.all U.az=true∧p=[120,110,45,45]++T)
theorem wS{l T:List Int}(h:P.Enc l T):∀ c∈T,(c∈l∧c<128)∨97≤c∧c≤122∨48≤c∧c≤57∨c=45:=by
 obtain⟨ds,rfl,hr⟩:=h
 have hsg:∀ d,d<36→97≤P.sgn d∧P.sgn d≤122∨48≤P.sgn d∧P.sgn d≤57∨P.sgn d=45:=fun d hd=>by
  unfold P.sgn;split
  ·exact .inl (by omega)
  ·exact .inr (.inl (by omega))
 have hwn:∀(q b k:Nat),∀ c∈P.wn b k q,97≤c∧c≤122∨48≤c∧c≤57∨c=45:=by
  intro q
  induction q using Nat.strongRecOn with
  | ind q ih =>
   intro b k c hc
   have h1:=P.eU k b;have h2:=P.iO k b;rw[P.jc]at hc;split at hc
   ·simp at hc;subst hc;exact hsg _ (by omega)
   ·rename_i hq
    rcases List.mem_cons.1 hc with rfl | hc
    ·exact hsg _ (P.lB b k q hq)
    ·have:=Nat.div_le_self (q - P.thr k b) (36 - P.thr k b)
     exact ih _ (by omega) b (k+36) c hc
 have htx:∀(ds:List Nat) (p:Nat),∀ c∈P.tx p ds,97≤c∧c≤122∨48≤c∧c≤57∨c=45:=by
  intro ds
  induction ds with
  | nil=>intro p c hc;simp[P.tx]at hc
  | cons d ds ih =>
   intro p c hc
   rw[P.tx]at hc;rcases List.mem_append.1 hc with hc | hc
   ·exact ih p c hc
   ·exact hwn _ _ _ c hc
 intro c hc
 rcases List.mem_append.1 hc with hc | hc
 ·unfold P.hd at hc
  split at hc
  ·simp at hc
  ·rcases List.mem_append.1 hc with hc | hc
   ·left
    unfold P.plain at hc
    have:=List.mem_filter.1 hc;exact⟨this.1,by simpa using this.2⟩
   ·simp at hc;exact .inr (.inr (.inr hc))
 ·exact .inr (htx ds _ c hc)
theorem Co(T:List Int):L.dh ([120,110,45,45]++T)=true:=by
 unfold L.dh;exact decide_eq_true rfl
theorem cU{hy:Bool}{l p:List Int}(h:L.flt l hy=0)(hp:Part l p):one p hy=(l,0)∧46∉p∧(∀ c∈p,(0≤c∧c<128)∧(L.sts c=1∨L.sts c=4)):=by
 have hf:=uM h;rcases hp with⟨h1,rfl⟩ | ⟨h1,T,hE,hT,hl,hs,rfl⟩
 ·exact⟨qS h,hf.dot,fun c hc=>⟨cn.1 h1 c hc,hf.val c hc⟩⟩
 ·have hsc:=fun c hc=>P.kQ (List.all_eq_true.1 hs c hc)
  have hch:=wS hE
  have hall:∀ c∈[120,110,45,45]++T,(0≤c∧c<128)∧(L.sts c=1∨L.sts c=4)∧c≠46:=by
   intro c hc
   have key:∀ c:Int,(97≤c∧c≤122∨48≤c∧c≤57∨c=45)→(0≤c∧c<128)∧(L.sts c=1∨L.sts c=4)∧c≠46:=fun c h=>⟨by omega,.inl (fl c (by omega)),by omega⟩
   rcases List.mem_append.1 hc with hc | hc
   ·apply key
    simp at hc;omega
   ·rcases hch c hc with⟨hm,h128⟩ | hk
    ·exact⟨⟨(hsc c hm).1,h128⟩,hf.val c hm,fun e=>hf.dot (e ▸ hm)⟩
    ·exact key c hk
  refine⟨?_,fun hm=>(hall 46 hm).2.2 rfl,fun c hc=>⟨(hall c hc).1,(hall c hc).2.1⟩⟩;obtain⟨hd,ha⟩:=P.DF hE hs hl;have hpl:plain ([120,110,45,45]++T)=true:=cn.2 (fun c hc=>(hall c hc).1);have hdr:([120,110,45,45]++T:List Int).drop 4=T:=rfl;unfold one;rw[if_neg (by rw[Co];decide),if_neg (by rw[hpl];decide),hdr]
  have hr:rdx T=some l:=by
   unfold rdx;rw[if_neg (by omega),if_neg (by rw[ha];decide),hd]
  rw[hr];simp only;rw[if_neg (by rw[h1];decide),h]
theorem Fh{hy:Bool}{ls:List (List Int)}(hok:Ok hy ls)(f:List Int→List Int)(hp:∀ l∈ls,Part l (f l)):prc (Mp (join (ls.map f))) hy=ls.map fun l=>(l,0):=by
 have h1:∀ l∈ls,_:=fun l hl=>cU (hok.flt l hl) (hp l hl)
 have hc:∀ c∈join (ls.map f),(0≤c∧c<128)∧(L.sts c=1∨L.sts c=4):=by
  refine mx (p:=fun c=>(0≤c∧c<128)∧(L.sts c=1∨L.sts c=4)) ⟨by omega,.inl (fl 46 (by omega))⟩ _ (fun a ha=>?_);obtain⟨l,hl,rfl⟩:=List.mem_map.1 ha;exact(h1 l hl).2.2
 have hM:Mp (join (ls.map f))=join (ls.map f):=by
  unfold Mp;rw[j8 _ (fun r hr=>(hc r hr).2)];exact(iA _ (fun c h=>(hc c h).1)).1
 rw[hM];exact Fw hok f (fun l hl=>(h1 l hl).2.1) (fun l hl=>(h1 l hl).1)
def Alt(c:Int)(g:List Int):Prop:=g=[c]∨((97≤c∧c≤122)∧g=[c - 32])∨((97≤c∧c≤122∨48≤c∧c≤57)∧g=U.enc (c+65248))
theorem Alt.same(c:Int):Alt c [c]:=.inl rfl
theorem Alt.cap(c:Int)(h:97≤c∧c≤122):Alt c [c - 32]:=.inr (.inl ⟨h,rfl⟩)
theorem Alt.wide(c:Int)(h:97≤c∧c≤122∨48≤c∧c≤57):Alt c (U.enc (c+65248)):=.inr (.inr ⟨h,rfl⟩)
theorem Alt.cut{c:Int}{motive:(g:List Int)→Alt c g→Prop}(same:motive [c] (Alt.same c))(cap:∀ h,motive [c - 32] (Alt.cap c h))
  (wide:∀ h,motive (U.enc (c+65248)) (Alt.wide c h)) {g:List Int} (h:Alt c g):motive g h:=by
 rcases h with rfl | ⟨h,rfl⟩ | ⟨h,rfl⟩
 ·exact same
 ·exact cap h
 ·exact wide h
def bC:List Int→List Int→Prop
 | [],t=>t=[]
 | c::s,t=>∃ g u,Alt c g∧bC s u∧t=g++u
theorem bC.nil:bC [] []:=rfl
theorem bC.cons{c:Int}{g s t:List Int}(h:Alt c g)(hs:bC s t):bC (c::s) (g++t):=⟨g,t,h,hs,rfl⟩
theorem bC.cut{motive:(s t:List Int)→bC s t→Prop}(nil:motive [] [] bC.nil)
  (cons:∀ {c:Int} {g s t:List Int} (h:Alt c g) (hs:bC s t),motive s t hs→motive (c::s) (g++t) (bC.cons h hs)) :
  ∀ {s t:List Int} (h:bC s t),motive s t h
 | [],t,h=>by
  obtain rfl:t=[]:=h;exact nil
 | c::s,t,h=>by
  obtain⟨g,u,h1,h2,rfl⟩:=h;exact cons h1 h2 (bC.cut nil cons h2)
theorem lC:∀ c:Fin 128,(97≤c.val∧c.val≤122∨48≤c.val∧c.val≤57)→U.az ((c.val:Int)+65248)=true∧(∃ x y z,U.enc ((c.val:Int)+65248)=[x,y,z]∧191<x)∧mpx ((c.val:Int)+65248)=[(c.val:Int)]:=by
 have:∀ c:Fin 128,(97≤c.val∧c.val≤122∨48≤c.val∧c.val≤57)→U.az ((c.val:Int)+65248)=true∧(U.enc ((c.val:Int)+65248)).length=3∧191<(U.enc ((c.val:Int)+65248)).headD 0∧mpx ((c.val:Int)+65248)=[(c.val:Int)]:=by decide +kernel
 intro c h
 obtain⟨h1,h2,h3,h4⟩:=this c h;refine⟨h1,?_,h4⟩
 generalize U.enc ((c.val:Int)+65248)=e at h2 h3
 match e,h2 with
 | [x,y,z],_=>exact⟨x,y,z,rfl,h3⟩
theorem DT:∀ c:Fin 128,(97≤c.val∧c.val≤122)→mpx ((c.val:Int) - 32)=[(c.val:Int)]:=by decide +kernel
theorem uE(c:Int)(h:97≤c∧c≤122∨48≤c∧c≤57):mpx c=[c]:=oh c (.inl (fl c (by omega)))
theorem zd:∀ {s t:List Int},bC s t→∀(f n:Nat) (r lo hi:Int),128≤lo→hi≤191→U.nxl f t n r lo hi=U.nxl f s n r lo hi:=by
 intro s t h
 induction h using bC.cut with
 | nil=>intro f n r lo hi _ _;rfl
 | @cons c g s t ha hs ih =>
  intro f n r lo hi h1 h2
  cases f with
  | zero=>simp[U.nxl]
  | succ f =>
   cases ha using Alt.cut with
   | same =>
    show U.nxl (f+1) (c::t) n r lo hi=_
    rw[U.nxl,U.nxl];split
    ·rfl
    ·exact ih f _ _ _ _ (by omega) (by omega)
   | cap hc =>
    show U.nxl (f+1) ((c - 32)::t) n r lo hi=_
    rw[U.nxl,U.nxl,if_pos (.inl (by omega)),if_pos (.inl (by omega))]
   | wide hc =>
    obtain⟨k,rfl⟩:∃ k:Nat,c=k:=⟨c.toNat,by omega⟩;obtain⟨_,⟨x,y,z,he,hx⟩,_⟩:=lC ⟨k,by omega⟩ (by simp only;omega);simp only at he
    rw[he];show U.nxl (f+1) (x::([y,z]++t)) n r lo hi=_
    rw[U.nxl,U.nxl,if_pos (.inr (by omega)),if_pos (.inl (by omega))]
theorem oI:∀(n:Nat) {s t:List Int},bC s t→(∀ c∈s.take n,128≤c)→bC (s.drop n) (t.drop n)
 | 0,s,t,h,_=>h
 | n+1,[],t,h,_=>by
  obtain rfl:t=[]:=h;simp;exact .nil
 | n+1,c::s,_,⟨g,t,ha,hs,rfl⟩,hc=>by
  have h1:128≤c:=hc c (by simp)
  have h2:g=[c]:=by
   cases ha using Alt.cut with
   | same=>rfl
   | cap h=>omega
   | wide h=>omega
  subst h2;show bC (s.drop n) (t.drop n)
  exact oI n hs (fun x hx=>hc x (by simp[hx]))
theorem qT:∀(f:Nat) (t:List Int) (n:Nat) (r lo hi:Int),128≤lo→∀ c∈t.take ((U.nxl f t n r lo hi).2.1 - n),128≤c
 | 0,t,n,r,lo,hi,_,c,hc=>by simp[U.nxl]at hc
 | f+1,[],n,r,lo,hi,_,c,hc=>by simp at hc
 | f+1,a::t,n,r,lo,hi,h,c,hc=>by
  rw[U.nxl]at hc;split at hc
  ·simp at hc
  ·rename_i hno
   have hm:=(U.uv f t (n+1) (r * 64+a % 64) 128 191).1;obtain⟨m,hm2⟩:∃ m,(U.nxl f t (n+1) (r * 64+a % 64) 128 191).2.1 - n=m+1:=⟨(U.nxl f t (n+1) (r * 64+a % 64) 128 191).2.1 - n - 1,by omega⟩;rw[hm2]at hc;rcases List.mem_cons.1 hc with rfl | hc
   ·omega
   ·exact qT f t (n+1) _ 128 191 (by omega) c (by rw[show(U.nxl f t (n+1) (r * 64+a % 64) 128 191).2.1 - (n+1)=m by omega];exact hc)
theorem CB(a:Int)(t:List Int)(h:128≤a):∀ c∈(a::t).take (U.nx (a::t)).2.1,128≤c:=by
 intro c hc
 rw[U.nx,if_neg (by omega)]at hc;split at hc
 ·simp at hc;omega
 ·have hm:=(U.uv (U.follow a).toNat t 1 (if U.follow a=1 then a % 32 else if U.follow a=2 then a % 16 else a % 8) (U.aP a) (U.aG a)).1
  have ht:=qT (U.follow a).toNat t 1 (if U.follow a=1 then a % 32 else if U.follow a=2 then a % 16 else a % 8) (U.aP a) (U.aG a) (U.gJ a)
  generalize (U.nxl (U.follow a).toNat t 1 (if U.follow a=1 then a % 32 else if U.follow a=2 then a % 16 else a % 8) (U.aP a) (U.aG a)).2.1=m at hc hm ht
  obtain⟨k,rfl⟩:∃ k,m=k+1:=⟨m - 1,by omega⟩;rcases List.mem_cons.1 hc with rfl | hc
  ·exact h
  ·exact ht c (by simpa using hc)
theorem ni:∀ {s t:List Int},bC s t→U.Bytes s→U.Bytes t:=by
 intro s t h
 induction h using bC.cut with
 | nil=>intro h;exact h
 | @cons c g s t ha hs ih =>
  intro hB x hx
  have hc:=hB c (by simp);rcases List.mem_append.1 hx with hx | hx
  ·cases ha using Alt.cut with
   | same=>simp at hx;subst hx;exact hc
   | cap h=>simp at hx;omega
   | wide h =>
    obtain⟨k,rfl⟩:∃ k:Nat,c=k:=⟨c.toNat,by omega⟩;have:∀ c:Fin 128,(97≤c.val∧c.val≤122∨48≤c.val∧c.val≤57)→∀ x∈U.enc ((c.val:Int)+65248),0≤x∧x≤255:=by decide +kernel
    exact this ⟨k,by omega⟩ (by simp only;omega) x hx
  ·exact ih (fun y hy=>hB y (by simp[hy])) x hx
theorem jR:∀(n:Nat) (s t:List Int),s.length≤n→U.Bytes s→bC s t→(U.dec t).flatMap mpx=(U.dec s).flatMap mpx
 | 0,s,t,h,hB,ha=>by
  obtain rfl:s=[]:=List.eq_nil_of_length_eq_zero (by omega);obtain rfl:t=[]:=ha;rfl
 | n+1,s,t,h,hB,ha=>by
  have hBt:=ni ha hB;cases ha using bC.cut with
  | nil=>rfl
  | @cons c g s t hg hs _ =>
   have hBs:U.Bytes s:=fun y hy=>hB y (by simp[hy])
   have hBt':U.Bytes t:=ni hs hBs;by_cases hc:c<128
   ·have e1:(U.dec (c::s)).flatMap mpx=mpx c++(U.dec s).flatMap mpx:=by
     rw[U.bg (c::s) (by simp) hB,U.kv c s hc];rfl
    have ih:=jR n s t (by simp at h;omega) hBs hs;rw[e1,←ih];cases hg using Alt.cut with
    | same =>
     show(U.dec (c::t)).flatMap mpx=_
     rw[U.bg (c::t) (by simp) hBt,U.kv c t hc];rfl
    | cap hk =>
     show(U.dec ((c - 32)::t)).flatMap mpx=_
     rw[U.bg ((c - 32)::t) (by simp) hBt,U.kv (c - 32) t (by omega)];obtain⟨k,rfl⟩:∃ k:Nat,c=k:=⟨c.toNat,by omega⟩;have hm:=DT ⟨k,by omega⟩ (by simp only;omega);simp only at hm
     rw[List.flatMap_cons];show mpx ((k:Int) - 32)++_=_
     rw[hm,uE _ (.inl hk)];rfl
    | wide hk =>
     obtain⟨k,rfl⟩:∃ k:Nat,c=k:=⟨c.toNat,by omega⟩;obtain⟨w1,⟨x,y,z,he,hx⟩,w3⟩:=lC ⟨k,by omega⟩ (by simp only;omega);simp only at w1 w3
     have hne:U.enc ((k:Int)+65248)++t≠[]:=by simp only at he;rw[he];simp
     rw[U.bg _ hne hBt,U.pv _ w1 t,List.drop_left,List.flatMap_cons,w3,uE _ hk]
   ·have h2:g=[c]:=by
     cases hg using Alt.cut with
     | same=>rfl
     | cap h=>omega
     | wide h=>omega
    subst h2
    have hx:U.nx (c::t)=U.nx (c::s):=by
     rw[U.nx,U.nx,if_neg hc,if_neg hc];split
     ·rfl
     ·exact zd hs _ _ _ _ _ (U.gJ c) (U.fR c)
    have hn:=U.j7 (c::s) (by simp);show(U.dec (c::t)).flatMap mpx=_
    rw[U.bg (c::t) (by simp) hBt,U.bg (c::s) (by simp) hB,hx,List.flatMap_cons,List.flatMap_cons]
    congr 1
    have hd:=oI (U.nx (c::s)).2.1 (bC.cons (Alt.same c) hs) (CB c s (by omega));exact jR n _ _ (by rw[List.length_drop];simp at h ⊢;omega) (hB.drop _) hd
def ld(c:Int):Prop:=97≤c∧c≤122∨48≤c∧c≤57
theorem Hz:∀ c:Fin 128,(97≤c.val∧c.val≤122∨48≤c.val∧c.val≤57)→L.mrk (c.val:Int)=false∧L.bid (c.val:Int)≠2∧L.bid (c.val:Int)≠3∧L.bid (c.val:Int)≠7:=by decide +kernel
theorem EK(c:Int)(h:ld c):L.mrk c=false∧L.bid c≠2∧L.bid c≠3∧L.bid c≠7:=by
 unfold ld at h
 obtain⟨k,rfl⟩:∃ k:Nat,c=k:=⟨c.toNat,by omega⟩;exact Hz ⟨k,by omega⟩ (by simp only;omega)
theorem get_mem{l:List Int}{i:Nat}(h:i<l.length):l[i]?.getD 0∈l:=by
 rw[List.getElem?_eq_getElem h];exact List.getElem_mem h
theorem Gf(l:List Int)(hy:Bool)(h:∀ c∈l,ld c):L.flt l hy=0:=by
 by_cases h0:l.length=0
 ·unfold L.flt;rw[if_pos h0]
 ·have hasc:∀ c∈l,0≤c∧c<128:=fun c hc=>by have:=h c hc;unfold ld at this;omega
  have n45:∀ i,i<l.length→l[i]?.getD 0≠45:=fun i hi e=>by have:=h _ (get_mem hi);unfold ld at this;omega
  have e1:(!decide (N.cK l=l))=false:=by rw[decide_eq_true (iA l hasc).1];rfl
  have e2:(hy&&decide (4≤l.length)&&decide (l[2]?.getD 0=45)&&decide (l[3]?.getD 0=45))=false:=by
   by_cases h4:4≤l.length
   ·rw[decide_eq_false (n45 2 (by omega))];simp
   ·rw[decide_eq_false h4];simp
  have e3:(hy&&(decide (l[0]?.getD 0=45)||decide (l[l.length - 1]?.getD 0=45)))=false:=by
   rw[decide_eq_false (n45 0 (by omega)),decide_eq_false (n45 (l.length - 1) (by omega))];simp
  have e4:L.dh l=false:=by
   unfold L.dh;apply decide_eq_false;intro e
   have hm:(45:Int)∈l.take 4:=by rw[e];simp
   have:=h 45 (List.mem_of_mem_take hm);unfold ld at this;omega
  have e5:l.any (fun r=>decide (r=46))=false:=by
   rw[List.any_eq_false];intro r hr
   have:=h r hr;unfold ld at this
   simp;omega
  have e6:L.mrk (l[0]?.getD 0)=false:=(EK _ (h _ (get_mem (by omega)))).1
  have e7:l.any L.et=false:=by
   rw[List.any_eq_false];intro r hr
   have h2:=h r hr;unfold ld at h2
   simp[L.et,fl r (by omega)]
  have e8:L.jok l=true:=by
   unfold L.jok;rw[List.all_eq_true];intro i hi
   have hi':i<l.length:=List.mem_range.1 hi;have h2:=h _ (get_mem hi');unfold ld at h2
   unfold L.jat;rw[decide_eq_false (by omega),decide_eq_false (by omega)];rfl
  rw[kY l hy h0,e1,e2,e3,e4,e5,e6,e7,e8];rfl
theorem zC(l:List Int)(h:∀ c∈l,ld c):L.kE l=false:=by
 unfold L.kE L.has
 have k:∀ b,(b=2∨b=3∨b=7)→(l.any fun r=>decide (L.bid r=b))=false:=fun b hb=>by
  rw[List.any_eq_false];intro r hr
  have:=EK r (h r hr);rcases hb with rfl | rfl | rfl <;> simp[this]
 rw[k 2 (by simp),k 3 (by simp),k 7 (by simp)];rfl
def nu(c:Int):Nat:=if c<128 then 4 else if c<2048 then 2 else if c<65536 then 3 else 4
def nus(l:List Int):Nat:=(l.map nu).sum
theorem CF:nus []=0:=rfl
theorem mi(c:Int)(l:List Int):nus (c::l)=nu c+nus l:=by simp[nus]
theorem mj(a b:List Int):nus (a++b)=nus a+nus b:=by simp[nus]
theorem zg{a b:List Int}(h:a.Perm b):nus a=nus b:=(h.map nu).sum_nat
theorem EH(c:Int):2≤nu c∧nu c≤4:=by unfold nu;(repeat' split) <;> omega
def bs(c:Int):Nat:=if c<128 then 1 else if c<2048 then 2 else if c<65536 then 3 else 4
theorem CY:∀ k∈N.keys,nus (N.fd k)≤8∧128≤k:=by decide +kernel
theorem Ad(c:Int):nus (N.fd c)≤8∧(c<128→nus (N.fd c)≤4)∧(N.fd c=[c]∨c∈N.keys):=by
 by_cases h:D.dcp c=[]
 ·have:=EH c
  rw[N.kd h];have e:nus [c]=nu c:=by rw[mi,CF,Nat.add_zero]
  exact⟨by omega,fun _=>by omega,.inl rfl⟩
 ·have hk:=N.fQ (r:=c) (by simpa using h)
  have:=CY c hk;exact⟨this.1,fun h=>by omega,.inr hk⟩
theorem Gd:∀ c:Fin 128,nus ((mpx (c.val:Int)).flatMap N.fd)≤4:=by decide +kernel
theorem C4:∀ p∈D.kD,nus (p.2.flatMap N.fd)≤8:=by decide +kernel
theorem mL(c:Int):[c].flatMap N.fd=N.fd c:=by simp
theorem Hw(r:Int)(h0:0≤r):nus ((mpx r).flatMap N.fd)≤4 * bs r:=by
 by_cases hr:r<128
 ·obtain⟨k,rfl⟩:∃ k:Nat,r=k:=⟨r.toNat,by omega⟩
  have:=Gd ⟨k,by omega⟩;have e:bs (k:Int)=1:=by unfold bs;rw[if_pos hr]
  rw[e];exact this
 ·have hb:2≤bs r:=by unfold bs;rw[if_neg hr];(repeat' split) <;> omega
  have key:nus ((mpx r).flatMap N.fd)≤8:=by
   unfold mpx;split
   ·rw[mL];exact(Ad r).1
   ·unfold D.mp
    split
    ·simp[nus]
    ·split
     ·unfold D.mpd
      split
      ·rw[mL];exact(Ad _).1
      ·unfold D.inst
       cases h:D.kD.lookup r with
       | none=>simp[nus]
       | some v=>exact C4 _ (D.ez h)
     ·rw[mL];exact(Ad r).1
  omega
theorem Hv(l:List Int)(h:l≠[])(hl:U.Bytes l):(0≤(U.nx l).1∧bs (U.nx l).1≤(U.nx l).2.1)∨((U.nx l).1=65533∧1≤(U.nx l).2.1):=by
 by_cases hw:(U.nx l).2.2=true
 ·left
  have h2:=(U.mg l h hl hw).2.1;have h3:=U.EF l hl;have h4:=congrArg List.length h2;have h5:=U.j7 l h;rw[List.length_take]at h4;have e:(U.enc (U.nx l).1).length=bs (U.nx l).1:=by unfold U.enc bs;(repeat' split) <;> rfl
  exact⟨h3.1,by omega⟩
 ·right
  rcases U.mh l h hl with⟨a,t,rfl,_,_,e⟩ | ⟨a,b,t,rfl,_,_,_,_,e⟩ | ⟨a,b,c,t,rfl,_,_,_,_,_,_,e⟩ | ⟨a,b,c,d,t,rfl,_,_,_,_,_,_,_,_,e⟩ | ⟨n,h1,_,e⟩
  ·rw[e]at hw;exact absurd rfl hw
  ·rw[e]at hw;exact absurd rfl hw
  ·rw[e]at hw;exact absurd rfl hw
  ·rw[e]at hw;exact absurd rfl hw
  ·rw[e];exact⟨rfl,h1⟩
theorem Di:nus ((mpx 65533).flatMap N.fd)≤4:=by decide +kernel
theorem tq:∀(n:Nat) (l:List Int),l.length≤n→U.Bytes l→nus (((U.dec l).flatMap mpx).flatMap N.fd)≤4 * l.length
 | n,[],_,_=>by rw[U.ix];simp[nus]
 | 0,a::t,h,_=>by simp at h
 | n+1,a::t,h,hB=>by
  have hn:=U.j7 (a::t) (by simp);have ih:=tq n ((a::t).drop (U.nx (a::t)).2.1) (by rw[List.length_drop];simp at h ⊢;omega) (hB.drop _);rw[U.bg (a::t) (by simp) hB,List.flatMap_cons,List.flatMap_append,mj];rw[List.length_drop]at ih
  have hf:nus ((mpx (U.nx (a::t)).1).flatMap N.fd)≤4 * (U.nx (a::t)).2.1:=by
   rcases Hv (a::t) (by simp) hB with⟨h0,h1⟩ | ⟨h0,h1⟩
   ·have:=Hw _ h0
    omega
   ·rw[h0]
    have:=Di;omega
  omega
theorem Ft:∀ p∈D.prs,nu p.1≤nu p.2.1+nu p.2.2:=by decide +kernel
def nup(l:List N.Pt):Nat:=nus (l.map (·.1))
theorem mm(a b:List N.Pt):nup (a++b)=nup a+nup b:=by unfold nup;rw[List.map_append,mj]
theorem ml(a:N.Pt)(b:List N.Pt):nup (a::b)=nu a.1+nup b:=by unfold nup;rw[List.map_cons,mi]
theorem Hj{a b q:Int}(h:N.pr a b=(q,true)):nu q≤nu a+nu b:=by
 unfold N.pr D.prf at h
 cases hf:D.prs.find? (fun x=>x.2.1==a&&x.2.2==b) with
 | none=>rw[hf]at h;cases h
 | some p =>
  rw[hf]at h;have hm:=List.mem_of_find?_eq_some hf;have hp:=List.find?_some hf;simp at hp
  have:=Ft p hm;obtain⟨rfl,_⟩:=Prod.mk.inj h;rw[hp.1,hp.2]at this;exact this
theorem xM(t:N.TS)(c:N.Pt):nup (N.aU (N.bD t c))≤nup (N.aU t)+nu c.1:=by
 rcases N.gx t c with h | ⟨A,s,B,q,ht,hr,hq,h⟩
 ·rw[h,N.qd,mm,ml]
  simp[nup,nus]
 ·rw[h,ht]
  have:=Hj hq;simp only[N.aU,mm,ml];omega
theorem qq:∀(l:List N.Pt) (t:N.TS),nup (N.aU (l.foldl N.bD t))≤nup (N.aU t)+nup l
 | [],t=>by simp[nup,nus]
 | c::l,t=>by
  have h1:=qq l (N.bD t c);have h2:=xM t c;rw[List.foldl_cons,ml];omega
theorem FZ(l:List Int):nus (N.cK l)≤nus (l.flatMap N.fd):=by
 unfold N.cK N.comp N.tst;have h1:=qq (N.ord ((l.flatMap N.fd).map N.pt)) (none,[])
 have h2:nup (N.ord ((l.flatMap N.fd).map N.pt))=nus (l.flatMap N.fd):=by
  unfold nup;rw[zg ((N.qQ _).map _),List.map_map]
  congr 1
  exact List.map_id _
 have h3:nup (N.aU ((none,[]):N.TS))=0:=rfl;show nup _≤_
 omega
theorem Io(l:List Int)(hB:U.Bytes l):nus (Mp (U.dec l))≤4 * l.length:=by
 have h1:=FZ ((U.dec l).flatMap mpx);have h2:=tq l.length l (Nat.le_refl _) hB;unfold Mp;omega
end Go.Proofs.YtkekkbciiohbkaaGreatDoor.I
namespace Go.Proofs.YtkekkbciiohbkaaGreatDoor.U
open Go.RowKit
end Go.Proofs.YtkekkbciiohbkaaGreatDoor.U
namespace Go.Proofs.YtkekkbciiohbkaaGreatDoor.P
open Go.RowKit U
structure Rw(l:List Int)(base:Nat)(w wr:World)(v:Value)(k h dl bias:Nat)(n:Int)(j:Nat):Prop where
 n0:128≤n
 n1:n≤1114112
 ex:∃ ds:List Nat,EI l n j dl ds∧(∀ d∈ds,d≤71303231)∧h=(plain l).length+ds.length∧k≤100+71303232 * ds.length∧k=(hd (plain l)++tx (plain l).length ds).length∧bias=bia (plain l).length ds ∧
  wr.ownsRow base 5 1 v k ((hd (plain l)++tx (plain l).length ds).map (Value.int .u8))
 be:Below base w wr
section
variable {l : List Int} {base : Nat} {w wr : World} {v : Value} {k h dl bias : Nat} {n : Int} {j : Nat}
theorem Rw.h_le(s:Rw l base w wr v k h dl bias n j):h≤l.length∧h=(had l n j).length∧(plain l).length≤h:=by
 obtain⟨ds,e,_,hh,_⟩:=s.ex;have:=e.len;have:=ta l n j;omega
theorem Rw.dl_le(s:Rw l base w wr v k h dl bias n j)(hl:l.length≤63):dl≤71303231:=by
 obtain⟨ds,e,_⟩:=s.ex;exact e.bound s.n1 hl
theorem Rw.less(s:Rw l base w wr v k h dl bias n j)(hj:j<l.length)(hx:l[j]?.getD 0<n):Rw l base w wr v k h (dl+1) bias n (j+1):=by
 obtain⟨ds,e,r⟩:=s.ex;exact⟨s.n0,s.n1,⟨ds,e.less hj hx,r⟩,s.be⟩
theorem Rw.more(s:Rw l base w wr v k h dl bias n j)(hj:j<l.length)(hx:n<l[j]?.getD 0):Rw l base w wr v k h dl bias n (j+1):=by
 obtain⟨ds,e,r⟩:=s.ex;exact⟨s.n0,s.n1,⟨ds,e.more hj hx,r⟩,s.be⟩
theorem Rw.pass(s:Rw l base w wr v k h dl bias n l.length)(hn:n≤1114111):Rw l base w wr v k h (dl+1) bias (n+1) 0:=by
 obtain⟨ds,e,r⟩:=s.ex;exact⟨by have:=s.n0;omega,by omega,⟨ds,e.pass,r⟩,s.be⟩
theorem Rw.jump(s:Rw l base w wr v k h dl bias n 0)(m:Int)(hm:lh l n m)(hl:∀ x∈l,x≤1114111)(D:Nat)(hD:(D:Int)=dl+(m - n) * ((h:Int)+1)):Rw l base w wr v k h D bias m 0:=by
 obtain⟨-,hh,-⟩:=s.h_le;obtain⟨ds,e,r⟩:=s.ex;have:=hl m hm.1;exact⟨by have:=s.n0;have:=hm.2.1;omega,by omega,⟨ds,e.jump hm.2.1 hm.2.2 D (by rw[←hh];exact hD),r⟩,s.be⟩
theorem Rw.left(s:Rw l base w wr v k h dl bias n 0)(hl:h<l.length):∃ x∈l,n≤x:=by
 obtain⟨-,hh,-⟩:=s.h_le;exact EI.left (dl:=dl) (ds:=[]) (by omega)
theorem Rw.put(s:Rw l base w wr v k h dl bias n j)(hlen:l.length≤63)(hj:j<l.length)(hx:l[j]?.getD 0=n){X:List Int}(hX:X=hd (plain l)++tx (plain l).length (Classical.choose s.ex)){w2:World}{v2:Value}
  (r2:w2.ownsRow base 5 1 v2 (k+(wn bias 36 dl).length) ((X++wn bias 36 dl).map (Value.int .u8))) (b2:Below base w w2) :
  Rw l base w w2 v2 (k+(wn bias 36 dl).length) (h+1) 0 (adapt dl (h+1) (decide (h=(plain l).length))) n (j+1):=by
 have hdl:=s.dl_le hlen;have hc:=Classical.choose_spec s.ex
 generalize Classical.choose s.ex=ds at *
 obtain⟨e,hds,hh2,hk,hkl,hb,hr⟩:=hc;have hw:=Ex bias 36 dl;refine⟨s.n0,s.n1,⟨dl::ds,e.put hj hx,?_,by rw[List.length_cons];omega,by rw[List.length_cons];omega,?_,?_,?_⟩,b2⟩
 ·intro d hd
  rcases List.mem_cons.mp hd with rfl | hd
  ·exact hdl
  ·exact hds d hd
 ·rw[hkl,tx,←List.append_assoc,List.length_append (bs:=wn _ _ _),hb]
 ·rw[bia,hh2]
  congr 1
  cases ds with
  | nil=>simp
  | cons d ds=>simp
 ·rw[tx,←List.append_assoc,←hX,←hb];exact r2
theorem Rw.fin(s:Rw l base w wr v k h dl bias n 0)(hl:l.length≤h)(h0:∀ x∈l,0≤x):∃ T,(convert 36 9 v).run Tryz.prog wr=.ok (.string T) wr∧Enc l (bn T)∧T.size=k:=by
 obtain⟨-,hh,-⟩:=s.h_le;obtain⟨ds,e,_,hh2,hk,hkl,_,hr⟩:=s.ex;have E:Enc l (hd (plain l)++tx (plain l).length ds):=⟨ds,rfl,e.fin (by omega)⟩;obtain⟨T,h1,h2⟩:=aO wr base v k (hd (plain l)++tx (plain l).length ds) hkl (fun c hc=>by have:=E.ascii h0 c hc;omega) hr;exact⟨T,h1,by rw[h2];exact E,by rw[←aa,h2,hkl]⟩
end
def t1:ByteArray:=⟨#[98,99,104,101,114,45,107,118,97]⟩
def t2:ByteArray:=⟨#[57,57,57,57,57,57,57,57]⟩
theorem av{a b:ByteArray}(h:bn a=bn b):a=b:=by
 have h1:a.data.toList=b.data.toList:=by
  unfold bn at h
  have:Function.Injective fun c:UInt8=>(c.toNat:Int):=fun x y hxy=>UInt8.toNat_inj.mp (by have h:(x.toNat:Int)=(y.toNat:Int):=hxy;omega)
  exact(List.map_inj_right (fun x y hxy=>this hxy)).1 h
 cases a;cases b
 simp at h1
 rw[h1]
theorem kN.ok{l:List Int}{t:ByteArray}{r:Int}{T:List Int}(h:kN l t r)(hl:l.length≤63)(hs:l.all az=true)(hE:Enc l T)(hT:T.length≤63):bn t=T∧r=0:=by
 rcases h with h | h | ⟨_,_,T',hE',h⟩
 ·omega
 ·rw[hs]at h;cases h.2.1
 ·obtain rfl:=hE'.one hE
  rcases h with h | ⟨_,h1,h2⟩
  ·omega
  ·exact⟨h1,h2⟩
theorem nr.ok{l:List Int}{w':World}{base:Nat}{v:Value}{r:Int}{pts:List Int}(h:nr l w' base v r)(hl:l.length≤63)(ha:asc l=true)(hD:nt l=some pts):r=0∧w'.ownsRow base 21 1 v pts.length (pts.map (Value.int .i32)):=by
 rcases h with h | ⟨_,h,_⟩ | ⟨_,_,pts',h1,h2,h3⟩
 ·omega
 ·rcases h with h | h
  ·rw[ha]at h;cases h
  ·rw[hD]at h;cases h
 ·rw[hD]at h1
  obtain rfl:=Option.some.inj h1;exact⟨h2,h3⟩
theorem nr.no{l:List Int}{w':World}{base:Nat}{v:Value}{r:Int}(h:nr l w' base v r)(hl:l.length≤63)(hD:nt l=none):r=8∧v=.slice none 0 0:=by
 rcases h with h | ⟨_,_,h1,h2⟩ | ⟨_,_,pts',h1,h2,h3⟩
 ·omega
 ·exact⟨h2,h1⟩
 ·rw[hD]at h1;cases h1
theorem kN.one{l:List Int}{t t':ByteArray}{r r':Int}(h:kN l t r)(h':kN l t' r'):t=t'∧r=r':=by
 rcases h with⟨a1,a2,a3⟩ | ⟨a1,a2,a3,a4⟩ | ⟨a1,a2,T,a3,a4⟩ <;> rcases h' with⟨b1,b2,b3⟩ | ⟨b1,b2,b3,b4⟩ | ⟨b1,b2,T',b3,b4⟩
 ·exact⟨a2.trans b2.symm,a3.trans b3.symm⟩
 ·omega
 ·omega
 ·omega
 ·exact⟨a3.trans b3.symm,a4.trans b4.symm⟩
 ·rw[a2]at b2;cases b2
 ·omega
 ·rw[a2]at b2;cases b2
 ·obtain rfl:=a3.one b3
  rcases a4 with⟨c1,c2,c3⟩ | ⟨c1,c2,c3⟩ <;> rcases b4 with⟨d1,d2,d3⟩ | ⟨d1,d2,d3⟩
  ·exact⟨c2.trans d2.symm,c3.trans d3.symm⟩
  ·omega
  ·omega
  ·exact⟨av (c2.trans d2.symm),c3.trans d3.symm⟩
def gu(l:List Int):List Int×Int :=
 if 63<l.length then ([],4) else if asc l=false then ([],8) else match nt l with
  | none=>([],8)
  | some pts=>(pts,0)
theorem nr.one{l:List Int}{W:World}{base:Nat}{v:Value}{e:Int}(h:nr l W base v e)(hb:Bytes l):au W v (gu l).1∧e=(gu l).2∧(gu l).1.length≤63:=by
 unfold gu;rcases h with⟨h1,rfl,rfl⟩ | ⟨h1,h2,rfl,rfl⟩ | ⟨h1,h2,pts,h3,rfl,h4⟩
 ·rw[if_pos h1]
  exact⟨.inl ⟨rfl,_,_,rfl⟩,rfl,Nat.zero_le _⟩
 ·rw[if_neg (by omega)]
  split
  ·exact⟨.inl ⟨rfl,_,_,rfl⟩,rfl,Nat.zero_le _⟩
  ·rename_i h3
   rcases h2 with h2 | h2
   ·exact absurd h2 h3
   ·rw[h2]
    exact⟨.inl ⟨rfl,_,_,rfl⟩,rfl,Nat.zero_le _⟩
 ·rw[if_neg (by omega),if_neg (by rw[h2];exact Bool.noConfusion),h3]
  exact⟨au.own rfl h4,rfl,(kZ h3 h2 hb h1).2.2⟩
end Go.Proofs.YtkekkbciiohbkaaGreatDoor.P
