/- Texts one behind the other: NPA NPB IA PPA. -/
import Derived.Test.YtkekkbciiohbkaaGreatDoorZ13
import Derived.RowKit
set_option maxRecDepth 100000
set_option maxHeartbeats 16000000
set_option linter.unusedVariables false
set_option linter.unnecessarySimpa false
namespace Go.Proofs.YtkekkbciiohbkaaGreatDoor.N
open Go.RowKit
theorem nP(y:List Pt):∀(A O S:List Pt),y.foldl stp (A++O,S)=(A++(y.foldl stp (O,S)).1,(y.foldl stp (O,S)).2):=by
 induction y with
 | nil=>intro A O S;rfl
 | cons p y ih =>
  intro A O S
  rw[List.foldl_cons,List.foldl_cons];by_cases hp:p.2=0
  ·have e1:stp (A++O,S) p=(A++(O++cP S++[p]),[]):=by simp[stp,hp]
   have e2:stp (O,S) p=(O++cP S++[p],[]):=by simp[stp,hp]
   rw[e1,e2,ih]
  ·have e1:stp (A++O,S) p=(A++O,S++[p]):=by simp[stp,hp]
   have e2:stp (O,S) p=(O,S++[p]):=by simp[stp,hp]
   rw[e1,e2,ih]
theorem y8(x y:List Pt)(h:y=[]∨∃ p y',y=p::y'∧p.2=0):ord (x++y)=ord x++ord y:=by
 rcases h with rfl | ⟨p,y',rfl,hp⟩
 ·simp[ord,st,cP]
 ·unfold ord st
  rw[List.foldl_append];obtain⟨O,S⟩:=x.foldl stp ([],[]);rw[List.foldl_cons,List.foldl_cons];have e1:stp (O,S) p=((O++cP S)++[p],[]):=by simp[stp,hp]
  have e2:stp ([],[]) p=([p],[]):=by simp[stp,hp,cP]
  rw[e1,e2,nP];simp
theorem y9(p:Pt)(y:List Pt)(hp:p.2=0):∃ z,ord (p::y)=p::z:=by
 unfold ord st;rw[List.foldl_cons];have e2:stp ([],[]) p=([p]++[],[]):=by simp[stp,hp,cP]
 rw[e2,nP];exact⟨_,rfl⟩
theorem qQ(l:List Pt):(ord l).Perm l:=by
 have h:∀ l:List Pt,((st l).1++(st l).2).Perm l:=by
  intro l
  induction l using lP with
  | h0=>exact .refl _
  | h1 l p ih =>
   rw[oV];unfold stp;split
   ·dsimp only
    rw[List.append_nil];exact(((List.Perm.refl _).append (cu _).perm).trans ih).append (.refl [p])
   ·dsimp only
    rw[←List.append_assoc];exact ih.append (.refl [p])
 unfold ord;exact((List.Perm.refl _).append (cu _).perm).trans (h l)
def Pure(l:List Pt):Prop:=∀ x∈l,x=pt x.1
theorem yy(L:List Int):Pure (L.map pt):=fun x hx=>by
 obtain⟨r,_,rfl⟩:=List.mem_map.1 hx;rfl
theorem Pure.perm{a b:List Pt}(h:Pure a)(hp:b.Perm a):Pure b:=fun x hx=>h x (hp.mem_iff.1 hx)
def G7(l:List Pt):Prop:=∀ x∈l,D.dcp x.1=[]
theorem G7.perm{a b:List Pt}(h:G7 a)(hp:b.Perm a):G7 b:=fun x hx=>h x (hp.mem_iff.1 hx)
def okp(p:D.Tri):Bool:=decide (cl p.2.1=0)&&decide (cl p.2.2≠0)&&decide (cl p.1=0)&&decide (D.dcp p.1=[p.2.1,p.2.2])
theorem CA:D.prs.all okp=true:=by kernel_rfl
theorem yG{a b q:Int}(h:pr a b=(q,true)):cl a=0∧cl b≠0∧cl q=0∧D.dcp q=[a,b]:=by
 unfold pr D.prf at h
 cases he:D.prs.find? (fun x=>x.2.1==a&&x.2.2==b) with
 | none=>rw[he]at h;simp at h
 | some p =>
  rw[he]at h;have hm:=List.mem_of_find?_eq_some he;have hf:=List.find?_some he;simp only[Bool.and_eq_true,beq_iff_eq]at hf;have:=List.all_eq_true.1 CA _ hm;simp only[okp,Bool.and_eq_true,decide_eq_true_eq]at this;obtain⟨⟨⟨h1,h2⟩,h3⟩,h4⟩:=this;simp only[Prod.mk.injEq,and_true]at h;rw[hf.1]at h1 h4;rw[hf.2]at h2 h4;rw[h]at h3 h4;exact⟨h1,h2,h3,h4⟩
theorem gx(t:TS)(c:Pt):bD t c=app t c∨∃ A s B q,t=(some (A,s),B)∧rch B c=true∧pr s.1 c.1=(q,true)∧bD t c=(some (A,(q,s.2)),B):=by
 obtain⟨_ | ⟨A,s⟩,B⟩:=t
 ·exact .inl (lG rfl)
 ·by_cases h:rch B c=true∧(pr s.1 c.1).2=true
  ·refine .inr ⟨A,s,B,(pr s.1 c.1).1,rfl,h.1,by rw[←h.2],?_⟩
   unfold bD;dsimp only;rw[if_pos h]
  ·left
   unfold bD app
   dsimp only
   rw[if_neg h];rfl
theorem sQ(b:List Int)(h:b=[]∨∃ r b',b=r::b'∧cl r=0):(b.flatMap fd).map pt=[]∨∃ p y',(b.flatMap fd).map pt=p::y'∧p.2=0:=by
 rcases h with rfl | ⟨r,b',rfl,hr⟩
 ·exact .inl rfl
 ·have h1:=(Af r).1
  have h2:=Dl hr;cases hf:fd r with
  | nil=>rw[hf]at h1;simp at h1
  | cons c l =>
   rw[hf]at h2;exact .inr ⟨pt c,(l++b'.flatMap fd).map pt,by simp[hf],h2⟩
def pre(X:List Pt):TS→TS
 | (some (A,s),B)=>(some (X++A,s),B)
 | (none,B)=>(none,X++B)
theorem vz(X A B:List Pt)(s c:Pt):bD (some (X++A,s),B) c=pre X (bD (some (A,s),B) c)∧∃ A' s' B',bD (some (A,s),B) c=(some (A',s'),B'):=by
 unfold bD
 dsimp only
 split
 ·exact⟨rfl,_,_,_,rfl⟩
 ·split
  ·exact⟨by simp[pre],_,_,_,rfl⟩
  ·exact⟨rfl,_,_,_,rfl⟩
theorem vC(y:List Pt):∀(X A B:List Pt) (s:Pt),aU (y.foldl bD (some (X++A,s),B))=X++aU (y.foldl bD (some (A,s),B)):=by
 induction y with
 | nil=>intro X A B s;simp[aU]
 | cons c y ih =>
  intro X A B s
  rw[List.foldl_cons,List.foldl_cons];obtain⟨h1,A',s',B',h2⟩:=vz X A B s c;rw[h1,h2];exact ih X A' B' s'
theorem lE(t:TS)(p:Pt)(hp:p=pt p.1)(h0:p.2=0):bD t p=(some (aU t,p),[]):=by
 rcases gx t p with h | ⟨A,s,B,q,ht,hr,hq,h⟩
 ·rw[h];unfold app;rw[if_pos h0]
 ·have:=(yG hq).2.1
  have h2:p.2=cl p.1:=by rw[hp];rfl
  omega
theorem w9(x y:List Pt)(h:y=[]∨∃ p y',y=p::y'∧p.2=0∧p=pt p.1):comp (x++y)=comp x++comp y:=by
 rcases h with rfl | ⟨p,y',rfl,h0,hp⟩
 ·simp[comp,tst,aU]
 ·unfold comp tst
  rw[List.foldl_append,List.foldl_cons,List.foldl_cons,lE _ p hp h0,lE _ p hp h0];have:=vC y' (aU (x.foldl bD (none,[]))) [] [] p;rw[List.append_nil]at this;exact this
theorem zo(a b:List Int)(h:b=[]∨∃ r b',b=r::b'∧cl r=0):cK (a++b)=cK a++cK b:=by
 unfold cK;have hb:=sQ b h;rw[List.flatMap_append,List.map_append,y8 _ _ hb,w9,List.map_append];rcases hb with hb | ⟨p,y',hb,h0⟩
 ·rw[hb];exact .inl rfl
 ·have hp:p=pt p.1:=yy _ p (by rw[hb];simp)
  rw[hb];obtain⟨z,hz⟩:=y9 p y' h0;exact .inr ⟨p,z,hz,h0,hp⟩
end Go.Proofs.YtkekkbciiohbkaaGreatDoor.N
namespace Go.Proofs.YtkekkbciiohbkaaGreatDoor.I
open Go.RowKit
def join:List (List Int)→List Int
 | []=>[]
 | [a]=>a
 | a::b::l=>a++46::join (b::l)
def spl:List Int→List (List Int)
 | []=>[[]]
 | c::l=>if c=46 then []::spl l else match spl l with
  | []=>[[c]]
  | a::t=>(c::a)::t
theorem bL:∀ l,∃ a t,spl l=a::t
 | []=>⟨[],[],rfl⟩
 | c::l=>by
  obtain⟨a,t,h⟩:=bL l;by_cases hc:c=46
  ·exact⟨[],spl l,by rw[spl,if_pos hc]⟩
  ·exact⟨c::a,t,by rw[spl,if_neg hc,h]⟩
theorem tT:∀(a l:List Int),46∉a→spl (a++46::l)=a::spl l
 | [],l,_=>by rw[List.nil_append,spl,if_pos rfl]
 | c::a,l,h=>by
  have h1:¬ c=46:=fun e=>h (by simp[e])
  rw[List.cons_append,spl,if_neg h1,tT a l (fun hm=>h (by simp[hm]))]
theorem cS:∀(a:List Int),46∉a→spl a=[a]
 | [],_=>rfl
 | c::a,h=>by
  have h1:¬ c=46:=fun e=>h (by simp[e])
  rw[spl,if_neg h1,cS a (fun hm=>h (by simp[hm]))]
theorem dA:∀ ls:List (List Int),ls≠[]→(∀ a∈ls,46∉a)→spl (join ls)=ls
 | [],h,_=>absurd rfl h
 | [a],_,h=>cS a (h a (by simp))
 | a::b::l,_,h=>by
  rw[join,tT a _ (h a (by simp)),dA (b::l) (by simp) (fun x hx=>h x (by simp at hx ⊢;exact .inr hx))]
theorem qy:∀(l:List Int),∀ a∈spl l,46∉a
 | [],a,h=>by simp[spl]at h;simp[h]
 | c::l,a,h=>by
  obtain⟨b,t,hb⟩:=bL l;have ih:=qy l;by_cases hc:c=46
  ·rw[spl,if_pos hc]at h
   rcases List.mem_cons.1 h with rfl | h
   ·simp
   ·exact ih a h
  ·rw[spl,if_neg hc,hb]at h
   rw[hb]at ih;rcases List.mem_cons.1 h with rfl | h
   ·intro hm
    rcases List.mem_cons.1 hm with e | hm
    ·exact hc e.symm
    ·exact ih b (by simp) hm
   ·exact ih a (by simp[h])
theorem gL:∀(l:List Int),join (spl l)=l
 | []=>rfl
 | c::l=>by
  obtain⟨b,t,hb⟩:=bL l;have ih:=gL l;by_cases hc:c=46
  ·rw[spl,if_pos hc,hb]
   rw[hb]at ih;rw[join,ih,hc];rfl
  ·rw[spl,if_neg hc,hb]
   rw[hb]at ih;cases t with
   | nil=>rw[join]at ih ⊢;rw[ih]
   | cons d t=>rw[join]at ih ⊢;rw[List.cons_append,ih]
def mpx(r:Int):List Int:=if L.sts r=0 then [r] else D.mp r
def Mp(l:List Int):List Int:=N.cK (l.flatMap mpx)
theorem oh(r:Int)(h:L.sts r=1∨L.sts r=4):mpx r=[r]:=by
 have e:L.sts r=(D.fnd r).2.2.1:=rfl;unfold mpx D.mp;rw[←e,if_neg (by omega),if_neg (by omega),if_neg (by omega)]
theorem j8:∀(l:List Int),(∀ r∈l,L.sts r=1∨L.sts r=4)→l.flatMap mpx=l
 | [],_=>rfl
 | r::l,h=>by
  rw[List.flatMap_cons,oh r (h r (by simp)),j8 l (fun x hx=>h x (by simp[hx]))];rfl
theorem CP(r:Int)(h:L.mrk r=false):N.cl r=0 :=
 L.pH (fun x=>x.2.2.2.2.2.2.1=false→x.2.2.2.2.2.1=0) (by decide +kernel) (by decide +kernel) r h
def Beg(X:List Int):Prop:=X=[]∨∃ r b',X=r::b'∧N.cl r=0
def plain(l:List Int):Bool:=l.all fun c=>decide (0≤c)&&decide (c<128)
theorem cn{l:List Int}:plain l=true↔∀ c∈l,0≤c∧c<128:=by
 unfold plain;rw[List.all_eq_true];exact⟨fun h c hc=>by simpa using h c hc,fun h c hc=>by simpa using h c hc⟩
theorem xg:∀ c:Fin 128,N.cK [(c.val:Int)]=[(c.val:Int)]∧N.cl (c.val:Int)=0:=by decide +kernel
theorem AO(c:Int)(h:0≤c∧c<128):N.cK [c]=[c]∧N.cl c=0:=by
 obtain⟨k,rfl⟩:∃ k:Nat,c=k:=⟨c.toNat,by omega⟩;exact xg ⟨k,by omega⟩
theorem iA:∀(l:List Int),(∀ c∈l,0≤c∧c<128)→N.cK l=l∧Beg l
 | [],_=>⟨rfl,.inl rfl⟩
 | c::l,h=>by
  have hc:=AO c (h c (by simp));have ih:=iA l (fun x hx=>h x (by simp[hx]));refine⟨?_,.inr ⟨c,l,rfl,hc.2⟩⟩;have:c::l=[c]++l:=rfl;rw[this,N.zo [c] l ih.2,hc.1,ih.1]
theorem Ge:∀ c:Fin 128,(97≤c.val∧c.val≤122∨48≤c.val∧c.val≤57∨c.val=45∨c.val=46)→L.sts (c.val:Int)=1:=by decide +kernel
theorem fl(c:Int)(h:97≤c∧c≤122∨48≤c∧c≤57∨c=45∨c=46):L.sts c=1:=by
 obtain⟨k,rfl⟩:∃ k:Nat,c=k:=⟨c.toNat,by omega⟩;exact Ge ⟨k,by omega⟩ (by simp only;omega)
theorem jO{b:Bool}{v:Int}(hv:0<v)(h:L.bt b v=0):b=false:=by
 cases b
 ·rfl
 ·simp[L.bt]at h;omega
theorem cD(b:Bool)(v:Int)(hv:0<v):0≤L.bt b v:=by unfold L.bt;split <;> omega
theorem kY(l:List Int)(hy:Bool)(h:¬ l.length=0):L.flt l hy=L.bt (!decide (N.cK l=l)) 1+L.bt (hy&&decide (4≤l.length)&&decide (l[2]?.getD 0=45)&&decide (l[3]?.getD 0=45)) 2+L.bt (hy&&(decide (l[0]?.getD 0=45)||decide (l[l.length - 1]?.getD 0=45))) 4 +
  (L.bt (L.dh l) 8+L.bt (l.any (fun r=>decide (r=46))) 16)+L.bt (L.mrk (l[0]?.getD 0)) 32+(L.bt (l.any L.et) 64+L.bt (!L.jok l) 128):=by
 unfold L.flt L.qs;rw[if_neg h];simp only[L.sm,Nat.reduceAdd,Nat.zero_add,Int.reducePow];omega
theorem fU(l:List Int)(hy:Bool):0≤L.flt l hy:=by
 by_cases h:l.length=0
 ·unfold L.flt;rw[if_pos h];exact Int.le_refl _
 ·rw[kY l hy h]
  have h1:=cD (!decide (N.cK l=l)) 1 (by omega);have h2:=cD (hy&&decide (4≤l.length)&&decide (l[2]?.getD 0=45)&&decide (l[3]?.getD 0=45)) 2 (by omega);have h3:=cD (hy&&(decide (l[0]?.getD 0=45)||decide (l[l.length - 1]?.getD 0=45))) 4 (by omega);have h4:=cD (L.dh l) 8 (by omega);have h5:=cD (l.any (fun r=>decide (r=46))) 16 (by omega);have h6:=cD (L.mrk (l[0]?.getD 0)) 32 (by omega);have h7:=cD (l.any L.et) 64 (by omega);have h8:=cD (!L.jok l) 128 (by omega);omega
structure Ew(l:List Int):Prop where
 nfc:N.cK l=l
 beg:Beg l
 pre:L.dh l=false
 dot:46∉l
 val:∀ r∈l,L.sts r=1∨L.sts r=4
theorem uM{l:List Int}{hy:Bool}(h:L.flt l hy=0):Ew l:=by
 by_cases h0:l.length=0
 ·obtain rfl:l=[]:=List.length_eq_zero_iff.1 h0
  exact⟨rfl,.inl rfl,by decide,by simp,by simp⟩
 ·rw[kY l hy h0]at h
  have h1:=cD (!decide (N.cK l=l)) 1 (by omega);have h2:=cD (hy&&decide (4≤l.length)&&decide (l[2]?.getD 0=45)&&decide (l[3]?.getD 0=45)) 2 (by omega);have h3:=cD (hy&&(decide (l[0]?.getD 0=45)||decide (l[l.length - 1]?.getD 0=45))) 4 (by omega);have h4:=cD (L.dh l) 8 (by omega);have h5:=cD (l.any (fun r=>decide (r=46))) 16 (by omega);have h6:=cD (L.mrk (l[0]?.getD 0)) 32 (by omega);have h7:=cD (l.any L.et) 64 (by omega);have h8:=cD (!L.jok l) 128 (by omega);have e1:=jO (v:=1) (by omega) (show L.bt (!decide (N.cK l=l)) 1=0 by omega);have e4:=jO (v:=8) (by omega) (show L.bt (L.dh l) 8=0 by omega);have e5:=jO (v:=16) (by omega) (show L.bt (l.any (fun r=>decide (r=46))) 16=0 by omega);have e6:=jO (v:=32) (by omega) (show L.bt (L.mrk (l[0]?.getD 0)) 32=0 by omega);have e7:=jO (v:=64) (by omega) (show L.bt (l.any L.et) 64=0 by omega);refine⟨by simpa using e1,?_,e4,?_,?_⟩
  ·cases l with
   | nil=>exact .inl rfl
   | cons r t=>exact .inr ⟨r,t,rfl,CP r e6⟩
  ·intro hm
   have:=List.any_eq_false.1 e5 46 hm;simp at this
  ·intro r hr
   have:=List.any_eq_false.1 e7 r hr;simp[L.et]at this;omega
end Go.Proofs.YtkekkbciiohbkaaGreatDoor.I
namespace Go.Proofs.YtkekkbciiohbkaaGreatDoor.P
def thr(k b:Nat):Nat:=if k≤b then 1 else if b+26≤k then 26 else k - b
theorem eU(k b:Nat):1≤thr k b:=by unfold thr;split;omega;split <;> omega
theorem iO(k b:Nat):thr k b≤26:=by unfold thr;split;omega;split <;> omega
def kz:Nat→Nat→Nat→Nat
 | 0,d,k=>k+36 * d / (d+38)
 | f+1,d,k=>if d > 455 then kz f (d / 35) (k+36) else k+36 * d / (d+38)
def gK(d k:Nat):Nat:=kz (d+1) d k
theorem oo:∀(f g d k:Nat),d<f→d<g→kz f d k=kz g d k
 | 0,_,_,_,h,_=>absurd h (Nat.not_lt_zero _)
 | _+1,0,_,_,_,h=>absurd h (Nat.not_lt_zero _)
 | f+1,g+1,d,k,h1,h2=>by
  rw[kz,kz];split
  ·exact oo f g _ _ (by omega) (by omega)
  ·rfl
theorem qY(d k:Nat):gK d k=if d > 455 then gK (d / 35) (k+36) else k+36 * d / (d+38):=by
 show kz (d+1) d k=_
 rw[kz];split
 ·exact oo _ _ _ _ (by omega) (by omega)
 ·rfl
def adapt(d p:Nat)(first:Bool):Nat:=gK ((if first then d / 700 else d / 2)+(if first then d / 700 else d / 2) / p) 0
def sgn(d:Nat):Int:=if d<26 then 97+d else 22+d
def wnF(b:Nat):Nat→Nat→Nat→List Int
 | 0,_,q=>[sgn q]
 | f+1,k,q=>if q<thr k b then [sgn q] else sgn (thr k b+(q - thr k b) % (36 - thr k b))::wnF b f (k+36) ((q - thr k b) / (36 - thr k b))
def wn(b k q:Nat):List Int:=wnF b (q+1) k q
theorem tM(b:Nat):∀(f g k q:Nat),q<f→q<g→wnF b f k q=wnF b g k q
 | 0,_,_,_,h,_=>absurd h (Nat.not_lt_zero _)
 | _+1,0,_,_,_,h=>absurd h (Nat.not_lt_zero _)
 | f+1,g+1,k,q,h1,h2=>by
  have h3:=eU k b;have h4:=Nat.div_le_self (q - thr k b) (36 - thr k b);rw[wnF,wnF];split
  ·rfl
  ·rw[tM b f g _ _ (by omega) (by omega)]
theorem jc(b k q:Nat):wn b k q=if q<thr k b then [sgn q] else sgn (thr k b+(q - thr k b) % (36 - thr k b))::wn b (k+36) ((q - thr k b) / (36 - thr k b)):=by
 have h3:=eU k b;have h4:=Nat.div_le_self (q - thr k b) (36 - thr k b);show wnF b (q+1) k q=_
 rw[wnF];split
 ·rfl
 ·rw[tM b q ((q - thr k b) / (36 - thr k b)+1) _ _ (by omega) (Nat.lt_succ_self _)]
  rfl
def dg(c:Int):Option Nat :=
 if 97≤c∧c≤122 then some (c - 97).toNat else if 65≤c∧c≤90 then some (c - 65).toNat else if 48≤c∧c≤57 then some (c - 22).toNat else none
def low(c:Int):Int:=if 65≤c∧c≤90 then c+32 else c
def rn(b k i w:Nat):List Int→Option (Nat×List Int)
 | []=>none
 | c::cs=>match dg c with
  | none=>none
  | some d=>if 2147483647<i+d * w then none else if d<thr k b then some (i+d * w,cs)
   else if 2147483647<w * (36 - thr k b) then none else rn b (k+36) (i+d * w) (w * (36 - thr k b)) cs
theorem At(d:Nat)(h:d<36):dg (sgn d)=some d:=by
 unfold dg sgn;by_cases h1:d<26
 ·rw[if_pos h1,if_pos (by omega)];congr 1;omega
 ·rw[if_neg h1,if_neg (by omega),if_neg (by omega),if_pos (by omega)];congr 1;omega
theorem yo(c:Int)(d:Nat)(h:dg c=some d):low c=sgn d∧d<36:=by
 unfold dg at h
 unfold low sgn;split at h
 ·obtain rfl:=Option.some.inj h
  rw[if_neg (by omega),if_pos (by omega)];omega
 ·split at h
  ·obtain rfl:=Option.some.inj h
   rw[if_pos (by omega),if_pos (by omega)];omega
  ·split at h
   ·obtain rfl:=Option.some.inj h
    rw[if_neg (by omega),if_neg (by omega)];omega
   ·cases h
theorem o4(d:Nat)(h:d<36):45<sgn d∧sgn d<128:=by
 unfold sgn;split <;> omega
theorem lB(b k q:Nat)(h:¬ q<thr k b):thr k b+(q - thr k b) % (36 - thr k b)<36:=by
 have h1:=eU k b;have h2:=iO k b;have:=Nat.mod_lt (q - thr k b) (show 0<36 - thr k b by omega);omega
theorem xA(b k q:Nat):∀ c∈wn b k q,45<c∧c<128:=by
 induction q using Nat.strongRecOn generalizing k with
 | ind q ih =>
  intro c hc
  have h1:=eU k b;have h2:=iO k b;rw[jc]at hc;split at hc
  ·simp at hc;subst hc;exact o4 _ (by omega)
  ·rename_i hq
   rcases List.mem_cons.mp hc with rfl | hc
   ·exact o4 _ (lB b k q hq)
   ·have:=Nat.div_le_self (q - thr k b) (36 - thr k b)
    exact ih _ (by omega) _ c hc
theorem EZ(b k q:Nat):1≤(wn b k q).length:=by
 rw[jc];split <;> simp
theorem Hh(b:Nat)(rest:List Int):∀(q k i w:Nat),1≤w→i+q * w≤2147483647→q * w≤71303168→(k≤b+36→∃ j,k=36 * (j+1)∧w=35 ^ j) →
  rn b k i w (wn b k q++rest)=some (i+q * w,rest):=by
 intro q
 induction q using Nat.strongRecOn with
 | ind q ih =>
  intro k i w hw hs hb hinv
  have h1:=eU k b;have h2:=iO k b;rw[jc];by_cases hq:q<thr k b
  ·rw[if_pos hq]
   simp only[List.cons_append,List.nil_append,rn,At q (by omega)];rw[if_neg (by omega),if_pos hq]
  ·rw[if_neg hq]
   have hd:=lB b k q hq
   generalize ht:thr k b=t at *
   have hmod:=Nat.mod_add_div (q - t) (36 - t);have hlt:=Nat.mod_lt (q - t) (show 0<36 - t by omega)
   generalize hr:(q - t) % (36 - t)=r at *
   generalize hQ:(q - t) / (36 - t)=Q at *
   have hQq:Q<q:=by have:=Nat.div_le_self (q - t) (36 - t);omega
   have e:q=t+r+(36 - t) * Q:=by omega
   have eqw:q * w=(t+r) * w+Q * (w * (36 - t)):=by
    rw[e,Nat.add_mul];congr 1;rw[Nat.mul_comm (36 - t) Q,Nat.mul_assoc,Nat.mul_comm w]
   simp only[List.cons_append,rn,At _ hd]
   have hw':w * (36 - t)≤2147483647:=by
    have hwq:w≤q * w:=by
     have:1 * w≤q * w:=Nat.mul_le_mul_right w (by omega);omega
    by_cases h6:t<6
    ·have hk:k<b+6:=by
      unfold thr at ht
      split at ht
      ·omega
      ·split at ht <;> omega
     obtain⟨j,hkj,hwj⟩:=hinv (by omega)
     have hj:j≤5:=by
      apply Nat.le_of_not_lt;intro hj
      have:35 ^ 6≤35 ^ j:=Nat.pow_le_pow_right (by omega) hj;have e6:(35:Nat) ^ 6=1838265625:=by decide
      omega
     have h5:35 ^ j≤35 ^ 5:=Nat.pow_le_pow_right (by omega) hj;have e5:(35:Nat) ^ 5=52521875:=by decide
     have:w * (36 - t)≤52521875 * 35:=Nat.mul_le_mul (by omega) (by omega);omega
    ·have:w * (36 - t)≤71303168 * 30:=Nat.mul_le_mul (by omega) (by omega)
     omega
   rw[ht,if_neg (by omega),if_neg (by omega),if_neg (by omega),ih Q hQq (k+36) _ _ (Nat.mul_pos hw (by omega)) (by omega) (by omega) ?_]
   ·congr 2;omega
   ·intro hk
    have hkb:k≤b:=by omega
    obtain⟨j,hkj,hwj⟩:=hinv (by omega);refine⟨j+1,by omega,?_⟩;have:t=1:=by unfold thr at ht;rw[if_pos hkb]at ht;omega
    rw[this,hwj,Nat.pow_succ]
theorem lX(b:Nat):∀(cs:List Int) (k i w j:Nat) (rest:List Int),rn b k i w cs=some (j,rest) →
  j≤2147483647∧rest.length<cs.length∧(∃ q,j=i+q * w∧cs.map low=wn b k q++rest.map low)∧∃ m,rest=cs.drop m
 | [],_,_,_,_,_,h=>by simp[rn]at h
 | c::cs,k,i,w,j,rest,h=>by
  rw[rn]at h;cases hd:dg c with
  | none=>simp[hd]at h
  | some d =>
   obtain⟨hl,hlt⟩:=yo c d hd;rw[hd]at h;simp only at h
   split at h
   ·cases h
   ·split at h
    ·rename_i h1 h2
     obtain⟨rfl,rfl⟩:=Prod.mk.inj (Option.some.inj h);refine⟨by omega,by simp,⟨d,rfl,?_⟩,1,rfl⟩;rw[jc,if_pos h2,List.map_cons,hl];rfl
    ·split at h
     ·cases h
     ·rename_i h1 h2 h3
      obtain⟨a1,a2,⟨q,rfl,a4⟩,m,a5⟩:=lX b cs _ _ _ _ _ h;refine⟨a1,by simp;omega,⟨d+(36 - thr k b) * q,?_,?_⟩,m+1,by simpa using a5⟩
      ·rw[Nat.add_mul,Nat.mul_comm (36 - thr k b) q,Nat.mul_assoc,Nat.mul_comm (36 - thr k b) w,Nat.add_assoc]
      ·have t1:=eU k b;have t2:=iO k b
       have hn:¬ d+(36 - thr k b) * q<thr k b:=by omega
       rw[jc,if_neg hn,List.map_cons,hl]
       generalize thr k b=t at *
       have e:d+(36 - t) * q - t=(d - t)+(36 - t) * q:=by omega
       have e1:(d+(36 - t) * q - t) % (36 - t)=d - t:=by
        rw[e,Nat.add_mul_mod_self_left,Nat.mod_eq_of_lt (by omega)]
       have e2:(d+(36 - t) * q - t) / (36 - t)=q:=by
        rw[e,Nat.add_mul_div_left _ _ (by omega),Nat.div_eq_of_lt (by omega),Nat.zero_add]
       rw[e1,e2,show t+(d - t)=d by omega,a4];rfl
structure St where
 n:Int
 i:Nat
 pts:List Int
def St.step(s:St)(d:Nat):St :=
 ⟨s.n+((s.i+d) / (s.pts.length+1):Nat),(s.i+d) % (s.pts.length+1)+1,
   s.pts.take ((s.i+d) % (s.pts.length+1))++(s.n+((s.i+d) / (s.pts.length+1):Nat))::s.pts.drop ((s.i+d) % (s.pts.length+1))⟩
def run(pl:List Int):List Nat→St
 | []=>⟨128,0,pl⟩
 | d::ds=>(run pl ds).step d
def bia(p:Nat):List Nat→Nat
 | []=>72
 | d::ds=>adapt d (p+ds.length+1) ds.isEmpty
def tx(p:Nat):List Nat→List Int
 | []=>[]
 | d::ds=>tx p ds++wn (bia p ds) 36 d
theorem lD(p:Nat):∀ ds,∀ c∈tx p ds,45<c∧c<128
 | [],c,h=>by simp[tx]at h
 | d::ds,c,h=>by
  rcases List.mem_append.mp h with h | h
  ·exact lD p ds c h
  ·exact xA _ _ _ c h
theorem xJ(p:Nat):∀ ds,ds.length≤(tx p ds).length
 | []=>by simp
 | d::ds=>by
  have:=xJ p ds;have:=EZ (bia p ds) 36 d;simp[tx];omega
theorem qv(s:St)(d:Nat):(s.step d).pts.length=s.pts.length+1:=by
 have:=Nat.mod_lt (s.i+d) (show 0<s.pts.length+1 by omega);simp[St.step];omega
theorem dv(pl:List Int):∀ ds,(run pl ds).pts.length=pl.length+ds.length
 | []=>rfl
 | d::ds=>by rw[run,qv,dv pl ds];simp;omega
theorem Hg(pl:List Int)(ds:List Nat):((run pl ds).i==0)=ds.isEmpty:=by
 cases ds with
 | nil=>rfl
 | cons d ds=>simp[run,St.step]
theorem ji(s:St)(d:Nat):∀ x,x∈(s.step d).pts↔x=(s.step d).n∨x∈s.pts:=by
 intro x
 simp only[St.step,List.mem_append,List.mem_cons];have e:=List.take_append_drop ((s.i+d) % (s.pts.length+1)) s.pts
 have:x∈s.pts↔x∈s.pts.take ((s.i+d) % (s.pts.length+1))∨x∈s.pts.drop ((s.i+d) % (s.pts.length+1)):=by
  conv=>lhs;rw[←e]
  exact List.mem_append
 rw[this]
 constructor
 ·rintro(h | h | h) <;> simp[h]
 ·rintro(h | h | h) <;> simp[h]
structure Fits(s:St):Prop where
 le:s.i≤s.pts.length
 lo:∀ x∈s.pts.take s.i,x≤s.n
 hi:∀ x∈s.pts.drop s.i,x<s.n
theorem Fits.all{s:St}(h:Fits s):∀ x∈s.pts,x≤s.n:=by
 intro x hx
 rw[←List.take_append_drop s.i s.pts]at hx;rcases List.mem_append.mp hx with hx | hx
 ·exact h.lo x hx
 ·exact Int.le_of_lt (h.hi x hx)
theorem Fits.step{s:St}(h:Fits s)(d:Nat):Fits (s.step d):=by
 have hlt:=Nat.mod_lt (s.i+d) (show 0<s.pts.length+1 by omega);have hdm:=Nat.div_add_mod (s.i+d) (s.pts.length+1);unfold St.step
 generalize (s.i+d) % (s.pts.length+1)=r at *
 generalize (s.i+d) / (s.pts.length+1)=q at *
 have hl:(s.pts.take r).length=r:=by rw[List.length_take];omega
 refine⟨by simp;omega,?_,?_⟩
 ·intro x hx
  have hx:x∈(s.pts.take r++(s.n+(q:Int))::s.pts.drop r).take (r+1):=hx
  have e:(s.pts.take r++(s.n+(q:Int))::s.pts.drop r).take (r+1)=s.pts.take r++[s.n+(q:Int)]:=by
   rw[List.take_append,hl,List.take_of_length_le (by omega)];simp
  rw[e]at hx;show x≤s.n+(q:Int)
  rcases List.mem_append.mp hx with hx | hx
  ·have:=h.all x (List.mem_of_mem_take hx);omega
  ·simp at hx;omega
 ·intro x hx0
  have hx:x∈(s.pts.take r++(s.n+(q:Int))::s.pts.drop r).drop (r+1):=hx0
  have e:(s.pts.take r++(s.n+(q:Int))::s.pts.drop r).drop (r+1)=s.pts.drop r:=by
   rw[List.drop_append,hl,List.drop_of_length_le (by omega)];simp
  rw[e]at hx;clear hx0 e;show x<s.n+(q:Int)
  by_cases hq:q=0
  ·rw[hq]at hdm
   have:s.i≤r:=by simp at hdm;omega
   have hy:x∈s.pts.drop s.i:=by
    obtain⟨u,rfl⟩:∃ u,r=s.i+u:=⟨r - s.i,by omega⟩;rw[←List.drop_drop]at hx;exact List.mem_of_mem_drop hx
   have:=h.hi x hy;omega
  ·have:=h.all x (List.mem_of_mem_drop hx);omega
theorem jD(pl:List Int)(h:∀ x∈pl,x<128):∀ ds,Fits (run pl ds)
 | []=>⟨Nat.zero_le _,by simp[run],by simpa[run]using h⟩
 | d::ds=>(jD pl h ds).step d
theorem ub(pl:List Int):∀ ds,128≤(run pl ds).n
 | []=>by simp[run]
 | d::ds=>by
  have:=ub pl ds;show 128≤(run pl ds).n+((((run pl ds).i+d) / ((run pl ds).pts.length+1):Nat):Int)
  have:=Int.natCast_nonneg (((run pl ds).i+d) / ((run pl ds).pts.length+1))
  generalize ((((run pl ds).i+d) / ((run pl ds).pts.length+1):Nat):Int)=z at *
  omega
theorem ue(pl:List Int)(h:∀ x∈pl,x<128):∀ ds,(run pl ds).pts.filter (fun x=>decide (x<128))=pl
 | []=>by
  rw[run,List.filter_eq_self];intro x hx;simpa using h x hx
 | d::ds=>by
  have ih:=ue pl h ds;have hn:=ub pl (d::ds);rw[run]at hn ⊢;simp only[St.step]at hn ⊢
  generalize (run pl ds).n+(((run pl ds).i+d) / ((run pl ds).pts.length+1):Nat)=n at *
  rw[List.filter_append,List.filter_cons,if_neg (by simp;omega),←List.filter_append,List.take_append_drop,ih]
theorem uf(pl:List Int)(h:∀ x∈pl,x<128):∀ ds es:List Nat,(run pl ds).pts=(run pl es).pts→ds=es
 | [],es,e=>by
  have:=congrArg List.length e;rw[dv,dv]at this;have:es.length=0:=by rw[List.length_nil]at this;omega
  exact(List.eq_nil_of_length_eq_zero this).symm
 | d::ds,[],e=>by
  have:=congrArg List.length e;rw[dv,dv]at this;simp at this
 | d::ds,f::es,e=>by
  have A:=jD pl h (d::ds);have B:=jD pl h (f::es);have am:(run pl (d::ds)).n∈(run pl (d::ds)).pts:=(ji _ _ _).mpr (.inl rfl);have bm:(run pl (f::es)).n∈(run pl (f::es)).pts:=(ji _ _ _).mpr (.inl rfl)
  have en:(run pl (d::ds)).n=(run pl (f::es)).n:=by
   have:=A.all _ (e ▸ bm);have:=B.all _ (e ▸ am);omega
  have place:∀(s:St) (d:Nat),∃ k,(s.step d).i=k+1∧k<(s.step d).pts.length∧(s.step d).pts[k]? = some (s.step d).n∧k≤s.pts.length∧s.pts=(s.step d).pts.take k++(s.step d).pts.drop (k+1):=by
   intro s d
   have hlt:=Nat.mod_lt (s.i+d) (show 0<s.pts.length+1 by omega);refine⟨(s.i+d) % (s.pts.length+1),rfl,by rw[qv];omega,?_,by omega,?_⟩
   ·simp only[St.step]
    rw[List.getElem?_append_right (by rw[List.length_take];omega),List.length_take,show(s.i+d) % (s.pts.length+1) - min ((s.i+d) % (s.pts.length+1)) s.pts.length=0 by omega];rfl
   ·simp only[St.step]
    generalize (s.i+d) % (s.pts.length+1)=r at *
    have hl:(s.pts.take r).length=r:=by rw[List.length_take];omega
    have e1:(s.pts.take r++(s.n+((s.i+d) / (s.pts.length+1):Nat))::s.pts.drop r).drop (r+1)=s.pts.drop r:=by
     rw[List.drop_append,hl,List.drop_of_length_le (by omega)];simp
    have e2:(s.pts.take r++(s.n+((s.i+d) / (s.pts.length+1):Nat))::s.pts.drop r).take r=s.pts.take r:=by
     rw[List.take_append,hl,List.take_of_length_le (by omega)];simp
    rw[e1,e2,List.take_append_drop]
  obtain⟨k,hk,hkl,hkn,hk2,hkp⟩:=place (run pl ds) d;obtain⟨m,hm,hml,hmn,hm2,hmp⟩:=place (run pl es) f;have hA:=A.hi;have hB:=B.hi;simp only[run]at e en hA hB;rw[hk]at hA;rw[hm]at hB
  have ekm:k=m:=by
   rcases Nat.lt_trichotomy k m with hlt | heq | hlt
   ·exfalso
    have:((run pl es).step f).n<((run pl ds).step d).n:=hA _ (by
      rw[List.mem_iff_getElem?]
      refine⟨m - (k+1),?_⟩
      rw[List.getElem?_drop,e,show k+1+(m - (k+1))=m by omega];exact hmn)
    omega
   ·exact heq
   ·exfalso
    have:((run pl ds).step d).n<((run pl es).step f).n:=hB _ (by
      rw[List.mem_iff_getElem?]
      refine⟨k - (m+1),?_⟩
      rw[List.getElem?_drop,←e,show m+1+(k - (m+1))=k by omega];exact hkn)
    omega
  subst ekm;have ep:(run pl ds).pts=(run pl es).pts:=by rw[hkp,hmp,e]
  obtain rfl:=uf pl h ds es ep;have e1:=en;simp only[St.step]at e1
  have e2:((run pl ds).i+d) % ((run pl ds).pts.length+1)=((run pl ds).i+f) % ((run pl ds).pts.length+1):=by
   have:=hk.trans hm.symm;simp only[St.step]at this;omega
  have e3:((run pl ds).i+d) / ((run pl ds).pts.length+1)=((run pl ds).i+f) / ((run pl ds).pts.length+1):=by omega
  have a1:=Nat.div_add_mod ((run pl ds).i+d) ((run pl ds).pts.length+1);have a2:=Nat.div_add_mod ((run pl ds).i+f) ((run pl ds).pts.length+1);rw[e2,e3]at a1;have:d=f:=by omega
  rw[this]
end Go.Proofs.YtkekkbciiohbkaaGreatDoor.P
