/- Contracts and plain facts. -/
import Derived.Test.YtlmflmdmolcfhaaGreatDoorZ8
import Derived.Lib.IndexMore
import Derived.ArgAppend
import Derived.Laws.Bits64b
import Derived.Shelf.Strings.Search3
import Derived.Shelf.Strings.Cut
import Derived.Shelf.Strings.Replace
set_option maxRecDepth 100000
set_option maxHeartbeats 16000000
set_option linter.unusedVariables false
set_option linter.unnecessarySimpa false
open Nat (le_refl zero_add le_trans lt_of_lt_of_le zero_le mul_one add_comm)
open List (getElem?_eq_getElem length_append length_take append_assoc length_drop take_left length_cons map_cons)
open Go.Lib (count_miss)
namespace Go.Proofs.YtlmflmdmolcfhaaGreatDoor
open Tryz Go.RowKit
namespace X
theorem zC(p:List Int):lst false p=(pc p).map (fun v=>[v]):=by unfold lst;rw[if_neg (by decide)]
theorem Fa:∀ ps:List (List Int),pcs false ps=al ps
 | []=>rfl
 | [p]=>by
  show lst false p=put (pc p) (some []);rw[zC];cases pc p <;> rfl
 | p::q::r=>by have ih:=Fa (q::r);show put (pc p) (pcs false (q::r))=put (pc p) (al (q::r));rw[ih]
theorem jG{l:List Int}:rwd l=pieces false l\/(rwd l=none/\∀ L,pieces false l=some L->8<L.length):=by
 unfold rwd pieces;by_cases h:l=[]
 ·left;rw[if_pos h,if_pos h]
 ·rw[if_neg h,if_neg h,Fa];by_cases h8:(spB 58 l).length<=8
  ·left;rw[if_pos h8]
  ·right;rw[if_neg h8];exact⟨rfl,fun L hL=>by rw[yx _ L hL];omega⟩
theorem vz(l:List Int):full (rwd l)=full (pieces false l):=by
 rcases jG (l:=l) with h | ⟨h,h2⟩
 ·rw[h]
 ·rw[h];cases hp:pieces false l with
  | none=>rfl
  | some L =>
   have:=h2 L hp;show none=if L.length=8 then some L else none;rw[if_neg (by omega)]
theorem wh(f b:List Int):both (rwd f) (rwd b)=both (pieces false f) (pieces false b):=by
 have no1:∀ o:Option (List Nat),both none o=none:=fun o=>by cases o <;> rfl
 have no2:∀ o:Option (List Nat),both o none=none:=fun o=>by cases o <;> rfl
 have big:∀ F B:List Nat,7<F.length+B.length->both (some F) (some B)=none:=fun F B h=>by show(if F.length+B.length<=7 then _ else none)=none;rw[if_neg (by omega)]
 rcases jG (l:=f) with h | ⟨h,h2⟩ <;> rcases jG (l:=b) with g | ⟨g,g2⟩ <;> rw[h,g]
 ·rw[no2];cases hb:pieces false b with
  | none=>rw[no2]
  | some B =>
   cases hf:pieces false f with
   | none=>rw[no1]
   | some F=>rw[big F B (by have:=g2 B hb;omega)]
 ·rw[no1];cases hb:pieces false b with
  | none=>rw[no2]
  | some B =>
   cases hf:pieces false f with
   | none=>rw[no1]
   | some F=>rw[big F B (by have:=h2 F hf;omega)]
 ·rw[no1];cases hb:pieces false b with
  | none=>rw[no2]
  | some B =>
   cases hf:pieces false f with
   | none=>rw[no1]
   | some F=>rw[big F B (by have:=h2 F hf;omega)]
theorem vM{p:List Int}(h:¬ 46∈p):dt p=none:=by unfold dt;rw[fK 46 p h];show ma [dn p]=none;exact qH (by simp)
theorem qz{p:List Int}(h:dt p=none):lst true p=lst false p:=by unfold lst;rw[if_pos rfl,if_neg (by decide),h]
theorem Pm{p:List Int}(h:46∈p):pc p=none:=by
 unfold pc;rw[if_neg];intro hh;have:=(List.all_eq_true.1 hh.2.2) 46 h
 revert this
 decide
theorem qp{p:List Int}(h:dt p=none):∀ ps:List (List Int),ps.getLast? = some p->pcs true ps=pcs false ps
 | [],_=>rfl
 | [q],e=>by
  have:q=p:=by simpa using e
  subst this;exact qz h
 | q::r::s,e=>by have ih:=qp h (r::s) (by simpa using e);show put (pc q) (pcs true (r::s))=put (pc q) (pcs false (r::s));rw[ih]
theorem EZ{p:List Int}(h:lst true p=none):∀ ps:List (List Int),ps.getLast? = some p->pcs true ps=none
 | [],e=>by cases e
 | [q],e=>by
  have:q=p:=by simpa using e
  subst this;exact h
 | q::r::s,e=>by have ih:=EZ h (r::s) (by simpa using e);show put (pc q) (pcs true (r::s))=none;rw[ih];cases pc q <;> rfl
theorem zm{p qa qb:List Int}{a b:Nat}(h:lst true p=some [a,b])(ha:pc qa=some a)(hb:pc qb=some b):∀ ps:List (List Int),pcs true (ps++[p])=pcs false (ps++[qa,qb])
 | []=>by
  show lst true p=put (pc qa) (lst false qb);rw[zC,h,ha,hb];rfl
 | q::r=>by
  have ih:=zm h ha hb r
  have e1:pcs true (q::(r++[p]))=put (pc q) (pcs true (r++[p])):=by
   cases r with
   | nil=>rfl
   | cons _ _=>rfl
  have e2:pcs false (q::(r++[qa,qb]))=put (pc q) (pcs false (r++[qa,qb])):=by
   cases r with
   | nil=>rfl
   | cons _ _=>rfl
  show pcs true (q::(r++[p]))=pcs false (q::(r++[qa,qb]));rw[e1,e2,ih]
def Frn(X:List Int):Prop:=X=[]\/∃ Y,X=Y++[58]
theorem Ee{X:List Int}(hX:Frn X):∃ L:List (List Int),∀ p:List Int,spB 58 (X++p)=L++spB 58 p:=by
 rcases hX with rfl | ⟨Y,rfl⟩
 ·exact⟨[],fun p=>rfl⟩
 ·refine⟨spB 58 Y,fun p=>?_⟩;rw[append_assoc];exact lf 58 Y p
theorem yR{X p:List Int}(hX:Frn X)(hp:¬ 58∈p):(spB 58 (X++p)).getLast? = some p:=by obtain⟨L,h⟩:=Ee hX;rw[h,fK 58 p hp];simp
theorem kr{l p:List Int}(hl:(spB 58 l).getLast? = some p)(h:dt p=none):pieces true l=pieces false l:=by unfold pieces;rw[qp h _ hl]
theorem qn{l p:List Int}(hl:(spB 58 l).getLast? = some p)(h:lst true p=none)(hp:p≠[]):pieces true l=none:=by unfold pieces;rw[if_neg,EZ h _ hl];intro e;rw[e]at hl;exact hp (by simpa[spB]using hl.symm)
theorem gq:∀ l:List Int,cc l≠0->∃ A B,l=A++58::58::B/\cc (A++[58])=0
 | [],h=>absurd rfl h
 | [a],h=>absurd rfl h
 | a::b::t,h=>by
  by_cases hab:a=58/\b=58
  ·exact⟨[],t,by rw[hab.1,hab.2];rfl,rfl⟩
  ·rw[cn,if_neg hab,zero_add]at h;obtain⟨A,B,h1,h2⟩:=gq (b::t) h;refine⟨a::A,B,by rw[h1];rfl,?_⟩;cases A with
   | nil =>
    have hb:b=58:=by have h5:b::t=58::58::B:=h1;exact(List.cons.inj h5).1
    show cc (a::58::[])=0;rw[cn,if_neg (fun hh=>hab ⟨hh.1,hb⟩)];rfl
   | cons c A =>
    have hb:b=c:=by have h5:b::t=c::(A++58::58::B):=h1;exact(List.cons.inj h5).1
    show cc (a::c::(A++[58]))=0;rw[cn,if_neg (fun hh=>hab ⟨hh.1,hb.trans hh.2⟩)];rw[zero_add];exact h2
theorem BV{B:List Int}(h:cc (58::B)≠0):[]∈spB 58 B/\B≠[]:=by
 cases B with
 | nil=>exact absurd rfl h
 | cons b t =>
  refine⟨?_,by simp⟩;by_cases hb:b=58
  ·rw[hb,spB,if_pos rfl];simp
  ·rw[cn,if_neg (fun hh=>hb hh.2),zero_add]at h;obtain⟨A,B,h1,_⟩:=gq (b::t) h;rw[h1];have e:spB 58 (A++58::58::B)=spB 58 A++spB 58 (58::B):=lf 58 A (58::B);have e2:spB 58 (58::B)=[]::spB 58 B:=if_pos rfl;rw[e,e2];simp
theorem qh{B:List Int}(h:cc (58::B)≠0):rwd B=none:=by
 obtain⟨h1,h2⟩:=BV h;unfold rwd;rw[if_neg h2];split
 ·exact Ag h1 rfl
 ·rfl
theorem Ix{A B:List Int}(h:cc (A++[58])=0):cc (A++58::58::B)=1+cc (58::B):=by
 have e:A++58::58::B=(A++[58])++(58::B):=by simp
 rw[e,ff,h,if_pos ⟨by simp,by simp⟩];omega
def pp(l:List Int):Option (List Nat):=if cc l=0 then full (rwd l) else both (rwd (l.take (cp l))) (rwd (l.drop (cp l+2)))
theorem EM{A B:List Int}(h:cc (A++[58])=0):pp (A++58::58::B)=both (rwd A) (rwd B):=by
 have hc:=Ix (B:=B) h;unfold pp;rw[if_neg (by omega),zX A B h];have t1:(A++58::58::B).take A.length=A:=take_left;have t2:(A++58::58::B).drop (A.length+2)=B:=by rw[<-List.drop_drop,List.drop_left];rfl
 rw[t1,t2]
theorem nN{A B:List Int}(h:cc (A++[58])=0):prs (A++58::58::B)=if cc (58::B)=0 then both (pieces false A) (pieces true B) else none:=by
 have hc:=Ix (B:=B) h;unfold prs;rw[if_neg (by omega),zX A B h];have t1:(A++58::58::B).take A.length=A:=take_left;have t2:(A++58::58::B).drop (A.length+2)=B:=by rw[<-List.drop_drop,List.drop_left];rfl
 rw[t1,t2];by_cases h0:cc (58::B)=0
 ·rw[if_pos (by omega),if_pos h0]
 ·rw[if_neg (by omega),if_neg h0]
theorem jk(o:Option (List Nat)):both o none=none:=by cases o <;> rfl
theorem lK{A B:List Int}:(spB 58 (A++58::58::B)).getLast? = (spB 58 B).getLast? := by
 have e:spB 58 (A++58::58::B)=spB 58 A++spB 58 (58::B):=lf 58 A (58::B);have e2:spB 58 (58::B)=[]::spB 58 B:=if_pos rfl;rw[e,e2];cases h:spB 58 B with
 | nil=>exact absurd h (lh 58 B)
 | cons x y =>
  have e3:spB 58 A++[]::x::y=(spB 58 A++[[]])++(x::y):=by simp
  rw[e3,List.getLast?_append];cases h6:(x::y).getLast? with
  | none=>simp at h6
  | some v=>rfl
theorem EL{X p:List Int}(hX:Frn X)(hp:¬ 58∈p)(hd:¬ 46∈p):pp (X++p)=prs (X++p):=by
 have hl:=yR hX hp;obtain⟨l,e⟩:=Ex' (X++p);rw[e]at hl ⊢;by_cases h0:cc l=0
 ·unfold pp prs;rw[if_pos h0,if_pos h0,vz,kr hl (vM hd)]
 ·obtain⟨A,B,rfl,hA⟩:=gq l h0;rw[EM hA,nN hA];rw[lK]at hl;by_cases h1:cc (58::B)=0
  ·rw[if_pos h1,wh,kr hl (vM hd)]
  ·rw[if_neg h1,qh h1,jk]
theorem AU{X p:List Int}(hX:Frn X)(hp:¬ 58∈p)(hd:46∈p)(h:dt p=none):prs (X++p)=none:=by
 have hl:=yR hX hp;have hlst:lst true p=none:=by rw[qz h];unfold lst;rw[if_neg (by decide),Pm hd];rfl
 have hne:p≠[]:=fun e=>by rw[e]at hd;cases hd
 obtain⟨l,e⟩:=Ex' (X++p);rw[e]at hl ⊢;by_cases h0:cc l=0
 ·unfold prs;rw[if_pos h0,qn hl hlst hne];rfl
 ·obtain⟨A,B,rfl,hA⟩:=gq l h0;rw[nN hA];rw[lK]at hl;split
  ·rw[qn hl hlst hne,jk]
  ·rfl
theorem KX{X p:List Int}{a b:Nat}(hX:Frn X)(hp:¬ 58∈p)(hd:46∈p)(h:dt p=some [a,b])(ha:a<65536)(hb:b<65536):pp (X++(aU false false a++58::aU false false b))=prs (X++p):=by
 have hlst:lst true p=some [a,b]:=by unfold lst;rw[if_pos rfl,h]
 have hne:p≠[]:=fun e=>by rw[e]at hd;cases hd
 have qa:=oE (cap:=false) (nts:=false) ha;have qb:=oE (cap:=false) (nts:=false) hb;have pa:=mD (cap:=false) (nts:=false) ha;have pb:=mD (cap:=false) (nts:=false) hb;obtain⟨q1,hq1⟩:=Ex' (aU false false a);obtain⟨q2,hq2⟩:=Ex' (aU false false b);rw[hq1]at qa pa ⊢;rw[hq2]at qb pb ⊢;have pieces_eq:∀ Z:List Int,Frn Z->pieces true (Z++p)=pieces false (Z++(q1++58::q2)):=fun Z hZ=>by obtain⟨L,hL⟩:=Ee hZ;unfold pieces;rw[if_neg (fun e=>hne (List.append_eq_nil_iff.1 e).2),if_neg (fun e=>by simp at e)];rw[hL,hL,fK 58 p hp,lf,fK 58 q1 qa.2,fK 58 q2 qb.2];exact zm hlst pa pb L
 have hq0:cc (q1++58::q2)=0:=by have e:(58::q2)=[58]++q2:=rfl;rw[ff,jj q1 qa.2,e,ff,jj q2 qb.2,if_neg (fun hh=>head_ne qb hh.2),if_neg (fun hh=>sk qa hh.1)];rfl
 have hph:p.head? ≠ some 58:=fun e=>hp (List.mem_of_mem_head? e)
 have hqh:(q1++58::q2).head? ≠ some 58:=by
  cases hq:q1 with
  | nil=>exact absurd hq qa.1
  | cons c t =>
   have:=head_ne qa;rw[hq]at this;simpa using this
 have ccp:∀ Z:List Int,cc (Z++p)=cc Z:=fun Z=>by rw[ff,jj p hp,if_neg (fun hh=>hph hh.2)];rfl
 have ccq:∀ Z:List Int,cc (Z++(q1++58::q2))=cc Z:=fun Z=>by rw[ff,hq0,if_neg (fun hh=>hqh hh.2)];rfl
 by_cases h0:cc X=0
 ·unfold pp prs;rw[if_pos (by rw[ccq];exact h0),if_pos (by rw[ccp];exact h0),vz,pieces_eq X hX]
 ·obtain⟨A,B,rfl,hA⟩:=gq X h0
  have hB:Frn B:=by
   rcases hX with e | ⟨Y,e⟩
   ·simp at e
   ·rcases List.eq_nil_or_concat B with e2 | ⟨B',c,e2⟩
    ·exact .inl e2
    ·right;refine⟨B',?_⟩;rw[e2]at e ⊢;have e3:(A++58::58::B')++[c]=Y++[58]:=by simpa using e
     have:=(List.append_inj' e3 rfl).2;simpa using this
  have e1:(A++58::58::B)++p=A++58::58::(B++p):=by simp
  have e2:(A++58::58::B)++(q1++58::q2)=A++58::58::(B++(q1++58::q2)):=by simp
  rw[e1,e2,EM hA,nN hA];have c1:cc (58::(B++p))=cc (58::B):=ccp (58::B);have c2:cc (58::(B++(q1++58::q2)))=cc (58::B):=ccq (58::B);by_cases h1:cc (58::B)=0
  ·rw[if_pos (by rw[c1];exact h1),wh,pieces_eq B hB]
  ·rw[if_neg (by rw[c1];exact h1),qh (B:=B++(q1++58::q2)) (by rw[c2];exact h1),jk]
theorem uY:∀ l:List UInt8,(cc (nn l)=0/\Lib.index l [58,58]=-1)\/(cc (nn l)≠0/\Lib.index l [58,58]=(cp (nn l):Int))
 | []=>.inl ⟨rfl,rfl⟩
 | [a]=>by
  left;refine⟨rfl,?_⟩;have e:([58,58]:List UInt8).isPrefixOf [a]=false:=by simp[List.isPrefixOf]
  rw[Lib.index,e];rfl
 | a::b::t=>by
  have e0:nn (a::b::t)=(a.toNat:Int)::(b.toNat:Int)::nn t:=rfl;have e1:nn (b::t)=(b.toNat:Int)::nn t:=rfl;have ih:=uY (b::t)
  have q58:∀ x:UInt8,(x.toNat:Int)=58↔x=58:=fun x=>by
   constructor
   ·intro h;exact UInt8.toNat_inj.1 (by have h5:(58:UInt8).toNat=58:=rfl;omega)
   ·intro h;rw[h];rfl
  by_cases hab:a=58/\b=58
  ·right;rw[e0,cn,if_pos ⟨(q58 a).2 hab.1,(q58 b).2 hab.2⟩];refine⟨by omega,?_⟩;rw[cp,if_pos ⟨(q58 a).2 hab.1,(q58 b).2 hab.2⟩];have e:([58,58]:List UInt8).isPrefixOf (a::b::t)=true:=by rw[hab.1,hab.2];simp[List.isPrefixOf]
   rw[Lib.index,if_pos e];rfl
  ·have hn:¬ ((a.toNat:Int)=58/\(b.toNat:Int)=58):=fun h=>hab ⟨(q58 a).1 h.1,(q58 b).1 h.2⟩;have e:¬ ([58,58]:List UInt8).isPrefixOf (a::b::t)=true:=by intro h;simp[List.isPrefixOf]at h;exact hab ⟨h.1.symm,h.2.symm⟩
   rw[e0,cn,if_neg hn,zero_add,<-e1,Lib.index,if_neg e];rcases ih with⟨h1,h2⟩ | ⟨h1,h2⟩
   ·left;exact⟨h1,by rw[h2];rfl⟩
   ·right;refine⟨h1,?_⟩;have e5:cp ((a.toNat:Int)::nn (b::t))=cp (nn (b::t))+1:=by rw[e1,cp,if_neg hn]
    rw[h2,e5];have hne:((cp (nn (b::t)):Int)==-1)=false:=by simp <;> omega
    rw[if_neg (by rw[hne];decide)]
    <;> rfl
theorem sN(l:List UInt8):(cc (nn l)=0/\Lib.cut l [58,58]=(l,[],false))\/(cc (nn l)≠0/\nn (Lib.cut l [58,58]).1=(nn l).take (cp (nn l))/\nn (Lib.cut l [58,58]).2.1=(nn l).drop (cp (nn l)+2)/\(Lib.cut l [58,58]).2.2=true):=by
 rcases uY l with⟨h1,h2⟩ | ⟨h1,h2⟩
 ·left;refine⟨h1,?_⟩;unfold Lib.cut;rw[h2,if_neg (by decide)]
 ·right;refine⟨h1,?_⟩;unfold Lib.cut;rw[h2,if_pos (by omega),Int.toNat_natCast];unfold nn;exact⟨by rw[List.map_take],by rw[List.map_drop] <;> rfl,rfl⟩
open Go Go.RowKit
open F (bn aa)
def bys(l:List Int):List Value:=l.map (Value.int .u8)
theorem bT(l:List Int):(bys l).length=l.length:=by simp[bys]
theorem sU(a b:List Int):bys (a++b)=bys a++bys b:=by simp[bys]
theorem sT(l:List Int):∀ u∈bys l,u.oneCell'=true:=by intro u hu;obtain⟨c,_,rfl⟩:=List.mem_map.1 hu;rfl
theorem gD(s:ByteArray):Lib.strCells s=bys (bn s):=by unfold Lib.strCells bys bn;rw[List.map_map];rfl
def Bts(e:TypeId)(w:World)(base:Nat)(v:Value)(l:List Int):Prop :=
 (v=.slice none 0 0/\l=[]) \/
  ∃ g cap cur fz,v=.slice (some ⟨g,0,none⟩) l.length cap/\base<=g/\w.heap[g]? = some (.cells cur e fz)/\(fz.2=0\/cap<=fz.1)/\l.length<=cap/\cap<=maxLen/\cur.size=cap/\cur.toList.take l.length=bys l
theorem Bts.nilS(e:TypeId)(w:World)(base:Nat):Bts e w base (.slice none 0 0) []:=.inl ⟨rfl,rfl⟩
theorem Bts.of_owns{e:TypeId}{w:World}{base n:Nat}{v:Value}{l:List Int}(h:w.ownsRow base e 1 v n (bys l)):Bts e w base v l:=by
 have hn:l.length=n:=by have:=h.1;rw[bT]at this;omega
 subst hn;rcases h.2 with⟨h1,h2⟩ | ⟨g,cap,cur,h1,h2,h3,h4,h5,h6,h7⟩
 ·exact .inl ⟨h1,List.eq_nil_of_length_eq_zero h2⟩
 ·exact .inr ⟨g,cap,cur,(0,0),h1,h2,h3,.inl rfl,h4,h5,by omega,by simpa using h7⟩
theorem Bts.lt{e:TypeId}{w:World}{base:Nat}{v:Value}{l:List Int}(h:Bts e w base v l):∀ k,v.ownBlock=some k->base<=k/\k<w.heap.size:=by
 intro k hk;rcases h with⟨rfl,_⟩ | ⟨g,cap,cur,fz,rfl,hb,hg,_⟩
 ·simp[Value.ownBlock]at hk
 ·simp[Value.ownBlock]at hk;subst hk;exact⟨hb,(Array.getElem?_eq_some_iff.1 hg).1⟩
theorem Bts.below{e:TypeId}{w w':World}{base:Nat}{v:Value}{l:List Int}(h:Bts e w base v l)(hb:Below w.heap.size w w'):Bts e w' base v l:=by
 rcases h with h | ⟨g,cap,cur,fz,h1,h2,h3,h4⟩
 ·exact .inl h
 ·exact .inr ⟨g,cap,cur,fz,h1,h2,(hb.block g (Array.getElem?_eq_some_iff.1 h3).1).trans h3,h4⟩
theorem Bts.apart{e:TypeId}{w:World}{base:Nat}{v:Value}{l:List Int}(h:Bts e w base v l){g:Nat}{cs:Array Value}{t:TypeId}{f:Nat×Nat}(hg:w.heap[g]? = some (.cells cs t f))(hne:t≠e):some g≠v.ownBlock:=by
 intro hk;rcases h with⟨rfl,_⟩ | ⟨k,cap,cur,fz,rfl,hb,hgg,_⟩
 ·simp[Value.ownBlock]at hk
 ·simp[Value.ownBlock]at hk;subst hk;rw[hg]at hgg;cases hgg;exact hne rfl
theorem Bts.cells{e:TypeId}{w:World}{base:Nat}{l:List Int}{g c n:Nat}(h:Bts e w base (.slice (some ⟨g,0,none⟩) n c) l):n=l.length/\∀ j,j<l.length->w.cell? ⟨g,j,none⟩=some (.int .u8 (l[j]?.getD 0)):=by
 rcases h with⟨h,_⟩ | ⟨k,cap,cur,fz,h1,hb,hgg,_,_,_,_,ht⟩
 ·cases h
 ·cases h1;refine⟨rfl,fun j hj=>?_⟩;rw[cell_of_row w g j cur e fz hgg];have h2:(cur.toList.take l.length)[j]? = (bys l)[j]? := by rw[ht]
  rw[List.getElem?_take,if_pos hj]at h2;have h3:(bys l)[j]? = some (.int .u8 (l[j]?.getD 0)):=by unfold bys;rw[List.getElem?_map,getElem?_eq_getElem hj];rfl
  rw[h3]at h2;simpa using h2
theorem Bts.there{e:TypeId}{w:World}{base:Nat}{v:Value}{l:List Int}(h:Bts e w base v l)(hl:l≠[]):∃ g c,v=.slice (some ⟨g,0,none⟩) l.length c/\base<=g/\c<=maxLen/\l.length<=c/\∀ j,j<l.length->w.cell? ⟨g,j,none⟩=some (.int .u8 (l[j]?.getD 0)):=by
 rcases h with⟨_,h⟩ | ⟨g,cap,cur,fz,rfl,h2,h3⟩
 ·exact absurd h hl
 ·have hc:=Bts.cells (c:=cap) (.inr ⟨g,cap,cur,fz,rfl,h2,h3⟩);exact⟨g,cap,rfl,h2,h3.2.2.2.1,h3.2.2.1,hc.2⟩
theorem jv(g:Nat)(t:TypeId)(fz:Nat×Nat):∀(vs:List Value) (o:Nat) (w:World) (cur:Array Value),w.heap[g]? = some (.cells cur t fz)->o+vs.length<=cur.size->(w.setCells g o vs).heap[g]? = some (.cells (cur.toList.take o++vs++cur.toList.drop (o+vs.length)).toArray t fz)
 | [],o,w,cur,h,_=>by
  show w.heap[g]? = _;rw[h];simp
 | v::r,o,w,cur,h,hl=>by
  have hl':o+1+r.length<=cur.size:=by simp at hl;omega
  rw[World.setCells,setCell_eq_setRow w g o cur t fz v h];rw[jv g t fz r (o+1) _ (cur.setIfInBounds o v) (setRow_heap w g cur _ t _ h) (by simpa using hl')];have e:=list_seg_step cur.toList o v r (by simp at hl ⊢;omega);congr 2;apply Array.toList_inj.1;simpa[Array.toList_setIfInBounds,Nat.add_assoc]using e
theorem ju(g:Nat):∀(vs:List Value) (o:Nat) (w:World),(w.setCells g o vs).os=w.os/\(w.setCells g o vs).tape=w.tape/\(w.setCells g o vs).output=w.output/\(w.setCells g o vs).heap.size=w.heap.size/\∀ k,k≠g->(w.setCells g o vs).heap[k]? = w.heap[k]?
 | [],o,w=>⟨rfl,rfl,rfl,rfl,fun _ _=>rfl⟩
 | v::r,o,w=>by obtain⟨h1,h2,h3,h4,h5⟩:=ju g r (o+1) (w.setCell ⟨g,o,none⟩ v);have hb:=(Below.refl 0 w).setCell (p:=⟨g,o,none⟩) (zero_le _) v;refine⟨h1.trans hb.os,h2.trans hb.tape,h3.trans hb.output,h4.trans (by simp),fun k hk=>(h5 k hk).trans (Below.heap_setCell w ⟨g,o,none⟩ v k hk)⟩
theorem iK(w:World)(g o:Nat)(vs:List Value)(n c:Nat):w.grownBy (w.setCells g o vs) (Value.ownBlock (.slice (some ⟨g,0,none⟩) n c)):=by obtain⟨h1,h2,h3,h4,h5⟩:=ju g vs o w;exact⟨h1,h2,h3,Nat.le_of_eq h4.symm,fun k _ hk=>h5 k (fun e=>hk (by rw[e];rfl))⟩
theorem Bts.room{e:TypeId}{w:World}{base g cap n:Nat}{cur:Array Value}{fz:Nat×Nat}{l news:List Int}(hb:base<=g)(hg:w.heap[g]? = some (.cells cur e fz))(hf:fz.2=0\/cap<=fz.1)(hm:cap<=maxLen)(hs:cur.size=cap)(ht:cur.toList.take l.length=bys l)(hr:l.length+news.length<=cap):
  Bts e (w.setCells g l.length (bys news)) base (.slice (some ⟨g,0,none⟩) (l.length+news.length) cap) (l++news)/\(∀ j,j<news.length->(w.cell? ⟨g,l.length+j,none⟩).isSome=true)/\(∀ j,j<news.length->w.frozen? ⟨g,l.length+j,none⟩=false):=by
 refine⟨.inr ⟨g,cap,_,fz,by rw[length_append],hb,jv g e fz (bys news) l.length w cur hg (by rw[bT];omega),hf,by rw[length_append];exact hr,hm,?_,?_⟩,fun j hj=>?_,fun j hj=>?_⟩
 ·simp only[List.size_toArray,length_append,length_take,length_drop,Array.length_toList,bT];omega
 ·rw[ht];have:(l++news).length=(bys l++bys news).length:=by simp[bT]
  rw[this,sU];exact take_left
 ·rw[cell_of_row w g _ cur e fz hg];simp;omega
 ·obtain⟨lo,hi⟩:=fz;simp only[World.frozen?,hg,Bool.and_eq_false_iff,decide_eq_false_iff_not];simp only at hf;omega
theorem Bts.olds{e:TypeId}{w:World}{g n:Nat}{cur:Array Value}{fz:Nat×Nat}{l:List Int}(hg:w.heap[g]? = some (.cells cur e fz))(ht:cur.toList.take l.length=bys l):∀ j u,(bys l)[j]? = some u->w.cell? ((⟨g,0,none⟩:Addr).add j)=some u:=by
 intro j u hu;have hadd:(⟨g,0,none⟩:Addr).add j=⟨g,j,none⟩:=by unfold Addr.add;split <;> simp_all
 rw[hadd,cell_of_row w g j cur e fz hg];rw[<-ht,List.getElem?_take]at hu;split at hu
 ·simpa using hu
 ·cases hu
section
variable {P : Program} (w : World)
theorem nG(base:Nat)(t ty e:TypeId)(i:TypeInfo)(ht:P.underlying t=some (.slice e))(hi:P.info? e=some i)(hz:i.zero=some (.int .u8 0))(hsize:i.size=1)(hby:i.bytes=1)
  (v:Value) (l:List Int) (hown:Bts e w base v l) (a:Addr) (m c:Nat) (news:List Int) (hl:news.length=m) (hnews:∀ j u,(bys news)[j]? = some u->w.cell? (a.add j)=some u) (hlim:l.length+m<=100000000) (hbase:base<=w.heap.size) :
  ∃ v' w',(Builtin.append_ #[t,t] ty #[v,.slice (some a) m c]).run P w=.ok v' w'/\Bts e w' base v' (l++news)/\w.grownBy w' v.ownBlock:=by
 have hM:l.length+m<=maxLen:=by unfold maxLen;omega
 rcases hown with⟨rfl,rfl⟩ | ⟨g,cap,cur,fz,rfl,hb,hg,hf,hn,hcm,hcs,htk⟩
 ·obtain⟨v',w',h1,h2,h3,_⟩:=run_append_own (P:=P) w base t ty e i (.int .u8 0) 1 1 ht hi hz hsize hby rfl (by decide) (.slice none 0 0) 0 [] (World.ownsRow_nil w base e 1) a m c (bys news) (by rw[bT];omega) hnews (sT news) (by simpa using hM) (by simp at hlim;omega) hbase;exact⟨v',w',h1,Bts.of_owns h2,h3⟩
 ·subst hl;by_cases hroom:l.length+news.length<=cap
  ·obtain⟨r1,r2,r3⟩:=Bts.room (n:=0) (news:=news) hb hg hf hcm hcs htk hroom;have hr:=run_append_room_cells (P:=P) w t ty e i ht hi g 0 l.length cap a news.length c (bys news) (by rw[bT,hsize];omega) hnews (sT news) hroom (fun j hj=>by rw[hsize];rw[bT]at hj;simpa using r2 j hj) (fun j hj=>by rw[hsize];rw[bT]at hj;simpa using r3 j hj);rw[hsize,mul_one,zero_add]at hr;exact⟨_,_,hr,r1,iK w g _ _ _ _⟩
  ·obtain⟨v',w',h1,h2,h3⟩:=run_append_arg_grows (P:=P) w t ty e i (.int .u8 0) 1 1 ht hi hz hsize hby rfl (by decide) ⟨g,0,none⟩ l.length cap (bys l) (by rw[bT];omega) (Bts.olds (n:=0) hg htk) a news.length c (bys news) (by rw[bT];omega) hnews (by omega) hM (by omega);rw[<-sU]at h2;have h4:=Bts.of_owns h2;refine⟨v',w',h1,?_,⟨h3.os,h3.tape,h3.output,h3.size,fun k hk _=>h3.block k hk (by simp)⟩⟩;rcases h4 with h4 | ⟨g2,cap2,cur2,fz2,q1,q2,q3⟩
   ·exact .inl h4
   ·exact .inr ⟨g2,cap2,cur2,fz2,q1,le_trans hbase q2,q3⟩
theorem ie(base:Nat)(t u ty e:TypeId)(i:TypeInfo)(ht:P.underlying t=some (.slice e))(hu:P.underlying u=some .string)(hi:P.info? e=some i)(hz:i.zero=some (.int .u8 0))(hsize:i.size=1)(hby:i.bytes=1)
  (v:Value) (l:List Int) (hown:Bts e w base v l) (s:ByteArray) (hlim:l.length+s.size<=100000000) (hbase:base<=w.heap.size) :
  ∃ v' w',(Builtin.append_ #[t,u] ty #[v,.string s]).run P w=.ok v' w'/\Bts e w' base v' (l++bn s)/\w.grownBy w' v.ownBlock:=by
 have hM:l.length+s.size<=maxLen:=by unfold maxLen;omega
 rcases hown with⟨rfl,rfl⟩ | ⟨g,cap,cur,fz,rfl,hb,hg,hf,hn,hcm,hcs,htk⟩
 ·obtain⟨v',w',h1,h2,h3,_⟩:=Lib.run_append_own_string (P:=P) w base t u ty e i ht hu hi hz hsize hby (.slice none 0 0) 0 [] (World.ownsRow_nil w base e 1) s (by simpa using hM) (by simp at hlim;omega) hbase;rw[gD]at h2;exact⟨v',w',h1,Bts.of_owns h2,h3⟩
 ·have hsl:(bn s).length=s.size:=aa s;by_cases hroom:l.length+s.size<=cap
  ·obtain⟨r1,r2,r3⟩:=Bts.room (n:=0) (news:=bn s) hb hg hf hcm hcs htk (by rw[hsl];exact hroom);have hff:=Lib.run_firstCells_string (P:=P) w 1 s;have hst:=run_storeCells_cells (P:=P) g l.length (bys (bn s)) 0 w (fun j hj=>by rw[bT]at hj;simpa using r2 j hj) (fun j hj=>by rw[bT]at hj;simpa using r3 j hj) (sT _);rw[gD]at hff;simp only[Nat.add_zero]at hst;refine⟨.slice (some ⟨g,0,none⟩) (l.length+s.size) cap,w.setCells g l.length (bys (bn s)),?_,by rw[hsl]at r1;exact r1,iK w g _ _ _ _⟩;simp[Builtin.append_,run_underlying ht,run_underlying hu,sizeOf,typeInfo,hi,hsize,Builtin.lenOf,hroom,hff,Addr.add_lit,hst]
  ·have hr:=Lib.run_append_grow_string (P:=P) w t u ty e i (.int .u8 0) ht hu hi hz ⟨g,0,none⟩ l.length cap (bys l) (by rw[bT,hsize];omega) (Bts.olds (n:=0) hg htk) s (by omega) (by omega) (by rw[hby];exact growslice_fits (by omega) (by omega));have hge:=grownCap_ge w (l.length+s.size) cap e;have hcm2:grownCap w (l.length+s.size) cap e<=maxLen:=grownCap_le_maxLen w _ _ e hM;refine⟨_,_,hr,.inr ⟨w.heap.size,_,_,(0,0),by rw[length_append,hsl],hbase,heap_alloc_new w.drew _,.inl rfl,by rw[length_append,hsl];exact hge,hcm2,?_,?_⟩,⟨rfl,rfl,rfl,by simp,fun k hk _=>Below.heap_alloc w.drew _ k hk⟩⟩
   ·have hz1:(Value.int IntKind.u8 0).cells.size=1:=rfl;simp only[Array.size_append,List.size_toArray,size_zeroCells,hz1,bT,Lib.strCells_length];omega
   ·rw[gD];simp only[Array.toList_append,append_assoc];rw[<-append_assoc,sU];have:(l++bn s).length=(bys l++bys (bn s)).length:=by simp[bT]
    rw[this];exact take_left
end
theorem fl{P:Program}(w:World){ops:Array Oper}{rest:List Oper}{o:Oper}{a:Act}{Q:Exit->Act->World->Prop}(hgd:o.guard=none)(s x:Operand)(t:TypeId)(ho:o.op=Op.call { callee:=Callee.builtin Builtin.append,args:=#[s,x],argTypes:=#[t,t] })
  (base:Nat) (e:TypeId) (i:TypeInfo) (ht:P.underlying t=some (.slice e)) (hi:P.info? e=some i) (hz:i.zero=some (.int .u8 0)) (hsize:i.size=1) (hby:i.bytes=1)
  (v:Value) (l:List Int) (hs:a.eval s=v) (hown:Bts e w base v l) (ad:Addr) (m c:Nat) (news:List Int) (hx:a.eval x=.slice (some ad) m c) (hl:news.length=m) (hnews:∀ j u,(bys news)[j]? = some u->w.cell? (ad.add j)=some u) (hlim:l.length+m<=100000000) (hbase:base<=w.heap.size)
  (h:∀ v' w',Bts e w' base v' (l++news)->w.grownBy w' v.ownBlock->wpList P ops Q rest (a.put o.dst v') w'):wpList P ops Q (o::rest) a w:=by
 refine wpList_plain hgd fun K hK'=>?_;obtain⟨v',w',hrun,r1,r2⟩:=nG (P:=P) w base t o.type e i ht hi hz hsize hby v l hown ad m c news hl hnews hlim hbase;unfold Oper.wp;simp[execOp,ho,resolve,invoke,builtin,hs,hx,hrun,Result.andThen];exact hK' _ _ (h v' w' r1 r2)
theorem fE{P:Program}(w:World){ops:Array Oper}{rest:List Oper}{o:Oper}{a:Act}{Q:Exit->Act->World->Prop}(hgd:o.guard=none)(s x:Operand)(t u:TypeId)(ho:o.op=Op.call { callee:=Callee.builtin Builtin.append,args:=#[s,x],argTypes:=#[t,u] })
  (base:Nat) (e:TypeId) (i:TypeInfo) (ht:P.underlying t=some (.slice e)) (hu:P.underlying u=some .string) (hi:P.info? e=some i) (hz:i.zero=some (.int .u8 0)) (hsize:i.size=1) (hby:i.bytes=1)
  (v:Value) (l:List Int) (hs:a.eval s=v) (hown:Bts e w base v l) (z:ByteArray) (hx:a.eval x=.string z) (hlim:l.length+z.size<=100000000) (hbase:base<=w.heap.size)
  (h:∀ v' w',Bts e w' base v' (l++bn z)->w.grownBy w' v.ownBlock->wpList P ops Q rest (a.put o.dst v') w'):wpList P ops Q (o::rest) a w:=by
 refine wpList_plain hgd fun K hK'=>?_;obtain⟨v',w',hrun,r1,r2⟩:=ie (P:=P) w base t u o.type e i ht hu hi hz hsize hby v l hown z hlim hbase;unfold Oper.wp;simp[execOp,ho,resolve,invoke,builtin,hs,hx,hrun,Result.andThen];exact hK' _ _ (h v' w' r1 r2)
theorem we(w:World)(e:TypeId)(s:ByteArray)(hs:s.size<=100000000):Bts e (Lib.bytesWorld w e s) w.heap.size (.slice (some ⟨w.heap.size,0,none⟩) s.size (grownCap w s.size 0 e)) (bn s):=by
 have hge:=grownCap_ge w s.size 0 e;have hcm:grownCap w s.size 0 e<=maxLen:=grownCap_le_maxLen w s.size 0 e (by unfold maxLen;omega);have hsz:(Lib.bytesCells w e s).size=grownCap w s.size 0 e:=by have:s.data.size=s.size:=rfl;simp[Lib.bytesCells];omega
 refine .inr ⟨w.heap.size,_,_,_,by rw[aa],le_refl _,Lib.bytesWorld_at_new w e s,.inr (Nat.le_of_eq hsz.symm),by rw[aa];exact hge,hcm,hsz,?_⟩;have h1:(Lib.bytesCells w e s).toList=bys (bn s)++List.replicate (grownCap w s.size 0 e - s.size) (.int .u8 0):=by simp[Lib.bytesCells,bys,bn]
 rw[h1,<-bT];exact take_left
theorem wN(w:World)(e:TypeId)(s:ByteArray):Below w.heap.size w (Lib.bytesWorld w e s):=⟨rfl,rfl,rfl,by rw[Lib.bytesWorld_size];omega,fun k hk=>Lib.bytesWorld_at_old w e s k hk⟩
open F (hx bn hid)
def Tab(w:World):Prop:=w.cell? ⟨8,15,none⟩=some (.int .u8 4)
theorem Tab.below{A B:World}{n:Nat}(h:Below n A B)(hn:A.heap.size<=n)(t:Tab A):Tab B:=by unfold Tab at *;exact(h.cell (p:=⟨8,15,none⟩) (lt_of_lt_of_le (mz t) hn)).trans t
theorem Jo(w:World)(hT:w.cell? ⟨8,15,none⟩=some (.int .u8 4)):Calls prog 217 #[.int .u64 16] w fun e W'=>e=.returned (.int .i64 4)/\W'=w:=by
 have e1:IntKind.u64.wrap (-16)=18446744073709551600:=by decide
 have e2:bits BinOp.and IntKind.u64 16 18446744073709551600=16:=by decide
 have e3:IntKind.u64.wrap 4573923408821661840=4573923408821661840:=by decide
 go_enter func217,ntmps217;go_wp2;go_ret;exact⟨rfl,rfl⟩
theorem Am(w:World)(hT:Tab w):Calls prog 193 #[.int .u64 16] w fun e W'=>e=.returned (.int .i64 4)/\W'=w:=by go_enter func193,ntmps193;go_wp2_with fail;refine(Jo w hT).mono ?_;rintro e w1 ⟨rfl,rfl⟩;go_wp2;go_ret;exact⟨rfl,rfl⟩
theorem AW(w:World):Calls prog 192 #[.int .i64 16] w fun e W'=>e=.returned (.bool true)/\W'=w:=by go_enter func192,ntmps192;go_wp2;go_ret;exact⟨rfl,rfl⟩
theorem aX{P:Program}{ops:Array Oper}{Q:Exit->Act->World->Prop}{a:Act}{w:World}{rest:List Oper}{o:Oper}(hg:o.guard=none)(ty:TypeId)(ho:o.op=.alloc ty)(z:Array Value)
  (hz:∀ w,(zeroValue ty).run P w=.ok (.agg z) w)
  (h:wpList P ops Q rest (a.put o.dst (.pointer (some ⟨w.heap.size,0,none⟩))) (w.alloc (.cells z ty))):wpList P ops Q (o::rest) a w:=by
 refine wpList_plain hg fun K hK=>?_;unfold Oper.wp execOp;simp only[ho];simp[Instr.alloc,hz,go_sem];exact hK _ _ h
def jL(n:Nat):Int:=if n<10 then 48+n else 87+n
def hxf:Nat->Nat->List Int
 | 0,n=>[jL n]
 | f+1,n=>if n<16 then [jL n] else hxf f (n / 16)++[jL (n % 16)]
theorem kF(n:Nat):jL n=dgc false n:=by unfold jL dgc;split <;> simp
theorem GA{n:Nat}(h:n<65536):hxf 8 n=aU false false n:=by
 unfold aU dgs;simp only[Bool.false_eq_true,if_false];by_cases h1:n<16
 ·rw[hxf,if_pos h1,if_pos h1];simp[kF]
 ·by_cases h2:n<256
  ·rw[hxf,if_neg h1,hxf,if_pos (by omega),if_neg h1,if_pos h2];simp[kF]
  ·by_cases h3:n<4096
   ·rw[hxf,if_neg h1,hxf,if_neg (by omega),hxf,if_pos (by omega),if_neg h1,if_neg h2,if_pos h3];have e1:n / 16 / 16=n / 256:=by omega
    simp[kF,e1]
   ·rw[hxf,if_neg h1,hxf,if_neg (by omega),hxf,if_neg (by omega),hxf,if_pos (by omega),if_neg h1,if_neg h2,if_neg h3];have e1:n / 16 / 16 / 16=n / 4096:=by omega
    have e2:n / 16 / 16 % 16=n / 256 % 16:=by omega
    simp[kF,e1,e2]
theorem qR:∀(d:Nat) (h:d<16),(((⟨#[48,49,50,51,52,53,54,55,56,57,97,98,99,100,101,102,103,104,105,106,107,108,109,110,111,112,113,114,115,116,117,118,119,120,121,122]⟩:ByteArray)[d]'(lt_of_lt_of_le h (by decide))).toNat:Int)=jL d:=by decide
theorem drop_set(ys:List Value)(I:Nat)(x:Int)(ds:List Int)(h:I<ys.length)(hd:ys.drop (I+1)=ds.map (Value.int .u8)):(ys.set I (.int .u8 x)).drop I=(x::ds).map (Value.int .u8):=by rw[List.drop_eq_getElem_cons (by simpa using h),List.getElem_set_self,List.drop_set_of_lt (by omega),hd];rfl
def szU(k m:Nat):Prop:=(k=0/\m<=65535)\/(k=1/\m<=4095)\/(k=2/\m<=255)\/(k=3/\m<=15)
theorem OG{k m:Nat}(h:szU k m):m<=65535/\k<=3:=by unfold szU at h;omega
theorem DJ{k m:Nat}(h:szU k m)(hm:16<=m):szU (k+1) (m / 16)/\k<=2:=by
 rcases h with⟨rfl,h⟩ | ⟨rfl,h⟩ | ⟨rfl,h⟩ | ⟨rfl,h⟩
 ·exact⟨.inr (.inl ⟨rfl,by omega⟩),by omega⟩
 ·exact⟨.inr (.inr (.inl ⟨rfl,by omega⟩)),by omega⟩
 ·exact⟨.inr (.inr (.inr ⟨rfl,by omega⟩)),by omega⟩
 ·omega
theorem jn(g i j:Nat):(⟨g,i,none⟩:Addr).add j=⟨g,i+j,none⟩:=by unfold Addr.add;split <;> simp_all
theorem JT(g I:Nat)(hI:I<65)(W:World):(Instr.sliceAt 201 (.pointer (some ⟨g,0,none⟩)) (some (.int .i64 (I:Int))) none none).run prog W=.ok (.slice (some ⟨g,I,none⟩) (65 - I) (65 - I)) W:=by
 have hl:prog.arrayLen 201=65:=by kernel_rfl
 rw[run_sliceAt_array_l W 201 ⟨g,0,none⟩ (by kernel_rfl) .i64 (I:Int) (by omega) (by rw[hl];omega),hl];have hs:(sizeOf (prog.elem 201)).run prog W=.ok 1 W:=by kernel_rfl
 rw[hs];simp only[Result.andThen,slicedAt,Int.toNat_natCast,mul_one];rw[if_neg (by omega),jn,zero_add]
theorem dL(ns:List Int)(h:∀ x∈ns,0<=x/\x<=255):(ns.map fun n=>UInt8.ofNat n.toNat).map (fun c=>(c.toNat:Int))=ns:=by
 rw[List.map_map]
 conv=>rhs;rw[<-List.map_id ns]
 apply List.map_congr_left;intro x hx;have:=h x hx;simp;omega
theorem sQ(W:World)(g I n c:Nat)(ns:List Int)(hn:ns.length=n)(hb:∀ x∈ns,0<=x/\x<=255)(hc:∀ j,j<n->W.cell? ⟨g,I+j,none⟩=some (.int .u8 (ns[j]?.getD 0))):∃ t:ByteArray,(convert 42 9 (.slice (some ⟨g,I,none⟩) n c)).run prog W=.ok (.string t) W/\bn t=ns:=by
 subst hn;refine⟨⟨(ns.map fun n=>UInt8.ofNat n.toNat).toArray⟩,?_,?_⟩
 ·have:=run_convert_bytes_back (P:=prog) W 42 9 5 ⟨g,I,none⟩ c (ns.map fun n=>UInt8.ofNat n.toNat) underlying42 underlying5 underlying9 (by
    intro j hj
    have hj':j<ns.length:=by simpa using hj
    rw[jn,hc j hj',getElem?_eq_getElem hj']
    have hbj:=hb ns[j] (List.getElem_mem hj')
    simp only[Option.getD_some,List.getElem_map,UInt8.toNat_ofNat']
    congr 2
    omega)
  rw[List.length_map]at this;exact this
 ·unfold bn;simp only;exact dL ns hb
theorem jM{n:Nat}(h:n<65536):∀ x∈aU false false n,0<=x/\x<=255:=fun x hx=>by have:=oF h hx;omega
open F (hid)
theorem Bts.form{e:TypeId}{w:World}{base:Nat}{v:Value}{l:List Int}(h:Bts e w base v l):∃ p n c,v=.slice p n c:=by
 rcases h with⟨rfl,rfl⟩ | ⟨g,cap,cur,fz,rfl,_⟩
 ·exact⟨_,_,_,rfl⟩
 ·exact⟨_,_,_,rfl⟩
theorem Gz:(prog.info? 5).map (fun i=>(i.zero,i.size,i.bytes))=some (some (.int .u8 0),1,1):=by kernel_rfl
theorem iL{w w1 w2:World}{row:Option Nat}(h:Below w.heap.size w w1)(g:w1.grownBy w2 row):w.grownBy w2 row :=
 ⟨g.os.trans h.os,g.tape.trans h.tape,g.output.trans h.output,le_trans h.size g.size,fun k hk hr=>(g.block k (lt_of_lt_of_le hk h.size) hr).trans (h.block k hk)⟩
theorem Cu(base:Nat)(v:Value)(l:List Int)(u:Nat)(hu:u<65536)(w:World)(hT:Tab w)(hn:l.length<=10000000)(ag:Bts 5 w base v l)(hb:base<=w.heap.size):
  Calls prog 151 #[v,.int .u64 u,.int .i64 16,.bool false,.bool true] w fun e W'=>∃ v',e=.returned (.tuple #[v',.string ⟨#[]⟩])/\Bts 5 W' base v' (l++aU false false u)/\w.grownBy W' v.ownBlock:=by
 obtain⟨i0,hi0,hz0,hz1,hz2⟩:=info_parts Gz;obtain⟨vp,vn,vc,hvv⟩:=ag.form;subst hvv;have HHX:=hid (GA hu);have hlen4:=gm false false u;obtain⟨z,hzv,hzl⟩:∃ z:Array Value,(∀ w,(zeroValue 201).run prog w=.ok (.agg z) w)/\z.toList=List.replicate 65 (.int .u8 0):=⟨(List.replicate 65 (.int .u8 0)).toArray,(zero_of_info (P:=prog) (t:=201) (n:=65) (by kernel_rfl)).1,rfl⟩;go_enter func151,ntmps151;go_wp2_with((refine aX rfl 201 rfl z hzv ?_));refine(AW _).mono ?_;rintro e w1 ⟨rfl,rfl⟩;go_wp2_with fail;refine(Am _ (hT.below ((Below.refl _ w).alloc (le_refl _) _) (le_refl _))).mono ?_;rintro e w1 ⟨rfl,rfl⟩;go_wp2_with fail;have hzs:z.size=65:=by rw[<-Array.length_toList,hzl];simp
 have hz:(w.alloc (.cells z 201)).ownsRow w.heap.size 201 1 (.slice (some ⟨w.heap.size,0,none⟩) 65 65) 65 (List.replicate 65 (.int .u8 0)) :=
  ⟨by simp,.inr ⟨w.heap.size,65,z,rfl,le_refl _,heap_alloc_new w _,le_refl _,by decide,hzs,by rw[hzl];rfl⟩⟩
 go_loopw [1,13] (fun a i wr=>∃(k I m:Nat) (ds:List Int) (ys:List Value),a=.int .u64 (m:Int)/\i=.int .i64 (I:Int)/\I+k=65/\szU k m/\wr.ownsRow w.heap.size 201 1 (.slice (some ⟨w.heap.size,0,none⟩) 65 65) 65 ys/\Hid (ys.drop I=ds.map (Value.int .u8))/\Hid (hxf 8 u=hxf (8 - k) m++ds)/\Below w.heap.size w wr)
  (fun a _ _=>(intOf a).toNat)
 case atStart=>exact⟨0,65,u,[],List.replicate 65 (.int .u8 0),rfl,rfl,rfl,.inl ⟨rfl,by omega⟩,hz,by show _=_;rw[List.drop_eq_nil_of_le (by simp)];rfl,by show _=_;simp,(Below.refl _ w).alloc (le_refl _) _⟩
 case round =>
  obtain⟨k,I,m,ds,ys,rfl,rfl,hIk,hsz,hr,HD,HH,hB⟩:=hrel;have hm:=OG hsz;have HI:=hid hIk;have hI1:60<=I:=by omega
  have hI2:I<=65:=by omega
  clear hIk hz;by_cases h16:16<=m
  ·have hand:bits BinOp.and IntKind.u64 (m:Int) 15=((m % 16:Nat):Int):=by have:=u64_and_nat m 15 (by omega) (by omega);rw[show m &&& 15=m % 16 from Nat.and_two_pow_sub_one_eq_mod m 4]at this;exact this
   obtain⟨I',rfl⟩:∃ I',I=I'+1:=⟨I - 1,by omega⟩;have h16':(16:Int)<=(m:Int):=by omega
   obtain⟨y,hy⟩:∃ y,wr.cell? ⟨w.heap.size,I',none⟩=some y:=⟨_,by rw[hr.cellAt I' (by omega),getElem?_eq_getElem (by rw[hr.1];omega)]⟩;have hfz:=hr.frozenAt I';have b1:((m % 16:Nat):Int)<36:=by omega
   have b2:(I':Int)<65:=by omega
   go_wp2_with fail
   go_roundw
   case rel =>
    have e:=qR (m % 16) (by omega);rw[e];have hst:=hr.stored I' (.int .u8 (jL (m % 16)));have hsz2:=DJ hsz h16;refine⟨k+1,I',m / 16,jL (m % 16)::ds,ys.set I' (.int .u8 (jL (m % 16))),by rw[Int.natCast_ediv];rfl,rfl,by have:=HI.out;omega,hsz2.1,hst.1,?_,?_,hB.setCell (p:=⟨w.heap.size,I',none⟩) (le_refl _) _⟩
    ·show _=_;exact drop_set ys I' _ ds (by rw[hr.1];omega) HD.out
    ·show _=_;rw[HH.out,show 8 - k=(8 - (k+1))+1 by omega,hxf,if_neg (by omega),append_assoc];rfl
   case measure=>simp[intOf];omega
  ·obtain⟨I',rfl⟩:∃ I',I=I'+1:=⟨I - 1,by omega⟩;have h16':¬ (16:Int)<=(m:Int):=by omega
   obtain⟨y,hy⟩:∃ y,wr.cell? ⟨w.heap.size,I',none⟩=some y:=⟨_,by rw[hr.cellAt I' (by omega),getElem?_eq_getElem (by rw[hr.1];omega)]⟩;have hfz:=hr.frozenAt I';have b1:(m:Int)<36:=by omega
   have b2:(I':Int)<65:=by omega
   have hst:=(hr.stored I' (.int .u8 (jL m))).1;have hb3:Below w.heap.size w (wr.setCell ⟨w.heap.size,I',none⟩ (.int .u8 (jL m))):=hB.setCell (p:=⟨w.heap.size,I',none⟩) (le_refl _) _;have hrow3:=ag.below hb3
   have hdrop:(ys.set I' (.int .u8 (jL m))).drop I'=(hxf 8 u).map (Value.int .u8):=by
    rw[drop_set ys I' _ ds (by rw[hr.1];omega) HD.out,HH.out]
    have:hxf (8 - k) m=[jL m]:=by
     cases h:8 - k with
     | zero=>rfl
     | succ f=>rw[hxf,if_pos (by omega)]
    rw[this];rfl
   rw[HHX.out]at hdrop;have hlen:(aU false false u).length=65 - I':=by have:=congrArg List.length hdrop;rw[length_drop,List.length_set,hr.1,List.length_map]at this;omega
   have hnews:∀(j:Nat) (x:Value),(bys (aU false false u))[j]? = some x->(wr.setCell ⟨w.heap.size,I',none⟩ (.int .u8 (jL m))).cell? ((⟨w.heap.size,I',none⟩:Addr).add j)=some x:=by
    intro j x hj;have hj1:j<65 - I':=by rw[<-hlen,<-bT];exact(List.getElem?_eq_some_iff.1 hj).1
    rw[jn,hst.cellAt (I'+j) (by omega),<-hj];unfold bys;rw[<-hdrop,List.getElem?_drop]
   have hsb:base<=(wr.setCell ⟨w.heap.size,I',none⟩ (.int .u8 (jL m))).heap.size:=le_trans hb hb3.size;have hdg:=qR m (by omega);have HX:=hid hlen;clear hdrop hlen;have hsl:=JT w.heap.size I' (by omega);obtain⟨L,hL⟩:∃ L,L=65 - I':=⟨_,rfl⟩;rw[<-hL]at hsl HX;have hL9:L<=65:=by omega
   have HN:=hid hnews;have HB3:=hid hb3;clear hL hnews hst hb3;go_wp2_with((at_builtin;refine fl _ rfl _ _ 42 rfl base 5 i0 underlying42 hi0 hz0 hz1 hz2 _ l rfl hrow3 ⟨w.heap.size,I',none⟩ L L (aU false false u) rfl HX.out HN.out (by omega) hsb ?_;intro v' w4 hown4 hgrow4));have hb4:=iL HB3.out hgrow4;go_ret2;exact⟨v',rfl,hown4,hb4⟩
theorem wA(base:Nat)(v:Value)(l:List Int)(u:Nat)(hu:u<65536)(w:World)(hT:Tab w)(hn:l.length<=10000000)(ag:Bts 5 w base v l)(hb:base<=w.heap.size):
  Calls prog 187 #[v,.int .u64 u,.int .i64 16] w fun e W'=>∃ v',e=.returned v'/\Bts 5 W' base v' (l++aU false false u)/\w.grownBy W' v.ownBlock:=by
 obtain⟨vp,vn,vc,hvv⟩:=ag.form;subst hvv;go_enter func187,ntmps187;go_wp2_with fail;refine(Cu base _ l u hu w hT hn ag hb).mono ?_;rintro e w1 ⟨v',rfl,h1,h2⟩;go_wp2;go_ret;exact⟨v',rfl,h1,h2⟩
theorem mb(base:Nat)(v:Value)(l:List Int)(u:Nat)(hu:u<65536)(w:World)(hT:Tab w)(hn:l.length<=10000000)(ag:Bts 5 w base v l)(hb:base<=w.heap.size):
  Calls prog 144 #[v,.int .u64 u,.int .i64 16] w fun e W'=>∃ v',e=.returned v'/\Bts 5 W' base v' (l++aU false false u)/\w.grownBy W' v.ownBlock:=by
 obtain⟨vp,vn,vc,hvv⟩:=ag.form;subst hvv;go_enter func144,ntmps144;go_wp2_with fail;refine(wA base _ l u hu w hT hn ag hb).mono ?_;rintro e w1 ⟨v',rfl,h1,h2⟩;go_wp2;go_ret;exact⟨v',rfl,h1,h2⟩
def tl(a:List Nat)(f i:Nat):List Int:=aB 58 (((a.take i).drop f).map (aU false false))
theorem OE(a:List Nat)(f:Nat):tl a f f=[]:=by unfold tl;rw[List.drop_eq_nil_of_le (by rw[length_take];omega)];rfl
theorem yL{a:List Nat}{f i:Nat}(h8:a.length=8)(hf:f<=i)(hi:i<8):(((a.take (i+1)).drop f).map (aU false false))=(((a.take i).drop f).map (aU false false))++[aU false false (a[i]?.getD 0)]:=by rw[List.take_add_one,getElem?_eq_getElem (by omega)];rw[List.drop_append_of_le_length (by rw[length_take];omega),List.map_append];rfl
theorem Du{a:List Nat}{f:Nat}(h8:a.length=8)(hi:f<8):tl a f (f+1)=aU false false (a[f]?.getD 0):=by have h:=yL h8 (le_refl f) hi;unfold tl;rw[h,List.drop_eq_nil_of_le (by rw[length_take];omega)];rfl
theorem JJ{a:List Nat}{f i:Nat}(h8:a.length=8)(hf:f<i)(hi:i<8):tl a f (i+1)=tl a f i++[58]++aU false false (a[i]?.getD 0):=by have h:=yL h8 (Nat.le_of_lt hf) hi;unfold tl;rw[h,qD,if_neg];intro e;have:=congrArg List.length e;simp at this;omega
theorem Dt{a:List Nat}(h8:a.length=8)(f i:Nat):(tl a f i).length<=40:=by unfold tl;have h:=(cW ((a.take i).drop f)).1;rw[length_drop,length_take]at h;omega
theorem Tab.at{w w':World}{base:Nat}(h:Tab w)(hb:Below base w w')(hg:8<base):Tab w':=by unfold Tab at *;exact(hb.cell (p:=⟨8,15,none⟩) hg).trans h
theorem dM(w:World)(cs:Array Value)(t:TypeId):(w.alloc (.cells cs t)).heap[w.heap.size]? = some (.cells cs t (0,0)):=heap_alloc_new _ _
theorem tA(a0 a1 a2 a3 a4 a5 a6 a7:Nat)(hs:Small [a0,a1,a2,a3,a4,a5,a6,a7])(base:Nat)(v:Value)(l:List Int)(f n:Nat)(hf:f<=n)(hn8:n<=8)(w:World)(hT:Tab w)(hg:8<base)(hl:l.length<=1000000)(ag:Bts 5 w base v l)(hb:base<=w.heap.size):
  Calls prog 146 #[v,.agg #[.int .u16 a0,.int .u16 a1,.int .u16 a2,.int .u16 a3,.int .u16 a4,.int .u16 a5,.int .u16 a6,.int .u16 a7],.int .i64 (f:Int),.int .i64 (n:Int)] w fun e W'=>∃ v',e=.returned v'/\Bts 5 W' base v' (l++tl [a0,a1,a2,a3,a4,a5,a6,a7] f n)/\Below base w W':=by
 obtain⟨vp,vn,vc,hvv⟩:=ag.form;subst hvv;obtain⟨i0,hi0,hz0,hz1,hz2⟩:=info_parts Gz;have HB0:Hid (Below w.heap.size w (w.alloc (.cells #[.int .u16 a0,.int .u16 a1,.int .u16 a2,.int .u16 a3,.int .u16 a4,.int .u16 a5,.int .u16 a6,.int .u16 a7] 24))):=(Below.refl _ w).alloc (le_refl _) _;have HA0:Hid ((w.alloc (.cells #[.int .u16 a0,.int .u16 a1,.int .u16 a2,.int .u16 a3,.int .u16 a4,.int .u16 a5,.int .u16 a6,.int .u16 a7] 24)).heap[w.heap.size]? = some (.cells (ai [a0,a1,a2,a3,a4,a5,a6,a7]).toArray 24 (0,0))):=dM w _ _;have HL8:Hid ([a0,a1,a2,a3,a4,a5,a6,a7].length=8):=rfl;have HSM:=hid hs;have HT0:=hid (hT.below HB0.out (le_refl _));have HR0:=hid (ag.below HB0.out);have HBB:=hid (HB0.out.mono hb);obtain⟨a,ha⟩:=Ex' ([a0,a1,a2,a3,a4,a5,a6,a7]);rw[ha]at HA0 HL8 HSM ⊢;have HSV:Hid (∀ j,j<8->a[j]?.getD 0<65536):=fun j hj=>by rw[getElem?_eq_getElem (by rw[HL8.out];exact hj)];exact HSM.out _ (List.getElem_mem _)
 have HNIL:=hid (OE a f);have HLEN:=hid (Dt HL8.out f);clear hs hT ag;go_enter func146,ntmps146;go_wp2_with fail;obtain⟨w1,hw1⟩:=Ex' (w.alloc (.cells #[.int .u16 a0,.int .u16 a1,.int .u16 a2,.int .u16 a3,.int .u16 a4,.int .u16 a5,.int .u16 a6,.int .u16 a7] 24));rw[hw1]at HB0 HA0 HT0 HR0 HBB ⊢;obtain⟨arg,harg⟩:=Ex' (Value.agg #[.int .u16 a0,.int .u16 a1,.int .u16 a2,.int .u16 a3,.int .u16 a4,.int .u16 a5,.int .u16 a6,.int .u16 a7]:Value);rw[harg];clear hw1 ha harg HB0
 go_loopw [0,9] (fun v0 v9 wr=>∃(i n0 c0:Nat) (p0:Option Addr),f<=i/\i<=n/\v0=.slice p0 n0 c0/\v9=.int .i64 (i:Int)/\Hid (Bts 5 wr base (.slice p0 n0 c0) (l++tl a f i))/\Hid (wr.heap[w.heap.size]? = some (.cells (ai a).toArray 24 (0,0)))/\Hid (Tab wr)/\Hid (Below base w wr)) (fun _ v9 _=>n - (intOf v9).toNat)
 case atStart=>exact⟨f,vn,vc,vp,le_refl _,hf,rfl,rfl,by show Bts _ _ _ _ _;rw[HNIL.out,List.append_nil];exact HR0.out,HA0,HT0,HBB⟩
 case round =>
  obtain⟨i,n0,c0,p0,hfi,hin,rfl,rfl,HR,HA,HT,HB⟩:=hrel;have hsb:base<=wr.heap.size:=le_trans hb HB.out.size;by_cases hlt:i<n
  ·have hltz:(i:Int)<(n:Int):=by omega
   have hi8:i<8:=by omega
   have hi8z:(i:Int)<8:=by omega
   have hsrc:=cJ HA.out (j:=i) (by rw[HL8.out];exact hi8);have hv:=HSV.out i hi8;have HNX:=hid (fun h=>JJ (a:=a) (f:=f) (i:=i) HL8.out h hi8);have HFI:=hid (fun(h:f=i)=>show tl a f (i+1)=aU false false (a[i]?.getD 0) by subst h;exact Du HL8.out hi8);have hll:=HLEN.out i;obtain⟨x,hx1⟩:=Ex' (a[i]?.getD 0);rw[hx1]at hsrc hv HNX HFI;have hvz:(x:Int)<65536:=by omega
   have hzA:w.heap.size<wr.heap.size:=(Array.getElem?_eq_some_iff.1 HA.out).1;have HXX:=hid hx1;clear hx1;by_cases hfr:f<i
   ·have hfz:(f:Int)<(i:Int):=by omega
    have HN2:=hid (HNX.out hfr);have HBu:Hid (Below wr.heap.size wr (wr.alloc (.cells #[.int .u8 58] 5))):=(Below.refl _ wr).alloc (le_refl _) _;have HRu:=hid (HR.out.below HBu.out);have HAu:Hid ((wr.alloc (.cells #[.int .u8 58] 5)).heap[w.heap.size]? = some (.cells (ai a).toArray 24 (0,0))):=(HBu.out.block _ hzA).trans HA.out
    have HNu:Hid (∀ j u,(bys [58])[j]? = some u->(wr.alloc (.cells #[.int .u8 58] 5)).cell? ((⟨wr.heap.size,0,none⟩:Addr).add j)=some u):=by
     intro j u hj;match j,hj with
     | 0,hj =>
      rw[jn];have e:(bys [58])[0]? = some (.int .u8 58):=rfl;rw[e]at hj;rw[<-hj];have:=dM wr #[.int .u8 58] 5;simp only[World.cell?,this];rfl
     | j+1,hj=>simp[bys]at hj
    have hsu:base<=(wr.alloc (.cells #[.int .u8 58] 5)).heap.size:=le_trans hsb HBu.out.size;have hlb:(l++tl a f i).length+1<=2000000:=by rw[length_append];omega
    have HLB:=hid hlb;clear HNX HFI hlb;go_wp2_with((at_builtin;refine fl _ rfl _ _ 42 rfl base 5 i0 underlying42 hi0 hz0 hz1 hz2 _ (l++tl a f i) rfl HRu.out ⟨wr.heap.size,0,none⟩ 1 1 [58] rfl rfl HNu.out (by have:=HLB.out;omega) hsu ?_;intro v' w4 hown4 hgrow4;obtain⟨p4,n4,c4,rfl⟩:=hown4.form;have hA4:=(hgrow4.block _ (lt_of_lt_of_le hzA HBu.out.size) (HRu.out.apart HAu.out (by decide))).trans HAu.out;have hsrc4:=cJ hA4 (j:=i) (by rw[HL8.out];exact hi8);rw[HXX.out]at hsrc4));have HB4:=hid ((HBu.out.mono hsb).grown hgrow4 hsu (fun k hk=>(HRu.out.lt k hk).1));have HA4:=hid hA4;have hs4:base<=w4.heap.size:=le_trans hsu hgrow4.size;have hl4:(l++tl a f i++[58]).length<=10000000:=by have:=HLB.out;rw[length_append];simp only[length_cons,List.length_nil];omega
    have HAP:=hid (mb base _ (l++tl a f i++[58]) x hv w4 (HT.out.at HB4.out hg) hl4 hown4 hs4);have HO4:=hid hown4;clear hA4 hgrow4 hown4 hl4 HRu HAu HNu HBu hsrc HR HA;refine HAP.out.mono ?_;rintro e w5 ⟨v5,rfl,h5,g5⟩;obtain⟨p5,n5,c5,rfl⟩:=h5.form;have HA5:Hid (w5.heap[w.heap.size]? = some (.cells (ai a).toArray 24 (0,0))):=(g5.block _ (Array.getElem?_eq_some_iff.1 HA4.out).1 (HO4.out.apart HA4.out (by decide))).trans HA4.out;have HB5:=hid (HB4.out.grown g5 hs4 (fun k hk=>(HO4.out.lt k hk).1));have HT5:=hid (HT.out.at HB5.out hg)
    have HR5:Hid (Bts 5 w5 base (.slice p5 n5 c5) (l++tl a f (i+1))):=by
     show Bts _ _ _ _ _;rw[HN2.out];have e:l++(tl a f i++[58]++aU false false x)=l++tl a f i++[58]++aU false false x:=by simp
     rw[e];exact h5
    have HB6:=hid (HB.out.trans HB5.out);clear HB5 HB4 HA4 HO4 HAP h5 g5 HN2 HT HB hsrc4;go_wp2_with fail
    go_roundw
    case rel=>exact⟨i+1,n5,c5,p5,by omega,by omega,rfl,by go_num,HR5,HA5,HT5,HB6⟩
    case measure=>simp[intOf];omega
   ·have hfe:f=i:=by omega
    have hfz:¬ (f:Int)<(i:Int):=by omega
    have HN2:=hid (HFI.out hfe);have HNL:Hid (tl a f i=[]):=by show _=_;rw[<-hfe];exact HNIL.out
    have HAP:=hid (mb base _ (l++tl a f i) x hv wr HT.out (by rw[length_append];omega) HR.out hsb);clear HNX HFI hfe;go_wp2_with fail;refine HAP.out.mono ?_;rintro e w5 ⟨v5,rfl,h5,g5⟩;obtain⟨p5,n5,c5,rfl⟩:=h5.form;have HA5:Hid (w5.heap[w.heap.size]? = some (.cells (ai a).toArray 24 (0,0))):=(g5.block _ hzA (HR.out.apart HA.out (by decide))).trans HA.out;have HB5:=hid ((Below.refl base wr).grown g5 hsb (fun k hk=>(HR.out.lt k hk).1));have HT5:=hid (HT.out.at HB5.out hg);have HR5:Hid (Bts 5 w5 base (.slice p5 n5 c5) (l++tl a f (i+1))):=by show Bts _ _ _ _ _;rw[HN2.out];rw[HNL.out,List.append_nil]at h5;exact h5
    have HB6:=hid (HB.out.trans HB5.out);clear HB5 HAP h5 g5 HN2 HNL HT HB hsrc HR HA;go_wp2_with fail
    go_roundw
    case rel=>exact⟨i+1,n5,c5,p5,by omega,by omega,rfl,by go_num,HR5,HA5,HT5,HB6⟩
    case measure=>simp[intOf];omega
  ·have hin2:i=n:=by omega
   have hltz:¬ (i:Int)<(n:Int):=by omega
   have HR5:Hid (Bts 5 wr base (.slice p0 n0 c0) (l++tl a f n)):=by rw[<-hin2];exact HR
   clear HR hin2;go_wp2;go_ret;exact⟨_,rfl,HR5.out,HB.out⟩
theorem BA{a:List Nat}(h:a.length=8):∃ a0 a1 a2 a3 a4 a5 a6 a7,a=[a0,a1,a2,a3,a4,a5,a6,a7]:=by
 match a,h with
 | [a0,a1,a2,a3,a4,a5,a6,a7],_=>exact⟨a0,a1,a2,a3,a4,a5,a6,a7,rfl⟩
theorem Dz(a:List Nat)(h8:a.length=8)(hs:Small a)(base:Nat)(v:Value)(l:List Int)(f n:Nat)(hf:f<=n)(hn8:n<=8)(w:World)(hT:Tab w)(hg:8<base)(hl:l.length<=1000000)(ag:Bts 5 w base v l)(hb:base<=w.heap.size):
  Calls prog 146 #[v,.agg (ai a).toArray,.int .i64 (f:Int),.int .i64 (n:Int)] w fun e W'=>∃ v',e=.returned v'/\Bts 5 W' base v' (l++tl a f n)/\Below base w W':=by
 obtain⟨a0,a1,a2,a3,a4,a5,a6,a7,rfl⟩:=BA h8;exact tA a0 a1 a2 a3 a4 a5 a6 a7 hs base v l f n hf hn8 w hT hg hl ag hb
end X
end Go.Proofs.YtlmflmdmolcfhaaGreatDoor
namespace Go.Proofs
open Go.Shelf Go.RowKit
shelf_lay Lays.n149 Nm 149 at Tryz as Tryz.laysLastX
shelf_lay Lays.n144 Nm 144 at Tryz as Tryz.laysConX
end Go.Proofs
namespace Go.Proofs.YtlmflmdmolcfhaaGreatDoor
open Tryz Go.RowKit
namespace X
open F (hx bn aa bz cj hid ar)
theorem sL(s:ByteArray)(j:Nat)(h:j<s.size):((s.data[j]!).toNat:Int)=(bn s)[j]?.getD 0:=by rw[bz s j h];have h5:j<s.data.size:=h;rw[getElem!_pos s.data j h5];rfl
theorem xI(s:ByteArray):∃ k:Nat,k<=s.size/\Lib.lastIndexByte s 58=(k:Int) - 1/\¬ 58∈(bn s).drop k/\((bn s).take k=[]\/∃ Y,(bn s).take k=Y++[58]):=by
 have hl:=aa s;rcases Lib.lastIndexByte_spec s 58 with⟨h1,h2⟩ | ⟨i,hi,h1,h2,h3⟩
 ·refine⟨0,zero_le _,by rw[h1];rfl,?_,.inl rfl⟩;rw[List.drop_zero];intro h;obtain⟨j,hj,e⟩:=List.mem_iff_getElem.1 h;have:=h2 j (by omega);rw[sL s j (by omega),getElem?_eq_getElem hj]at this;exact this e
 ·refine⟨i+1,by omega,by rw[h1];omega,?_,.inr ⟨(bn s).take i,?_⟩⟩
  ·intro h;obtain⟨j,hj,e⟩:=List.mem_iff_getElem.1 h;rw[length_drop]at hj;rw[List.getElem_drop]at e;have:=h3 (i+1+j) (by omega) (by omega);rw[sL s _ (by omega),getElem?_eq_getElem (by omega)]at this;exact this e
  ·rw[pX _ _ (by omega),<-sL s i hi,h2]
theorem Mv(t:ByteArray):decide (0<=Lib.indexByte t.data.toList 46)=decide (46∈bn t):=by
 apply decide_eq_decide.2;have hm:(46:Int)∈bn t↔(46:UInt8)∈t.data.toList:=fM (b:=46) (l:=t.data.toList);rw[hm];have hge:=Lib.indexByte_ge t.data.toList 46;constructor
 ·intro h;obtain⟨i,hi⟩:∃ i:Nat,Lib.indexByte t.data.toList 46=i:=⟨(Lib.indexByte t.data.toList 46).toNat,by omega⟩;exact List.mem_of_getElem? (Lib.indexByte_some hi).1
 ·intro h;by_cases hm:Lib.indexByte t.data.toList 46=-1
  ·obtain⟨j,hj,e⟩:=List.mem_iff_getElem.1 h;exact absurd (by rw[getElem?_eq_getElem hj,e]) (Lib.indexByte_none hm j)
  ·omega
theorem BG(s:ByteArray)(k:Nat)(hk:Lib.lastIndexByte s 58=(k:Int) - 1)(hs:s.size<=1000000000)(w:World):Calls prog 254 #[.string s,.int .u8 58] w fun e W'=>e=.returned (.int .i64 ((k:Int) - 1))/\W'=w:=by
 have hf:Tryz.laysLastX_ren.f 149=254:=by kernel_rfl
 have h:=Any.strings_LastIndexByte Tryz.laysLastX s 58 (by omega) w;rw[hf,hk]at h;exact h
theorem MW(t:ByteArray)(b:Bool)(hb:decide (46∈bn t)=b)(w:World):Calls prog 255 #[.string t,.string ⟨#[46]⟩] w fun e W'=>e=.returned (.bool b)/\W'=w:=by
 have hf:Tryz.laysConX_ren.f 144=255:=by kernel_rfl
 have h:=Any.strings_Contains_one Tryz.laysConX t 46 w;rw[hf,Mv,hb]at h;exact h
def Jd(l:List Int)(s:ByteArray)(e:Ending):Prop:=∃ X p,l=X++p/\¬ 58∈p/\(X=[]\/∃ Y,X=Y++[58]) /\
 ((¬ 46∈p/\e=.returned (.tuple #[.string s,.bool true]))\/(46∈p/\dt p=none/\e=.returned (.tuple #[.string ⟨#[]⟩,.bool false])) \/
  (46∈p/\∃(h l:Nat) (t:ByteArray),h<65536/\l<65536/\dt p=some [h,l]/\bn t=X++(aU false false h++58::aU false false l)/\t.size<=s.size+10/\e=.returned (.tuple #[.string t,.bool true])))
theorem IH(s:ByteArray)(k:Nat)(hk:k<=s.size):bn (s.extract 0 k)=(bn s).take k:=by rw[yq s 0 k (zero_le _) hk];simp
theorem Rl(h l:Nat)(hh:h<65536)(hl:l<65536)(base:Nat)(v:Value)(x:List Int)(w:World)(hT:Tab w)(hg:8<base)(hx:x.length<=1000000)(ag:Bts 5 w base v x)(hb:base<=w.heap.size):
  Calls prog 146 #[v,.agg #[.int .u16 h,.int .u16 l,.int .u16 0,.int .u16 0,.int .u16 0,.int .u16 0,.int .u16 0,.int .u16 0],.int .i64 0,.int .i64 2] w fun e W'=>∃ v',e=.returned v'/\Bts 5 W' base v' (x++(aU false false h++58::aU false false l))/\Below base w W' :=
 tA h l 0 0 0 0 0 0 (by intro y hy;simp at hy;omega) base v x 0 2 (by omega) (by omega) w hT hg hx ag hb
theorem eo(s:ByteArray)(hs:s.size<=100000)(w:World)(hE:Er w)(hM:Mx w)(hT:Tab w):Calls prog 229 #[.string s] w fun e W'=>Jd (bn s) s e/\Below w.heap.size w W':=by
 obtain⟨k,hks,hk,h58,hX⟩:=xI s;have HLB:=hid (BG s k hk (by omega));have hbp:=ar s k;have hbx:=IH s k hks;have hcat:bn s=(bn s).take k++(bn s).drop k:=(List.take_append_drop k (bn s)).symm
 have HMK:Hid (∀ e,((¬ 46∈(bn s).drop k/\e=.returned (.tuple #[.string s,.bool true]))\/(46∈(bn s).drop k/\dt ((bn s).drop k)=none/\e=.returned (.tuple #[.string ⟨#[]⟩,.bool false])) \/
  (46∈(bn s).drop k/\∃(h l:Nat) (t:ByteArray),h<65536/\l<65536/\dt ((bn s).drop k)=some [h,l]/\bn t=(bn s).take k++(aU false false h++58::aU false false l)/\t.size<=s.size+10/\e=.returned (.tuple #[.string t,.bool true])))->Jd (bn s) s e):=fun e h=>⟨_,_,hcat,h58,hX,h⟩
 have hpz:(s.extract k s.size).size=s.size - k:=by simp
 have hxz:(s.extract 0 k).size=k:=by simp;omega
 have HCO:=hid (fun b hb=>MW (s.extract k s.size) b hb);have HPA:=hid (nS (s.extract k s.size) (by omega) w hE hM);have HBX:=hid (fun(t:ByteArray) (j:Nat) (hj:j<t.size)=>cj hj);have hgT:=Lib.lt_of_cell (show w.cell? ⟨8,15,none⟩=some (.int .u8 4) from hT);rw[hbp]at HCO HPA;have hcat2:((bn s).take k).length=k:=by rw[length_take,aa];omega
 have HXB:Hid (∀ x∈(bn s).take k,0<=x/\x<=255):=fun x hx=>by obtain⟨j,hj,e⟩:=List.mem_iff_getElem.1 (List.mem_of_mem_take hx);have:=cj (s:=s) (i:=j) (by rw[<-aa];exact hj);rw[getElem?_eq_getElem hj]at this;rw[<-e];exact this
 obtain⟨R,hR⟩:=Ex' (Jd (bn s) s);rw[hR]at HMK ⊢;obtain⟨p,hp⟩:=Ex' ((bn s).drop k);obtain⟨x,hx⟩:=Ex' ((bn s).take k);rw[hp]at HMK HCO HPA;rw[hx]at HMK hbx hcat2 HXB;have HBXX:=hid hbx;have HCL:=hid hcat2;obtain⟨P,hP⟩:=Ex' (s.extract k s.size);have HPP:=hid hP;rw[hP]at HCO HPA;have hkz:(k:Int)<=(s.size:Int):=by omega
 clear hR hp hx hcat h58 hX hk hbp hbx hE hM hcat2 hpz hP HBX;by_cases hd:46∈p
 ·have HD:=hid hd;have HC1:=hid (HCO.out true (decide_eq_true hd));clear HCO hd;go_enter func229,ntmps229
  go_wp2_with(first
    | (go_at_call 254;refine(HLB.out _).mono ?_;rintro e w2 ⟨rfl,hw2⟩;obtain rfl:=hw2.symm)
    | (go_at_call 255;rw[HPP.out];refine(HC1.out _).mono ?_;rintro e w2 ⟨rfl,hw2⟩;obtain rfl:=hw2.symm))
  refine HPA.out.mono ?_;rintro e w1 ⟨hpr,B1⟩;have HB1:=hid B1;have HT1:=hid (hT.below B1 (le_refl _));have hz1:=B1.size;clear B1 HPA;rcases hpr with⟨h,l,hdt,hh,hl,rfl⟩ | ⟨hdt,rfl⟩
  ·have hcv:=Lib.run_convert_string_bytes (P:=prog) w1 9 42 5 (s.extract 0 k) (u:=.string) underlying9 underlying42 underlying5;have hbt:=we w1 5 (s.extract 0 k) (by omega);have hb2:=wN w1 5 (s.extract 0 k);rw[HBXX.out]at hbt;rw[hxz]at hcv hbt;obtain⟨c,hc⟩:=Ex' (grownCap w1 k 0 5);obtain⟨W2,hW2⟩:=Ex' (Lib.bytesWorld w1 5 (s.extract 0 k));rw[hc,hW2]at hcv hbt;rw[hW2]at hb2;have HB2:=hid hb2;have HBT:=hid hbt;have HT2:=hid (HT1.out.below hb2 (le_refl _));have HDT:=hid hdt;have HTL:=hid (Rl h l hh hl w1.heap.size _ x W2 HT2.out (by omega) (by rw[HCL.out];omega) HBT.out hb2.size);clear hc hW2 hbt hb2 hdt;go_wp2_with fail;refine HTL.out.mono ?_;rintro e w3 ⟨v',rfl,h3,B3⟩;have hlh:=gm false false h;have hll:=gm false false l;obtain⟨y,hy⟩:=Ex' (x++(aU false false h++58::aU false false l));have hylen:y.length<=k+10/\y≠[]:=by rw[<-hy];refine⟨?_,by simp⟩;simp only[length_append,length_cons,HCL.out];omega
   rw[hy]at h3
   have hyb:∀ b∈y,0<=b/\b<=255:=by
    intro b hb;rw[<-hy]at hb;rcases List.mem_append.1 hb with hb | hb
    ·exact HXB.out b hb
    ·rcases List.mem_append.1 hb with hb | hb
     ·exact jM hh b hb
     ·rcases List.mem_cons.1 hb with rfl | hb
      ·decide
      ·exact jM hl b hb
   obtain⟨g,c3,rfl,_,_,_,hcells⟩:=h3.there hylen.2;obtain⟨t,hcv3,ht⟩:=sQ w3 g 0 y.length c3 y rfl hyb (fun j hj=>by rw[zero_add];exact hcells j hj);have hts:t.size<=s.size+10:=by rw[<-aa,ht];omega
   have HR:=hid (HMK.out (.returned (.tuple #[.string t,.bool true])) (.inr (.inr ⟨HD.out,h,l,t,hh,hl,HDT.out,by rw[ht,<-hy],hts,rfl⟩)));have HBF:Hid (Below w.heap.size w w3):=HB1.out.trans ((HB2.out.mono hz1).trans (B3.mono hz1));obtain⟨n3,hn3⟩:=Ex' y.length;rw[hn3]at hcv3 ⊢;clear hn3 hy hylen h3 hyb hcells ht hts B3 HTL HMK HDT HD HBT HT2 HB2 HT1 HB1 hlh hll;go_wp2;go_ret2;exact⟨HR.out,HBF.out⟩
  ·have HR:=hid (HMK.out _ (.inr (.inl ⟨HD.out,hdt,rfl⟩)));clear HMK hdt;go_wp2;go_ret2;exact⟨HR.out,HB1.out⟩
 ·have HR:=hid (HMK.out _ (.inl ⟨hd,rfl⟩));have HC1:=hid (HCO.out false (decide_eq_false hd));clear HCO hd HMK HPA;go_enter func229,ntmps229
  go_wp2_with(first
    | (go_at_call 254;refine(HLB.out _).mono ?_;rintro e w2 ⟨rfl,hw2⟩;obtain rfl:=hw2.symm)
    | (go_at_call 255;rw[HPP.out];refine(HC1.out _).mono ?_;rintro e w2 ⟨rfl,hw2⟩;obtain rfl:=hw2.symm))
  go_ret2;exact⟨HR.out,Below.refl _ _⟩
open F (hx bn)
def pz(a:List Nat)(w:World)(e:Ending)(W':World):Prop:=(∃ t,e=.returned (.string t)/\bn t=txt a)/\Below w.heap.size w W'
open F (hx)
open F (hx)
theorem Fh(xs:Array Value)(i:Nat)(x:Int)(h:xs[i]? = some (.int .u16 x))(w:World):(part 23 xs i).run prog w=.ok (.int .u16 x) w:=by unfold part;simp[h,go_sem]
theorem zQ(d:Nat)(xs ys:Array Value)(f g:Nat->Int)(w:World):∀(L:List Nat),(∀ i∈L,xs[i]? = some (.int .u16 (f i)))->(∀ i∈L,ys[i]? = some (.int .u16 (g i))) ->
  Sem.run prog (forIn L ((none:Option Bool),()) fun i __s=>do
          let a <-part 23 xs (i * 1)
          let b <-part 23 ys (i * 1)
          let r <-Op.equalIn (d+1) 23 a b
          if (!r)=true then pure (ForInStep.done (some false,())) else pure (ForInStep.yield (none,()))) w=.ok ((if L.all (fun i=>f i==g i)=true then none else some false),()) w
 | [],_,_=>by simp
 | i::L,hx,hy=>by
  have ih:=zQ d xs ys f g w L (fun j hj=>hx j (by simp[hj])) (fun j hj=>hy j (by simp[hj]));have e:i * 1=i:=mul_one i;simp only[List.forIn_cons,Sem.run_bind,e,Fh xs i _ (hx i (by simp)),Fh ys i _ (hy i (by simp)),Result.andThen_ok,run_equalIn_int w d 23 .u16 .u16 _ _ underlying23];cases h:(f i==g i) with
  | true=>simp only[Bool.not_true,Bool.false_eq_true,if_false,Sem.run_pure,Result.andThen_ok,List.all_cons,h,Bool.true_and];simpa using ih
  | false=>simp[h]
theorem eq8(d:Nat)(xs ys:Array Value)(f g:Nat->Int)(hx:∀ i,i<8->xs[i]? = some (.int .u16 (f i)))(hy:∀ i,i<8->ys[i]? = some (.int .u16 (g i)))(w:World):(Op.equalIn (d+2) 24 (.agg xs) (.agg ys)).run prog w=.ok ((List.range 8).all (fun i=>f i==g i)) w:=by
 have hs:∀ w,(sizeOf 23).run prog w=.ok 1 w:=fun w=>by kernel_rfl
 rw[Op.equalIn];simp only[Sem.run_bind,run_underlying underlying24,Result.andThen_ok,hs];rw[Std.Legacy.Range.forIn_eq_forIn_range'];have e:List.range' ([:8]:Std.Legacy.Range).start ([:8]:Std.Legacy.Range).size ([:8]:Std.Legacy.Range).step=List.range 8:=by decide
 rw[e];have h:=zQ d xs ys f g w (List.range 8) (fun i hi=>hx i (List.mem_range.1 hi)) (fun i hi=>hy i (List.mem_range.1 hi));rw[h];simp only[Result.andThen_ok];cases (List.range 8).all (fun i=>f i==g i) <;> simp
theorem Dd{X:List Nat}(h:X.length=8)(i:Nat)(hi:i<8):(ai X).toArray[i]? = some (.int .u16 ((X[i]?.getD 0:Nat):Int)):=by unfold ai;simp[h,hi]
def err(o:Option (List Nat)):Int:=if o.isSome=true then 0 else 8
end X
end Go.Proofs.YtlmflmdmolcfhaaGreatDoor
namespace Go.Proofs
open Go.Shelf Go.RowKit
shelf_lay Lays.n145 Nm 145 at Tryz as Tryz.laysCutX
end Go.Proofs
namespace Go.Proofs.YtlmflmdmolcfhaaGreatDoor
open Tryz Go.RowKit
namespace X
open F (hid)
def Edg(A B X:List Nat)(q i:Nat):Prop:=X.length=8/\∀ j,X[j]?.getD 0=if 8 - q<=j/\j<8 - q+i then B[j - (8 - q)]?.getD 0 else A[j]?.getD 0
theorem Edg.start{A B:List Nat}{q:Nat}(hA:A.length=8):Edg A B A q 0:=⟨hA,fun j=>by rw[if_neg (by omega)]⟩
theorem Edg.step{A B X:List Nat}{q i v:Nat}(h:Edg A B X q i)(hi:i<q)(hq:q<=8)(hv:B[i]?.getD 0=v):Edg A B (X.set (8 - q+i) v) q (i+1):=by
 obtain⟨h8,h⟩:=h;refine⟨by rw[List.length_set];exact h8,fun j=>?_⟩;by_cases e:j=8 - q+i
 ·rw[e,List.getElem?_set_self (by omega),if_pos (by omega),show 8 - q+i - (8 - q)=i by omega,hv];rfl
 ·rw[List.getElem?_set_ne (by omega),h j];by_cases e2:8 - q<=j/\j<8 - q+i
  ·rw[if_pos e2,if_pos (by omega)]
  ·rw[if_neg e2,if_neg (by omega)]
theorem xY(a0 a1 a2 a3 a4 a5 a6 a7 b0 b1 b2 b3 b4 b5 b6 b7 q:Nat)(hq:q<=8)(w:World):
  Calls prog 232 #[.agg #[.int .u16 a0,.int .u16 a1,.int .u16 a2,.int .u16 a3,.int .u16 a4,.int .u16 a5,.int .u16 a6,.int .u16 a7],.agg #[.int .u16 b0,.int .u16 b1,.int .u16 b2,.int .u16 b3,.int .u16 b4,.int .u16 b5,.int .u16 b6,.int .u16 b7],.int .i64 (q:Int)] w fun e W'=>(∃ X,Edg [a0,a1,a2,a3,a4,a5,a6,a7] [b0,b1,b2,b3,b4,b5,b6,b7] X q q/\e=.returned (.agg (ai X).toArray))/\Below w.heap.size w W':=by
 obtain⟨w1,hw1⟩:=Ex' (w.alloc (.cells #[.int .u16 a0,.int .u16 a1,.int .u16 a2,.int .u16 a3,.int .u16 a4,.int .u16 a5,.int .u16 a6,.int .u16 a7] 24));obtain⟨w2,hw2⟩:=Ex' (w1.alloc (.cells #[.int .u16 b0,.int .u16 b1,.int .u16 b2,.int .u16 b3,.int .u16 b4,.int .u16 b5,.int .u16 b6,.int .u16 b7] 24));obtain⟨w3,hw3⟩:=Ex' (w2.alloc (.cells #[.int .u16 0,.int .u16 0,.int .u16 0,.int .u16 0,.int .u16 0,.int .u16 0,.int .u16 0,.int .u16 0] 24));have hz1:w1.heap.size=w.heap.size+1:=by rw[<-hw1];simp
 have hz2:w2.heap.size=w.heap.size+2:=by rw[<-hw2];simp[hz1]
 have B1:Below w1.heap.size w1 w2:=by rw[<-hw2];exact(Below.refl _ _).alloc (le_refl _) _
 have B2:Below w2.heap.size w2 w3:=by rw[<-hw3];exact(Below.refl _ _).alloc (le_refl _) _
 have HA:Hid (w3.heap[w.heap.size]? = some (.cells (ai [a0,a1,a2,a3,a4,a5,a6,a7]).toArray 24 (0,0))):=by show _=_;rw[B2.block _ (by omega),B1.block _ (by omega),<-hw1];exact dM w _ _
 have HB:Hid (w3.heap[w.heap.size+1]? = some (.cells (ai [b0,b1,b2,b3,b4,b5,b6,b7]).toArray 24 (0,0))):=by show _=_;rw[B2.block _ (by omega),<-hw2,<-hz1];exact dM w1 _ _
 have HR:Hid (w3.heap[w.heap.size+2]? = some (.cells (ai z8).toArray 24 (0,0))):=by show _=_;rw[<-hw3,<-hz2];exact dM w2 _ _
 have HBW:Hid (Below w.heap.size w w3):=by
  have B0:Below w.heap.size w w1:=by rw[<-hw1];exact(Below.refl _ _).alloc (le_refl _) _
  exact B0.trans ((B1.mono (by omega)).trans (B2.mono (by omega)))
 have HW:Hid (((w.alloc (.cells #[.int .u16 a0,.int .u16 a1,.int .u16 a2,.int .u16 a3,.int .u16 a4,.int .u16 a5,.int .u16 a6,.int .u16 a7] 24)).alloc (.cells #[.int .u16 b0,.int .u16 b1,.int .u16 b2,.int .u16 b3,.int .u16 b4,.int .u16 b5,.int .u16 b6,.int .u16 b7] 24)).alloc (.cells #[.int .u16 0,.int .u16 0,.int .u16 0,.int .u16 0,.int .u16 0,.int .u16 0,.int .u16 0,.int .u16 0] 24)=w3):=by show _=_;rw[hw1,hw2,hw3]
 clear hw1 hw2 hw3 B1 B2 hz1 hz2;have hlA:[a0,a1,a2,a3,a4,a5,a6,a7].length=8:=rfl;have HLB:Hid ([b0,b1,b2,b3,b4,b5,b6,b7].length=8):=rfl;obtain⟨A,hA⟩:=Ex' ([a0,a1,a2,a3,a4,a5,a6,a7]);obtain⟨B,hB⟩:=Ex' ([b0,b1,b2,b3,b4,b5,b6,b7]);rw[hA]at hlA HA ⊢;rw[hB]at HLB HB ⊢;have HST:=hid (Edg.start (B:=B) (q:=q) hlA);clear hA hB hlA;go_enter func232,ntmps232;go_wp2_with fail;rw[HW.out];obtain⟨arg,harg⟩:=Ex' (Value.agg #[.int .u16 a0,.int .u16 a1,.int .u16 a2,.int .u16 a3,.int .u16 a4,.int .u16 a5,.int .u16 a6,.int .u16 a7]:Value);obtain⟨arb,harb⟩:=Ex' (Value.agg #[.int .u16 b0,.int .u16 b1,.int .u16 b2,.int .u16 b3,.int .u16 b4,.int .u16 b5,.int .u16 b6,.int .u16 b7]:Value);rw[harg,harb];clear HW harg harb
 go_loopw [9] (fun v9 wr=>∃(i:Nat) (X:List Nat),i<=q/\v9=.int .i64 (i:Int)/\Hid (Edg A B X q i)/\Hid (wr.heap[w.heap.size]? = some (.cells (ai X).toArray 24 (0,0)))/\Hid (wr.heap[w.heap.size+1]? = some (.cells (ai B).toArray 24 (0,0)))/\Hid (wr.heap[w.heap.size+2]? = some (.cells (ai z8).toArray 24 (0,0)))/\Hid (Below w.heap.size w wr)) (fun v9 _=>q - (intOf v9).toNat)
 case atStart=>exact⟨0,A,by omega,rfl,HST,HA,HB,HR,HBW⟩
 case round =>
  obtain⟨i,X,hi,rfl,HE,HA,HB,HR,HBW⟩:=hrel;have HXL:=hid HE.out.1;by_cases hlt:i<q
  ·have hltz:(i:Int)<(q:Int):=by omega
   have hsrc:=cJ HB.out (j:=i) (by rw[HLB.out];omega);obtain⟨v,hv⟩:=Ex' (B[i]?.getD 0);rw[hv]at hsrc;have HE2:=hid (HE.out.step hlt hq hv);obtain⟨k,hk⟩:=Ex' (8 - q+i);have hkz:(8:Int) - (q:Int)+(i:Int)=(k:Int):=by omega
   have hk8:k<8:=by omega
   have hk8z:(k:Int)<8:=by omega
   rw[hk]at HE2;have hdst:=cJ HA.out (j:=k) (by rw[HXL.out];exact hk8);have hfz:=frozen_of_row wr w.heap.size k _ _ HA.out;have HA2:Hid ((wr.setCell ⟨w.heap.size,k,none⟩ (.int .u16 (v:Nat))).heap[w.heap.size]? = some (.cells (ai (X.set k v)).toArray 24 (0,0))):=by show _=_;rw[heap_setCell_same wr _ k _ _ _ HA.out,mJ]
   have HB2:Hid ((wr.setCell ⟨w.heap.size,k,none⟩ (.int .u16 (v:Nat))).heap[w.heap.size+1]? = some (.cells (ai B).toArray 24 (0,0))):=(heap_setCell_other wr _ _ _ (by simp)).trans HB.out;have HR2:Hid ((wr.setCell ⟨w.heap.size,k,none⟩ (.int .u16 (v:Nat))).heap[w.heap.size+2]? = some (.cells (ai z8).toArray 24 (0,0))):=(heap_setCell_other wr _ _ _ (by simp)).trans HR.out;have HW2:=hid (HBW.out.setCell (p:=⟨w.heap.size,k,none⟩) (le_refl _) (.int .u16 (v:Nat)));clear hv HE hk;go_wp2_with fail
   go_roundw
   case rel=>exact⟨i+1,X.set k v,by omega,by go_num,HE2,HA2,HB2,HR2,HW2⟩
   case measure=>simp[intOf];omega
  ·have hiq:i=q:=by omega
   have hltz:¬ (i:Int)<(q:Int):=by omega
   have HE2:Hid (Edg A B X q q):=by rw[hiq]at HE;exact HE
   clear HE hiq
   go_wp2_with(first
     | (refine wpList_load_row rfl 24 (.tmp 3) rfl w.heap.size rfl 24 (ai X).toArray (0,0) _ HA.out underlying24 rfl (aG HXL.out) ?_)
     | (refine wpList_store_row rfl 24 (.tmp 6) (.tmp 21) rfl (w.heap.size+2) (ai X).toArray rfl rfl 24 (ai z8).toArray HR.out (aG HXL.out) ((aY rfl).trans (aY HXL.out).symm) (dh X) ?_))
   exact bodyPost_ret (results_cell_row results232 _ _ (w.heap.size+2) 24 (ai X).toArray (0,0) _ rfl (aP HR.out) underlying24 rfl (aG HXL.out)) rfl ⟨⟨X,HE2.out,rfl⟩,ax HBW.out (by omega) _⟩
theorem xZ(F B:List Nat)(hF:F.length+B.length<=7\/(F.length=8/\B=[]))(w:World):
  Calls prog 232 #[.agg (ai (F++z (8 - F.length))).toArray,.agg (ai (B++z (8 - B.length))).toArray,.int .i64 (B.length:Int)] w fun e W'=>e=.returned (.agg (ai (F++List.replicate (8 - B.length - F.length) 0++B)).toArray)/\Below w.heap.size w W':=by
 have hq:F.length+B.length<=8:=by
  rcases hF with h | ⟨h,rfl⟩
  ·omega
  ·simp[h]
 have lz:∀ L:List Nat,L.length<=8->(L++z (8 - L.length)).length=8:=fun L h=>by unfold z;simp;omega
 obtain⟨a0,a1,a2,a3,a4,a5,a6,a7,ha⟩:=BA (lz F (by omega));obtain⟨b0,b1,b2,b3,b4,b5,b6,b7,hb⟩:=BA (lz B (by omega));have h:=xY a0 a1 a2 a3 a4 a5 a6 a7 b0 b1 b2 b3 b4 b5 b6 b7 B.length (by omega) w;rw[<-ha,<-hb]at h;rw[ha,hb];refine Calls.mono h ?_;rintro e W' ⟨⟨X,⟨h8,hX⟩,rfl⟩,hB⟩;refine⟨?_,hB⟩
 have e:X=F++List.replicate (8 - B.length - F.length) 0++B:=by
  refine MI h8 (by simp;omega) (fun j hj=>?_);rw[hX j]
  have zat:∀(L:List Nat) (k:Nat),k<=7->L.length<=8->(L++z (8 - L.length))[k]?.getD 0=if k<L.length then L[k]?.getD 0 else 0:=fun L k hk hL=>by
   by_cases h:k<L.length
   ·rw[if_pos h,List.getElem?_append_left h]
   ·rw[if_neg h,List.getElem?_append_right (by omega)];unfold z;rw[List.getElem?_replicate];split <;> rfl
  by_cases e:j<F.length
  ·rw[if_neg (by omega),zat F j (by omega) (by omega),if_pos e,append_assoc,List.getElem?_append_left e]
  ·by_cases e2:8 - B.length<=j
   ·rw[if_pos (by omega),zat B _ (by omega) (by omega),if_pos (by omega),List.getElem?_append_right (by simp;omega)];congr 2;simp;omega
   ·rw[if_neg (by omega),zat F j (by omega) (by omega),if_neg e,append_assoc,List.getElem?_append_right (by omega),List.getElem?_append_left (by simp;omega),List.getElem?_replicate,if_pos (by omega)];rfl
 rw[e]
open F (bn aa hid)
def Re(U:ByteArray)(e:Ending):Prop:=∃(f b:ByteArray) (sh:Bool),e=.returned (.tuple #[.string f,.string b,.bool sh])/\f.size<=U.size/\b.size<=U.size/\((sh=false/\pp (bn U)=full (rwd (bn f))/\rwd (bn b)=some [])\/(sh=true/\pp (bn U)=both (rwd (bn f)) (rwd (bn b))))
theorem below_drewN{B:Nat}{a w:World}(h:Below B a w)(n:Nat):Below B a (w.drewN n):=⟨h.os,h.tape,h.output,h.size,h.block⟩
theorem sX(l:List UInt8):bn ⟨l.toArray⟩=nn l:=by unfold bn nn;simp
theorem fw(U:ByteArray)(hU:U.size<=1000000000)(w:World)(hM:Mx w):Calls prog 230 #[.string U,.string ⟨#[58,58]⟩] w fun e W'=>Re U e/\Below w.heap.size w W':=by
 obtain⟨m,hm⟩:=hM;have hf:Tryz.laysCutX_ren.f 145=230:=by kernel_rfl
 have hg:Tryz.laysCutX_ren.g 1=3:=by kernel_rfl
 have h:=Any.strings_Cut Tryz.laysCutX U ⟨#[58,58]⟩ m w (by omega) (by rw[hg];exact hm);rw[hf]at h;refine h.mono ?_;rintro e W' ⟨rfl,n,rfl⟩;refine⟨⟨_,_,_,rfl,?_,?_,?_⟩,below_drewN (Below.refl _ _) n⟩
 ·have e0:(⟨#[58,58]⟩:ByteArray).data.toList=[58,58]:=rfl;rw[e0,<-aa,sX,<-aa U];rcases sN U.data.toList with⟨_,h2⟩ | ⟨_,h2,_⟩
  ·rw[h2];exact le_refl _
  ·rw[h2,length_take];exact Nat.min_le_right _ _
 ·have e0:(⟨#[58,58]⟩:ByteArray).data.toList=[58,58]:=rfl;rw[e0,<-aa,sX,<-aa U];rcases sN U.data.toList with⟨_,h2⟩ | ⟨_,_,h2,_⟩
  ·rw[h2];exact zero_le _
  ·rw[h2,length_drop];exact Nat.sub_le _ _
 ·have e0:(⟨#[58,58]⟩:ByteArray).data.toList=[58,58]:=rfl;rw[e0];have hb1:=sX (Lib.cut U.data.toList [58,58]).1;have hb2:=sX (Lib.cut U.data.toList [58,58]).2.1;have hU0:bn U=nn U.data.toList:=rfl;rw[hb1,hb2,hU0];rcases sN U.data.toList with⟨h1,h2⟩ | ⟨h1,h2,h3,h4⟩
  ·left;rw[h2];refine⟨rfl,?_,rfl⟩;unfold pp;rw[if_pos h1]
  ·right;rw[h2,h3,h4];refine⟨rfl,?_⟩;unfold pp;rw[if_neg h1]
theorem cV(W:World)(X:List Nat):((W.alloc (.cells #[.int .u16 0,.int .u16 0,.int .u16 0,.int .u16 0,.int .u16 0,.int .u16 0,.int .u16 0,.int .u16 0] 24)).setRow W.heap.size (ai X).toArray).heap[W.heap.size]? = some (.cells (ai X).toArray 24 (0,0))/\Below W.heap.size W ((W.alloc (.cells #[.int .u16 0,.int .u16 0,.int .u16 0,.int .u16 0,.int .u16 0,.int .u16 0,.int .u16 0,.int .u16 0] 24)).setRow W.heap.size (ai X).toArray) :=
 ⟨aP (dM W _ _),ax ((Below.refl _ W).alloc (le_refl _) _) (le_refl _) _⟩
theorem QK(W:World):(W.alloc (.cells #[.int .u16 0,.int .u16 0,.int .u16 0,.int .u16 0,.int .u16 0,.int .u16 0,.int .u16 0,.int .u16 0] 24)).heap[W.heap.size]? = some (.cells (ai z8).toArray 24 (0,0)):=dM W _ _
theorem Qf{l:List Int}{s:ByteArray}{e:Ending}(h:Jd l s e)(hl:l=bn s):(prs l=none/\e=.returned (.tuple #[.string ⟨#[]⟩,.bool false]))\/(∃ t:ByteArray,e=.returned (.tuple #[.string t,.bool true])/\pp (bn t)=prs l/\t.size<=s.size+10):=by
 obtain⟨X,p,e0,h58,hX,h⟩:=h;rcases h with⟨hd,rfl⟩ | ⟨hd,hn,rfl⟩ | ⟨hd,a,b,t,ha,hb,hdt,ht,hts,rfl⟩
 ·right;exact⟨s,rfl,by rw[<-hl,e0];exact EL hX h58 hd,by omega⟩
 ·left;exact⟨by rw[e0];exact AU hX h58 hd hn,rfl⟩
 ·right;exact⟨t,rfl,by rw[ht,e0];exact KX hX h58 hd hdt ha hb,hts⟩
def GX(w:World):Prop:=Tab w/\Er w/\Mx w
theorem GX.below{w w':World}(h:GX w)(hb:Below w.heap.size w w'):GX w':=⟨h.1.below hb (le_refl _),h.2.1.below hb,h.2.2.below hb⟩
def kV(o:Option (List Nat))(e:Ending):Prop:=e=.returned (.tuple #[.agg (ai (o.getD z8)).toArray,.int .i64 (err o)])
theorem kV.no:kV none (.returned (.tuple #[.agg (ai z8).toArray,.int .i64 8])):=rfl
theorem kV.yes(X:List Nat):kV (some X) (.returned (.tuple #[.agg (ai X).toArray,.int .i64 0])):=rfl
theorem lr(s:ByteArray)(hs:s.size<=100000)(w:World)(hG:GX w):Calls prog 208 #[.string s] w fun e W'=>kV (prs (bn s)) e/\Below w.heap.size w W':=by
 have HB0:Hid (Below w.heap.size w (w.alloc (.cells #[.int .u16 0,.int .u16 0,.int .u16 0,.int .u16 0,.int .u16 0,.int .u16 0,.int .u16 0,.int .u16 0] 24))):=(Below.refl _ w).alloc (le_refl _) _;have HA0:=hid (QK w);have HZ0:Hid ((w.alloc (.cells #[.int .u16 0,.int .u16 0,.int .u16 0,.int .u16 0,.int .u16 0,.int .u16 0,.int .u16 0,.int .u16 0] 24)).heap.size=w.heap.size+1):=by show _=_;simp
 have HG0:=hid (hG.below HB0.out);have HUN:=hid (fun W (h:GX W)=>eo s hs W h.2.1 h.2.2 h.1);have HGP:=hid (fun e (h:Jd (bn s) s e)=>Qf h rfl);have HXL:Hid (z8.length=8):=rfl;obtain⟨o,ho⟩:=Ex' (prs (bn s));rw[ho]at HGP ⊢;clear ho hG;go_enter func208,ntmps208;go_wp2_with fail;obtain⟨w1,hw1⟩:=Ex' (w.alloc (.cells #[.int .u16 0,.int .u16 0,.int .u16 0,.int .u16 0,.int .u16 0,.int .u16 0,.int .u16 0,.int .u16 0] 24));rw[hw1]at HB0 HA0 HZ0 HG0 ⊢;clear hw1;refine(HUN.out w1 HG0.out).mono ?_;rintro e w2 ⟨hun,B2⟩;have HB2:=Bt' HB0 B2;have HA2:Hid (w2.heap[w.heap.size]? = some (.cells (ai z8).toArray 24 (0,0))):=(B2.block _ (by rw[HZ0.out];omega)).trans HA0.out;have HG2:=hid (HG0.out.below B2);have hun2:=HGP.out e hun;clear B2 hun HGP HUN HA0 HB0 HG0 HZ0;rcases hun2 with⟨hn,rfl⟩ | ⟨U,rfl,hpp,hUs⟩
 ·have HR:Hid (kV o (.returned (.tuple #[.agg (ai z8).toArray,.int .i64 8]))):=by rw[hn];exact kV.no
  clear hn;go_wp2_with((refine wpList_store_row rfl 24 (.tmp 2) (.tmp 21) rfl w.heap.size (ai z8).toArray rfl rfl 24 (ai z8).toArray HA2.out (aG HXL.out) ((aY rfl).trans (aY HXL.out).symm) (dh z8) ?_));exact bodyPost_ret (bG results208 _ _ w.heap.size 24 (ai z8).toArray (0,0) _ _ rfl (aP HA2.out) underlying24 (aG HXL.out)) rfl ⟨HR.out,ax HB2.out (le_refl _) _⟩
 ·have HPP:=hid hpp;have HCU:=hid (fw U (by omega) w2 HG2.out.2.2);have hzA:w.heap.size<w2.heap.size:=(Array.getElem?_eq_some_iff.1 HA2.out).1;clear hpp;go_wp2_with fail;refine HCU.out.mono ?_;rintro e w3 ⟨⟨f,b,sh,rfl,hfs,hbs,hcut⟩,B3⟩;have HB3:=Bt' HB2 B3;have HA3:Hid (w3.heap[w.heap.size]? = some (.cells (ai z8).toArray 24 (0,0))):=(B3.block _ hzA).trans HA2.out;have HG3:=hid (HG2.out.below B3);have hzA3:w.heap.size<w3.heap.size:=lt_of_lt_of_le hzA B3.size;have HCT:=hid hcut;have HRF:=hid (zd f (by omega) w3 HG3.out.2.1 HG3.out.2.2);clear B3 HB2 HA2 HG2 HCU hcut hzA;go_wp2_with fail;refine HRF.out.mono ?_;rintro e w4 ⟨hrf,B4⟩;have HB4:=Bt' HB3 B4;have HA4:Hid (w4.heap[w.heap.size]? = some (.cells (ai z8).toArray 24 (0,0))):=(B4.block _ hzA3).trans HA3.out;have HG4:=hid (HG3.out.below B4);have hzA4:w.heap.size<w4.heap.size:=lt_of_lt_of_le hzA3 B4.size;clear B4 HB3 HA3 HG3 HRF hzA3
  obtain⟨X,m,okF,hX8,rfl,hmb,HXF⟩:∃(X:List Nat) (m:Nat) (k:Bool),X.length=8/\e=.returned (.tuple #[.agg (ai X).toArray,.int .i64 (m:Int),.bool k])/\m<=8/\Hid ((k=true/\∃ F,rwd (bn f)=some F/\F.length=m/\X=F++z (8 - F.length))\/(k=false/\rwd (bn f)=none)):=by
   rcases hrf with⟨v,h1,h2,h3⟩ | ⟨h1,X,h2,h3⟩
   ·exact⟨_,v.length,true,by unfold z;simp;omega,h3,h2,.inl ⟨rfl,v,h1,rfl,rfl⟩⟩
   ·exact⟨X,0,false,h2,h3,by omega,.inr ⟨rfl,h1⟩⟩
  have HX8:=hid hX8;have HBX:=hid (QK w4);obtain⟨hpk1,hpk2⟩:=cV w4 X;have HPK1:=hid hpk1;have HPK2:=hid hpk2;clear hrf hX8 hpk1 hpk2;go_wp2_with((refine wpList_store_row rfl 24 (.tmp 8) (.tmp 31) rfl w4.heap.size (ai X).toArray rfl rfl 24 (ai z8).toArray HBX.out (aG HX8.out) ((aY rfl).trans (aY HX8.out).symm) (dh X) ?_));obtain⟨w5,hw5⟩:=Ex' ((w4.alloc (.cells #[.int .u16 0,.int .u16 0,.int .u16 0,.int .u16 0,.int .u16 0,.int .u16 0,.int .u16 0,.int .u16 0] 24)).setRow w4.heap.size (ai X).toArray);rw[hw5]at HPK1 HPK2 ⊢;obtain⟨g1,hg1⟩:=Ex' w4.heap.size;have HB5:=hid (HB4.out.trans (HPK2.out.mono HB4.out.size));have HA5:Hid (w5.heap[w.heap.size]? = some (.cells (ai z8).toArray 24 (0,0))):=(HPK2.out.block _ hzA4).trans HA4.out;have HG5:=hid (HG4.out.below HPK2.out);rw[hg1]at HPK1 hzA4 ⊢;have hg5:g1<w5.heap.size:=(Array.getElem?_eq_some_iff.1 HPK1.out).1;have HRB:=hid (zd b (by omega) w5 HG5.out.2.1 HG5.out.2.2);clear hw5 hg1 HPK2 HB4 HA4 HG4 HBX;refine HRB.out.mono ?_;rintro e w6 ⟨hrb,B6⟩;have HB6:=Bt' HB5 B6;have HA6:Hid (w6.heap[w.heap.size]? = some (.cells (ai z8).toArray 24 (0,0))):=(B6.block _ (by omega)).trans HA5.out;have HP6:Hid (w6.heap[g1]? = some (.cells (ai X).toArray 24 (0,0))):=(B6.block _ hg5).trans HPK1.out;have hg6:g1<w6.heap.size:=lt_of_lt_of_le hg5 B6.size;clear B6 HB5 HA5 HG5 HRB HPK1 hg5
  obtain⟨Y,q,okB,hY8,rfl,hqb,HYB⟩:∃(X:List Nat) (m:Nat) (k:Bool),X.length=8/\e=.returned (.tuple #[.agg (ai X).toArray,.int .i64 (m:Int),.bool k])/\m<=8/\Hid ((k=true/\∃ F,rwd (bn b)=some F/\F.length=m/\X=F++z (8 - F.length))\/(k=false/\rwd (bn b)=none)):=by
   rcases hrb with⟨v,h1,h2,h3⟩ | ⟨h1,X,h2,h3⟩
   ·exact⟨_,v.length,true,by unfold z;simp;omega,h3,h2,.inl ⟨rfl,v,h1,rfl,rfl⟩⟩
   ·exact⟨X,0,false,h2,h3,by omega,.inr ⟨rfl,h1⟩⟩
  have HY8:=hid hY8;have HBX:=hid (QK w6);obtain⟨hpk1,hpk2⟩:=cV w6 Y;have HPK1:=hid hpk1;have HPK2:=hid hpk2;have HB7:=hid (HB6.out.trans (HPK2.out.mono HB6.out.size));have HA7:Hid (((w6.alloc (.cells #[.int .u16 0,.int .u16 0,.int .u16 0,.int .u16 0,.int .u16 0,.int .u16 0,.int .u16 0,.int .u16 0] 24)).setRow w6.heap.size (ai Y).toArray).heap[w.heap.size]? = some (.cells (ai z8).toArray 24 (0,0))):=(HPK2.out.block _ (by omega)).trans HA6.out;have HP7:Hid (((w6.alloc (.cells #[.int .u16 0,.int .u16 0,.int .u16 0,.int .u16 0,.int .u16 0,.int .u16 0,.int .u16 0,.int .u16 0] 24)).setRow w6.heap.size (ai Y).toArray).heap[g1]? = some (.cells (ai X).toArray 24 (0,0))):=(HPK2.out.block _ hg6).trans HP6.out;obtain⟨w7,hw7⟩:=Ex' ((w6.alloc (.cells #[.int .u16 0,.int .u16 0,.int .u16 0,.int .u16 0,.int .u16 0,.int .u16 0,.int .u16 0,.int .u16 0] 24)).setRow w6.heap.size (ai Y).toArray);rw[hw7]at HPK1 HB7 HA7 HP7;have HW7:=hid hw7;clear hrb hY8 hpk1 hpk2 hw7 HPK2 HA6 HP6 HB6;have hmq:(m:Int)+(q:Int)=((m+q:Nat):Int):=by omega
  by_cases hgood:okF=true/\okB=true/\(sh=decide (m+q<8))
  ·obtain⟨rfl,rfl,hsh⟩:=hgood
   obtain⟨F,hF,hFm,hXF⟩:∃ F,rwd (bn f)=some F/\F.length=m/\X=F++z (8 - F.length):=by
    rcases HXF.out with⟨_,h⟩ | ⟨h,_⟩
    ·exact h
    ·cases h
   obtain⟨B,hBb,hBq,hYB⟩:∃ F,rwd (bn b)=some F/\F.length=q/\Y=F++z (8 - F.length):=by
    rcases HYB.out with⟨_,h⟩ | ⟨h,_⟩
    ·exact h
    ·cases h
   obtain⟨hok,hores⟩:(F.length+B.length<=7\/(F.length=8/\B=[]))/\o=some (F++List.replicate (8 - B.length - F.length) 0++B):=by
    rcases HCT.out with⟨h0,h1,h2⟩ | ⟨h0,h1⟩
    ·rw[hBb]at h2;cases h2;rw[h0]at hsh;have h8:¬ m+q<8:=of_decide_eq_false hsh.symm;have hq0:q=0:=by rw[<-hBq];rfl
     have hF8:F.length=8:=by omega
     refine⟨.inr ⟨hF8,rfl⟩,?_⟩;rw[<-HPP.out,h1,hF];show(if F.length=8 then some F else none)=_;rw[if_pos hF8];simp[hF8]
    ·rw[h0]at hsh;have h8:m+q<8:=of_decide_eq_true hsh.symm;refine⟨.inl (by omega),?_⟩;rw[<-HPP.out,h1,hF,hBb];show(if F.length+B.length<=7 then _ else none)=_;rw[if_pos (by omega)]
   have HEN:=hid (xZ F B hok);rw[<-hXF,<-hYB,hBq]at HEN
   have HR8:Hid ((F++List.replicate (8 - q - F.length) 0++B).length=8):=by
    show _=_;rcases hok with h | ⟨h,rfl⟩
    ·simp;omega
    ·simp[h] <;> omega
   rw[hBq]at hores;obtain⟨R,hR⟩:=Ex' (F++List.replicate (8 - q - F.length) 0++B);rw[hR]at HEN HR8 hores;have HRR:Hid (kV o (.returned (.tuple #[.agg (ai R).toArray,.int .i64 0]))):=by rw[hores];exact kV.yes R
   clear hR hores hok hXF hYB hBq hFm hF hBb HXF HYB HCT HPP;cases sh with
   | true =>
    have h8:(m:Int)+(q:Int)<8:=by have:=of_decide_eq_true hsh.symm;omega
    clear hsh hmq
    go_wp2_with(first
      | (refine wpList_store_row rfl 24 (.tmp 10) (.tmp 37) rfl w6.heap.size (ai Y).toArray rfl rfl 24 (ai z8).toArray HBX.out (aG HY8.out) ((aY rfl).trans (aY HY8.out).symm) (dh Y) ?_;rw[HW7.out])
      | (refine wpList_load_row rfl 24 (.tmp 8) rfl g1 rfl 24 (ai X).toArray (0,0) _ HP7.out underlying24 rfl (aG HX8.out) ?_)
      | (refine wpList_load_row rfl 24 (.tmp 10) rfl w6.heap.size rfl 24 (ai Y).toArray (0,0) _ HPK1.out underlying24 rfl (aG HY8.out) ?_))
    refine(HEN.out w7).mono ?_;rintro e w8 ⟨rfl,B8⟩;have HA8:Hid (w8.heap[w.heap.size]? = some (.cells (ai z8).toArray 24 (0,0))):=(B8.block _ (Array.getElem?_eq_some_iff.1 HA7.out).1).trans HA7.out;have HB8:=Bt' HB7 B8;clear B8 HEN;go_wp2_with((refine wpList_store_row rfl 24 (.tmp 2) (.tmp 59) rfl w.heap.size (ai R).toArray rfl rfl 24 (ai z8).toArray HA8.out (aG HR8.out) ((aY rfl).trans (aY HR8.out).symm) (dh R) ?_));exact bodyPost_ret (bG results208 _ _ w.heap.size 24 (ai R).toArray (0,0) _ _ rfl (aP HA8.out) underlying24 (aG HR8.out)) rfl ⟨HRR.out,ax HB8.out (le_refl _) _⟩
   | false =>
    have h8:¬ (m:Int)+(q:Int)<8:=by have:=of_decide_eq_false hsh.symm;omega
    clear hsh hmq
    go_wp2_with(first
      | (refine wpList_store_row rfl 24 (.tmp 10) (.tmp 37) rfl w6.heap.size (ai Y).toArray rfl rfl 24 (ai z8).toArray HBX.out (aG HY8.out) ((aY rfl).trans (aY HY8.out).symm) (dh Y) ?_;rw[HW7.out])
      | (refine wpList_load_row rfl 24 (.tmp 8) rfl g1 rfl 24 (ai X).toArray (0,0) _ HP7.out underlying24 rfl (aG HX8.out) ?_)
      | (refine wpList_load_row rfl 24 (.tmp 10) rfl w6.heap.size rfl 24 (ai Y).toArray (0,0) _ HPK1.out underlying24 rfl (aG HY8.out) ?_))
    refine(HEN.out w7).mono ?_;rintro e w8 ⟨rfl,B8⟩;have HA8:Hid (w8.heap[w.heap.size]? = some (.cells (ai z8).toArray 24 (0,0))):=(B8.block _ (Array.getElem?_eq_some_iff.1 HA7.out).1).trans HA7.out;have HB8:=Bt' HB7 B8;clear B8 HEN;go_wp2_with((refine wpList_store_row rfl 24 (.tmp 2) (.tmp 59) rfl w.heap.size (ai R).toArray rfl rfl 24 (ai z8).toArray HA8.out (aG HR8.out) ((aY rfl).trans (aY HR8.out).symm) (dh R) ?_));exact bodyPost_ret (bG results208 _ _ w.heap.size 24 (ai R).toArray (0,0) _ _ rfl (aP HA8.out) underlying24 (aG HR8.out)) rfl ⟨HRR.out,ax HB8.out (le_refl _) _⟩
  ·have hnone:o=none:=by
    rw[<-HPP.out];rcases HXF.out with⟨rfl,F,hF,hFm,_⟩ | ⟨rfl,hF⟩
    ·rcases HYB.out with⟨rfl,B,hBb,hBq,_⟩ | ⟨rfl,hBb⟩
     ·rcases HCT.out with⟨rfl,h1,h2⟩ | ⟨rfl,h1⟩
      ·rw[hBb]at h2;cases h2;have hq0:q=0:=by rw[<-hBq];rfl
       rw[h1,hF];show(if F.length=8 then some F else none)=_;rw[if_neg];intro h;exact hgood ⟨rfl,rfl,(decide_eq_false (by omega)).symm⟩
      ·rw[h1,hF,hBb];show(if F.length+B.length<=7 then _ else none)=_;rw[if_neg];intro h;exact hgood ⟨rfl,rfl,(decide_eq_true (by omega)).symm⟩
     ·rcases HCT.out with⟨rfl,h1,h2⟩ | ⟨rfl,h1⟩
      ·rw[hBb]at h2;cases h2
      ·rw[h1,hBb,jk]
    ·rcases HCT.out with⟨rfl,h1,h2⟩ | ⟨rfl,h1⟩
     ·rw[h1,hF];rfl
     ·rw[h1,hF];cases rwd (bn b) <;> rfl
   have HR:Hid (kV o (.returned (.tuple #[.agg (ai z8).toArray,.int .i64 8]))):=by rw[hnone];exact kV.no
   clear hnone HXF HYB HCT HPP hmq;cases okF with
   | false =>
    clear hgood
    go_wp2_with(first
      | (refine wpList_store_row rfl 24 (.tmp 10) (.tmp 37) rfl w6.heap.size (ai Y).toArray rfl rfl 24 (ai z8).toArray HBX.out (aG HY8.out) ((aY rfl).trans (aY HY8.out).symm) (dh Y) ?_;rw[HW7.out])
      | (refine wpList_store_row rfl 24 (.tmp 2) (.tmp 55) rfl w.heap.size (ai z8).toArray rfl rfl 24 (ai z8).toArray HA7.out (aG HXL.out) ((aY rfl).trans (aY HXL.out).symm) (dh z8) ?_))
    exact bodyPost_ret (bG results208 _ _ w.heap.size 24 (ai z8).toArray (0,0) _ _ rfl (aP HA7.out) underlying24 (aG HXL.out)) rfl ⟨HR.out,ax HB7.out (le_refl _) _⟩
   | true =>
    cases okB with
    | false =>
     clear hgood
     go_wp2_with(first
       | (refine wpList_store_row rfl 24 (.tmp 10) (.tmp 37) rfl w6.heap.size (ai Y).toArray rfl rfl 24 (ai z8).toArray HBX.out (aG HY8.out) ((aY rfl).trans (aY HY8.out).symm) (dh Y) ?_;rw[HW7.out])
       | (refine wpList_store_row rfl 24 (.tmp 2) (.tmp 55) rfl w.heap.size (ai z8).toArray rfl rfl 24 (ai z8).toArray HA7.out (aG HXL.out) ((aY rfl).trans (aY HXL.out).symm) (dh z8) ?_))
     exact bodyPost_ret (bG results208 _ _ w.heap.size 24 (ai z8).toArray (0,0) _ _ rfl (aP HA7.out) underlying24 (aG HXL.out)) rfl ⟨HR.out,ax HB7.out (le_refl _) _⟩
    | true =>
     cases sh with
     | true =>
      have h8:¬ (m:Int)+(q:Int)<8:=fun h=>hgood ⟨rfl,rfl,(decide_eq_true (by omega)).symm⟩;have h9:(8:Int)<=(m:Int)+(q:Int):=by omega
      have h10:decide ((m:Int)+(q:Int)<8)=false:=decide_eq_false h8;clear hgood h8
      go_wp2_with(first
        | (refine wpList_store_row rfl 24 (.tmp 10) (.tmp 37) rfl w6.heap.size (ai Y).toArray rfl rfl 24 (ai z8).toArray HBX.out (aG HY8.out) ((aY rfl).trans (aY HY8.out).symm) (dh Y) ?_;rw[HW7.out])
        | (refine wpList_store_row rfl 24 (.tmp 2) (.tmp 55) rfl w.heap.size (ai z8).toArray rfl rfl 24 (ai z8).toArray HA7.out (aG HXL.out) ((aY rfl).trans (aY HXL.out).symm) (dh z8) ?_))
      exact bodyPost_ret (bG results208 _ _ w.heap.size 24 (ai z8).toArray (0,0) _ _ rfl (aP HA7.out) underlying24 (aG HXL.out)) rfl ⟨HR.out,ax HB7.out (le_refl _) _⟩
     | false =>
      have h8:(m:Int)+(q:Int)<8:=by
       rcases Nat.lt_or_ge (m+q) 8 with h | h
       ·omega
       ·exact absurd ⟨rfl,rfl,(decide_eq_false (by omega)).symm⟩ hgood
      clear hgood
      go_wp2_with(first
        | (refine wpList_store_row rfl 24 (.tmp 10) (.tmp 37) rfl w6.heap.size (ai Y).toArray rfl rfl 24 (ai z8).toArray HBX.out (aG HY8.out) ((aY rfl).trans (aY HY8.out).symm) (dh Y) ?_;rw[HW7.out])
        | (refine wpList_store_row rfl 24 (.tmp 2) (.tmp 55) rfl w.heap.size (ai z8).toArray rfl rfl 24 (ai z8).toArray HA7.out (aG HXL.out) ((aY rfl).trans (aY HXL.out).symm) (dh z8) ?_))
      exact bodyPost_ret (bG results208 _ _ w.heap.size 24 (ai z8).toArray (0,0) _ _ rfl (aP HA7.out) underlying24 (aG HXL.out)) rfl ⟨HR.out,ax HB7.out (le_refl _) _⟩
end X
namespace H
open F (bn aa hid ar aq az)
def cT(h:Hst)(e:Ending):Prop:=∃ n:ByteArray,bn n=h.2.1/\e=.returned (.tuple #[hvl h.1 n h.2.2.1 h.2.2.2.1,.int .i64 h.2.2.2.2])
abbrev hcs(k:Int)(n:ByteArray)(f:Int)(a0 a1 a2 a3 a4 a5 a6 a7:Int):Array Value:=#[.int .u8 k,.string n,.int .u32 f,.int .u16 a0,.int .u16 a1,.int .u16 a2,.int .u16 a3,.int .u16 a4,.int .u16 a5,.int .u16 a6,.int .u16 a7]
theorem bu(k:Int)(n:ByteArray)(f a0 a1 a2 a3 a4 a5 a6 a7:Int):(prog.info? 26).map (·.size)=some (hcs k n f a0 a1 a2 a3 a4 a5 a6 a7).size:=by kernel_rfl
theorem eb(k:Int)(n:ByteArray)(f a0 a1 a2 a3 a4 a5 a6 a7:Int):(hcs k n f a0 a1 a2 a3 a4 a5 a6 a7).all (·.oneCell')=true:=by simp[hcs,Value.oneCell']
theorem aI{fn:Func}{p u:Tmp}{ty:TypeId}(h:fn.results=#[.cell p ty,.tmp u])(tmps:Array Value)(w:World)(g:Nat)(t:TypeId)(cs:Array Value)(fr:Nat×Nat)(fs:Array Field)
  (hp:tmps.getD p undef=.pointer (some ⟨g,0,none⟩)) (hg:w.heap[g]? = some (.cells cs t fr))
  (hu:prog.underlying ty=some (.struct fs)) (hi:(prog.info? ty).map (·.size)=some cs.size) :
  (results fn tmps).run prog w=.ok (.tuple #[.agg cs,tmps.getD u undef]) w:=by
 rw[results_cell_tmp h];have hp':tmps[p]?.getD undef=.pointer (some ⟨g,0,none⟩):=by simpa using hp
 simp[hp',asAddr,run_loadVar_row w g t ty cs fr (.struct fs) hg hu rfl hi]
theorem eD(e:Int):cT (non e) (.returned (.tuple #[hv 0 ⟨#[]⟩ 0 0 0 0 0 0 0 0 0,.int .i64 e])):=⟨⟨#[]⟩,rfl,rfl⟩
theorem fZ(w:World):Below w.heap.size w (w.alloc (.cells (hcs 0 ⟨#[]⟩ 0 0 0 0 0 0 0 0 0) 26))/\(w.alloc (.cells (hcs 0 ⟨#[]⟩ 0 0 0 0 0 0 0 0 0) 26)).heap[w.heap.size]? = some (.cells (hcs 0 ⟨#[]⟩ 0 0 0 0 0 0 0 0 0) 26 (0,0))/\(w.alloc (.cells (hcs 0 ⟨#[]⟩ 0 0 0 0 0 0 0 0 0) 26)).heap.size=w.heap.size+1 :=
 ⟨(Below.refl _ w).alloc (le_refl _) _,X.dM w _ _,by simp⟩
theorem AZ(s:ByteArray)(hs:s.size<=400000000)(w:World)(hM:F.Max w):Calls prog 242 #[.string s] w fun e W'=>cT (if (F.prs (bn s)).2=0 then (2,[],(F.prs (bn s)).1,z8,0) else non 70) e/\Below w.heap.size w W':=by
 obtain⟨nb,na,nz⟩:=fZ w;have HB0:=hid nb;have HA0:=hid na;have HZ0:=hid nz;clear nb na nz;have HP:=hid (fun W h=>F.lr s W hs h);have HM:=hid (hM.below HB0.out);clear hM;unfold F.kW at HP;obtain⟨⟨a,er⟩,hp⟩:∃ p,F.prs (bn s)=p:=⟨_,rfl⟩;rw[hp]at HP ⊢;simp only at HP ⊢;obtain⟨H,hH⟩:=Ex' ((if er=0 then (2,[],a,z8,0) else non 70):Hst);have HH:=hid hH;rw[hH];clear hp hH;go_enter func242,ntmps242;go_wp2_with fail;obtain⟨w1,hw1⟩:=Ex' (w.alloc (.cells (hcs 0 ⟨#[]⟩ 0 0 0 0 0 0 0 0 0) 26));unfold hcs at hw1 HB0 HA0 HZ0 HM;rw[hw1]at HB0 HA0 HZ0 HM ⊢;clear hw1;refine(HP.out w1 HM.out).mono ?_;rintro e w2 ⟨rfl,B⟩;have HB2:=Bt' HB0 B;have HA2:Hid (w2.heap[w.heap.size]? = some (.cells (hcs 0 ⟨#[]⟩ 0 0 0 0 0 0 0 0 0) 26 (0,0))):=(B.block _ (Array.getElem?_eq_some_iff.1 HA0.out).1).trans HA0.out;clear B HB0 HA0;by_cases he:er=0
 ·have HR:Hid (cT H (.returned (.tuple #[hv 2 ⟨#[]⟩ (a:Nat) 0 0 0 0 0 0 0 0,.int .i64 0]))):=by show cT _ _;rw[<-HH.out,if_pos he];exact⟨⟨#[]⟩,rfl,rfl⟩
  have hen:(er != 0)=false:=by rw[he];rfl
  clear he;go_wp2_with(refine wpList_store_row rfl 26 (.tmp 2) (.tmp 15) rfl w.heap.size (hcs 2 ⟨#[]⟩ (a:Nat) 0 0 0 0 0 0 0 0) rfl rfl 26 (hcs 0 ⟨#[]⟩ 0 0 0 0 0 0 0 0 0) HA2.out (bu ..) rfl (eb ..) ?_);exact bodyPost_ret (aI results242 _ _ w.heap.size 26 (hcs 2 ⟨#[]⟩ (a:Nat) 0 0 0 0 0 0 0 0) (0,0) _ rfl (X.aP HA2.out) underlying26 (bu ..)) rfl ⟨HR.out,X.ax HB2.out (le_refl _) _⟩
 ·have HR:Hid (cT H (.returned (.tuple #[hv 0 ⟨#[]⟩ 0 0 0 0 0 0 0 0 0,.int .i64 70]))):=by show cT _ _;rw[<-HH.out,if_neg he];exact eD 70
  have hen:(er != 0)=true:=by simpa using he
  clear he;go_wp2_with(refine wpList_store_row rfl 26 (.tmp 2) (.tmp 13) rfl w.heap.size (hcs 0 ⟨#[]⟩ 0 0 0 0 0 0 0 0 0) rfl rfl 26 (hcs 0 ⟨#[]⟩ 0 0 0 0 0 0 0 0 0) HA2.out (bu ..) rfl (eb ..) ?_);exact bodyPost_ret (aI results242 _ _ w.heap.size 26 (hcs 0 ⟨#[]⟩ 0 0 0 0 0 0 0 0 0) (0,0) _ rfl (X.aP HA2.out) underlying26 (bu ..)) rfl ⟨HR.out,X.ax HB2.out (le_refl _) _⟩
theorem Bq(s:ByteArray)(hs:s.size<=400000000)(hl:∀ c∈bn s,0<=c/\c<128)(w:World)(hM:F.Max w):Calls prog 211 #[.string s] w fun e W'=>cT (dom (bn s) 0) e/\Below w.heap.size w W':=by
 obtain⟨nb,na,nz⟩:=fZ w;have HB0:=hid nb;have HA0:=hid na;have HZ0:=hid nz;clear nb na nz;have HCF:=hid (fun W=>dK s hs hl W);have HEN:=hid (fun W=>F.Ho s W hs);have HPF:=hid (fun W h=>AZ s hs W h);have HM:=hid (hM.below HB0.out);clear hM hl;by_cases h0:s.size=0
 ·have hnil:bn s=[]:=List.length_eq_zero_iff.1 (by rw[aa];exact h0);have HR:Hid (cT (dom (bn s) 0) (.returned (.tuple #[hv 0 ⟨#[]⟩ 0 0 0 0 0 0 0 0 0,.int .i64 70]))):=by show cT _ _;rw[hnil];exact eD 70
  have hem:=az s h0;clear hnil h0 HCF HEN HPF HM;go_enter func211,ntmps211;go_wp2_with(refine wpList_store_row rfl 26 (.tmp 2) (.tmp 11) rfl w.heap.size (hcs 0 ⟨#[]⟩ 0 0 0 0 0 0 0 0 0) rfl rfl 26 (hcs 0 ⟨#[]⟩ 0 0 0 0 0 0 0 0 0) HA0.out (bu ..) rfl (eb ..) ?_);exact bodyPost_ret (aI results211 _ _ w.heap.size 26 (hcs 0 ⟨#[]⟩ 0 0 0 0 0 0 0 0 0) (0,0) _ rfl (X.aP HA0.out) underlying26 (bu ..)) rfl ⟨HR.out,X.ax HB0.out (le_refl _) _⟩
 ·have hem:=aq s (by omega);have hne:bn s≠[]:=fun e=>h0 (by rw[<-aa,e];rfl)
  have HD:dom (bn s) 0=if (bn s).any fd=true then non 70 else if F.ends (bn s)=true then (if (F.prs (bn s)).2=0 then (2,[],(F.prs (bn s)).1,z8,0) else non 70) else (1,bn s,0,z8,0):=by
   unfold dom;by_cases h:(bn s).any fd=true
   ·rw[if_pos (.inr (.inr h)),if_pos h]
   ·rw[if_neg (fun h1=>h1.elim (fun q=>q rfl) (fun q=>q.elim hne h)),if_neg h]
  have HN1:Hid (cT (1,bn s,0,z8,0) (.returned (.tuple #[hv 1 s 0 0 0 0 0 0 0 0 0,.int .i64 0]))):=⟨s,rfl,rfl⟩;rw[HD];clear HD hne h0;obtain⟨L,hL⟩:=Ex' (bn s);rw[hL]at HCF HEN HPF HN1 ⊢;clear hL;obtain⟨b1,e1⟩:=Ex' (L.any fd);rw[e1]at HCF ⊢;obtain⟨b2,e2⟩:=Ex' (F.ends L);rw[e2]at HEN ⊢;obtain⟨H,hH⟩:=Ex' ((if b1=true then non 70 else if b2=true then (if (F.prs L).2=0 then (2,[],(F.prs L).1,z8,0) else non 70) else (1,L,0,z8,0)):Hst);have HH:=hid hH;rw[hH];clear e1 e2 hH;go_enter func211,ntmps211;go_wp2_with fail;obtain⟨w1,hw1⟩:=Ex' (w.alloc (.cells (hcs 0 ⟨#[]⟩ 0 0 0 0 0 0 0 0 0) 26));unfold hcs at hw1 HB0 HA0 HZ0 HM;rw[hw1]at HB0 HA0 HZ0 HM ⊢;clear hw1;refine(HCF.out w1).mono ?_;rintro e w2 ⟨rfl,B⟩;replace HM:=hid (HM.out.below B);have HB2:=Bt' HB0 B;have HA2:Hid (w2.heap[w.heap.size]? = some (.cells (hcs 0 ⟨#[]⟩ 0 0 0 0 0 0 0 0 0) 26 (0,0))):=(B.block _ (Array.getElem?_eq_some_iff.1 HA0.out).1).trans HA0.out;clear B HB0 HA0;cases b1 with
  | true =>
   have HR:Hid (cT H (.returned (.tuple #[hv 0 ⟨#[]⟩ 0 0 0 0 0 0 0 0 0,.int .i64 70]))):=by show cT _ _;rw[<-HH.out,if_pos rfl];exact eD 70
   go_wp2_with(refine wpList_store_row rfl 26 (.tmp 2) (.tmp 11) rfl w.heap.size (hcs 0 ⟨#[]⟩ 0 0 0 0 0 0 0 0 0) rfl rfl 26 (hcs 0 ⟨#[]⟩ 0 0 0 0 0 0 0 0 0) HA2.out (bu ..) rfl (eb ..) ?_);exact bodyPost_ret (aI results211 _ _ w.heap.size 26 (hcs 0 ⟨#[]⟩ 0 0 0 0 0 0 0 0 0) (0,0) _ rfl (X.aP HA2.out) underlying26 (bu ..)) rfl ⟨HR.out,X.ax HB2.out (le_refl _) _⟩
  | false =>
   go_wp2_with fail;refine(HEN.out w2).mono ?_;rintro e w3 ⟨rfl,B⟩;replace HM:=hid (HM.out.below B);have HB3:=Bt' HB2 B;have HA3:Hid (w3.heap[w.heap.size]? = some (.cells (hcs 0 ⟨#[]⟩ 0 0 0 0 0 0 0 0 0) 26 (0,0))):=(B.block _ (Array.getElem?_eq_some_iff.1 HA2.out).1).trans HA2.out;clear B HB2 HA2 HCF HEN;cases b2 with
   | false =>
    have HR:Hid (cT H (.returned (.tuple #[hv 1 s 0 0 0 0 0 0 0 0 0,.int .i64 0]))):=by show cT _ _;rw[<-HH.out,if_neg Bool.false_ne_true,if_neg Bool.false_ne_true];exact HN1.out
    go_wp2_with(refine wpList_store_row rfl 26 (.tmp 2) (.tmp 20) rfl w.heap.size (hcs 1 s 0 0 0 0 0 0 0 0 0) rfl rfl 26 (hcs 0 ⟨#[]⟩ 0 0 0 0 0 0 0 0 0) HA3.out (bu ..) rfl (eb ..) ?_);exact bodyPost_ret (aI results211 _ _ w.heap.size 26 (hcs 1 s 0 0 0 0 0 0 0 0 0) (0,0) _ rfl (X.aP HA3.out) underlying26 (bu ..)) rfl ⟨HR.out,X.ax HB3.out (le_refl _) _⟩
   | true =>
    have hH:=HH.out;rw[if_neg Bool.false_ne_true,if_pos rfl]at hH;rw[hH]at HPF;clear HN1 hH HH;go_wp2_with fail;refine(HPF.out w3 HM.out).mono ?_;rintro e w4 ⟨⟨n,hn,rfl⟩,B⟩;have HR:Hid (cT H (.returned (.tuple #[hvl H.1 n H.2.2.1 H.2.2.2.1,.int .i64 H.2.2.2.2]))):=⟨n,hn,rfl⟩;clear hn;obtain⟨k,nm,f,a,er⟩:=H;obtain⟨a0,a1,a2,a3,a4,a5,a6,a7,ha⟩:∃ a0 a1 a2 a3 a4 a5 a6 a7:Int,hvl k n f a=hv (k:Nat) n (f:Nat) a0 a1 a2 a3 a4 a5 a6 a7:=⟨_,_,_,_,_,_,_,_,rfl⟩;simp only at HR ⊢;rw[ha]at HR ⊢;clear ha;have HB4:=Bt' HB3 B;have HA4:Hid (w4.heap[w.heap.size]? = some (.cells (hcs 0 ⟨#[]⟩ 0 0 0 0 0 0 0 0 0) 26 (0,0))):=(B.block _ (Array.getElem?_eq_some_iff.1 HA3.out).1).trans HA3.out;clear B HB3 HA3 HPF HM;go_wp2_with(refine wpList_store_row rfl 26 (.tmp 2) (.tmp 17) rfl w.heap.size (hcs (k:Nat) n (f:Nat) a0 a1 a2 a3 a4 a5 a6 a7) rfl rfl 26 (hcs 0 ⟨#[]⟩ 0 0 0 0 0 0 0 0 0) HA4.out (bu ..) rfl (eb ..) ?_);exact bodyPost_ret (aI results211 _ _ w.heap.size 26 (hcs (k:Nat) n (f:Nat) a0 a1 a2 a3 a4 a5 a6 a7) (0,0) _ rfl (X.aP HA4.out) underlying26 (bu ..)) rfl ⟨HR.out,X.ax HB4.out (le_refl _) _⟩
theorem ER(s:ByteArray)(hs:s.size<=4096)(w:World):Calls prog 179 #[.string s] w fun e W'=>cT (opq (bn s)) e/\Below w.heap.size w W':=by
 obtain⟨nb,na,nz⟩:=fZ w;have HB0:=hid nb;have HA0:=hid na;have HZ0:=hid nz;clear nb na nz;have HCA:=hid (fun W=>mg s (by omega) W);have HEN:=hid (fun W=>E.bP s 0 W (by omega) (by decide))
 have HO:Hid (opq (bn s)=if (bn s).any fb=true then non 70 else if s.size=0 then non 0 else (4,E.en 0 (U.dec (bn s)),0,z8,0)):=by
  show opq (bn s)=_;unfold opq;by_cases h:(bn s).any fb=true
  ·rw[if_pos h,if_pos h]
  ·rw[if_neg h,if_neg h];by_cases h0:s.size=0
   ·rw[if_pos h0,if_pos (List.length_eq_zero_iff.1 (by rw[aa];exact h0))]
   ·rw[if_neg h0,if_neg (fun e=>h0 (by rw[<-aa,e];rfl))]
 rw[HO.out];clear HO;obtain⟨b1,e1⟩:=Ex' ((bn s).any fb);rw[e1]at HCA ⊢;obtain⟨H,hH⟩:=Ex' ((if b1=true then non 70 else if s.size=0 then non 0 else (4,E.en 0 (U.dec (bn s)),0,z8,0)):Hst);have HH:=hid hH;rw[hH];clear e1 hH;go_enter func179,ntmps179;go_wp2_with fail;obtain⟨w1,hw1⟩:=Ex' (w.alloc (.cells (hcs 0 ⟨#[]⟩ 0 0 0 0 0 0 0 0 0) 26));unfold hcs at hw1 HB0 HA0 HZ0;rw[hw1]at HB0 HA0 HZ0 ⊢;clear hw1;refine(HCA.out w1).mono ?_;rintro e w2 ⟨rfl,B⟩;have HB2:=Bt' HB0 B;have HA2:Hid (w2.heap[w.heap.size]? = some (.cells (hcs 0 ⟨#[]⟩ 0 0 0 0 0 0 0 0 0) 26 (0,0))):=(B.block _ (Array.getElem?_eq_some_iff.1 HA0.out).1).trans HA0.out;clear B HB0 HA0 HCA;cases b1 with
 | true =>
  have HR:Hid (cT H (.returned (.tuple #[hv 0 ⟨#[]⟩ 0 0 0 0 0 0 0 0 0,.int .i64 70]))):=by show cT _ _;rw[<-HH.out,if_pos rfl];exact eD 70
  go_wp2_with(refine wpList_store_row rfl 26 (.tmp 2) (.tmp 7) rfl w.heap.size (hcs 0 ⟨#[]⟩ 0 0 0 0 0 0 0 0 0) rfl rfl 26 (hcs 0 ⟨#[]⟩ 0 0 0 0 0 0 0 0 0) HA2.out (bu ..) rfl (eb ..) ?_);exact bodyPost_ret (aI results179 _ _ w.heap.size 26 (hcs 0 ⟨#[]⟩ 0 0 0 0 0 0 0 0 0) (0,0) _ rfl (X.aP HA2.out) underlying26 (bu ..)) rfl ⟨HR.out,X.ax HB2.out (le_refl _) _⟩
 | false =>
  by_cases h0:s.size=0
  ·have HR:Hid (cT H (.returned (.tuple #[hv 0 ⟨#[]⟩ 0 0 0 0 0 0 0 0 0,.int .i64 0]))):=by show cT _ _;rw[<-HH.out,if_neg Bool.false_ne_true,if_pos h0];exact eD 0
   have hem:=az s h0;clear h0;go_wp2_with(refine wpList_store_row rfl 26 (.tmp 2) (.tmp 11) rfl w.heap.size (hcs 0 ⟨#[]⟩ 0 0 0 0 0 0 0 0 0) rfl rfl 26 (hcs 0 ⟨#[]⟩ 0 0 0 0 0 0 0 0 0) HA2.out (bu ..) rfl (eb ..) ?_);exact bodyPost_ret (aI results179 _ _ w.heap.size 26 (hcs 0 ⟨#[]⟩ 0 0 0 0 0 0 0 0 0) (0,0) _ rfl (X.aP HA2.out) underlying26 (bu ..)) rfl ⟨HR.out,X.ax HB2.out (le_refl _) _⟩
  ·have hem:=aq s (by omega);have hH:=HH.out;rw[if_neg Bool.false_ne_true,if_neg h0]at hH;have HH4:=hid hH;clear h0 hH HH;go_wp2_with fail;refine(HEN.out w2).mono ?_;rintro e w3 ⟨⟨t,rfl,ht⟩,B⟩;have HR:Hid (cT H (.returned (.tuple #[hv 4 t 0 0 0 0 0 0 0 0 0,.int .i64 0]))):=by show cT _ _;rw[<-HH4.out];exact⟨t,ht,rfl⟩
   clear ht HH4;have HB3:=Bt' HB2 B;have HA3:Hid (w3.heap[w.heap.size]? = some (.cells (hcs 0 ⟨#[]⟩ 0 0 0 0 0 0 0 0 0) 26 (0,0))):=(B.block _ (Array.getElem?_eq_some_iff.1 HA2.out).1).trans HA2.out;clear B HB2 HA2 HEN;go_wp2_with(refine wpList_store_row rfl 26 (.tmp 2) (.tmp 14) rfl w.heap.size (hcs 4 t 0 0 0 0 0 0 0 0 0) rfl rfl 26 (hcs 0 ⟨#[]⟩ 0 0 0 0 0 0 0 0 0) HA3.out (bu ..) rfl (eb ..) ?_);exact bodyPost_ret (aI results179 _ _ w.heap.size 26 (hcs 4 t 0 0 0 0 0 0 0 0 0) (0,0) _ rfl (X.aP HA3.out) underlying26 (bu ..)) rfl ⟨HR.out,X.ax HB3.out (le_refl _) _⟩
theorem AX(s:ByteArray)(hs:s.size<=4096)(w:World)(hM:F.Max w):Calls prog 178 #[.string s] w fun e W'=>(∃ d r,IA (E.de (bn s)) d r/\cT (dom d r) e)/\Below w.heap.size w W':=by
 obtain⟨nb,na,nz⟩:=fZ w;have HB0:=hid nb;have HA0:=hid na;have HZ0:=hid nz;clear nb na nz;have HDE:=hid (fun W=>E.ix s W (by omega));have HAS:Hid (∀(t:ByteArray),bn t=E.de (bn s)->∀ W,Calls prog 209 #[.string t,.bool false,.bool false] W fun e W'=>(∃(T:ByteArray) (r:Int),e=.returned (.tuple #[.string T,.int .i64 r])/\IA (E.de (bn s)) (bn T) r/\(r=0->T.size<=400000000/\∀ c∈bn T,0<=c/\c<128))/\Below W.heap.size W W'):=fun t ht W=>by have hl:=E.sK (bn s).length (bn s) (le_refl _);rw[<-ht,aa,aa]at hl;refine(I.yu t false false W (by omega)).mono ?_;rintro e W' ⟨⟨T,r,rfl,h⟩,B⟩;have hia:IA (E.de (bn s)) (bn T) r:=⟨T,rfl,by rw[<-ht];exact h⟩;refine⟨⟨T,r,rfl,hia,fun h0=>?_⟩,B⟩;rw[h0]at hia;have hz:=asc.len hia (by rw[<-ht];exact U.ay t) (by rw[<-ht,aa];omega);rw[aa]at hz;exact⟨by omega,asc.low hia⟩
 have HNA:=hid Bq;have HM:=hid (hM.below HB0.out);clear hM;go_enter func178,ntmps178;go_wp2_with fail;obtain⟨w1,hw1⟩:=Ex' (w.alloc (.cells (hcs 0 ⟨#[]⟩ 0 0 0 0 0 0 0 0 0) 26));unfold hcs at hw1 HB0 HA0 HZ0 HM;rw[hw1]at HB0 HA0 HZ0 HM ⊢;clear hw1;refine(HDE.out w1).mono ?_;rintro e w2 ⟨⟨t,rfl,ht⟩,B⟩;replace HM:=hid (HM.out.below B);have HAT:=hid (HAS.out t ht);clear ht;have HB2:=Bt' HB0 B;have HA2:Hid (w2.heap[w.heap.size]? = some (.cells (hcs 0 ⟨#[]⟩ 0 0 0 0 0 0 0 0 0) 26 (0,0))):=(B.block _ (Array.getElem?_eq_some_iff.1 HA0.out).1).trans HA0.out;clear B HB0 HA0 HDE HAS;go_wp2_with fail;refine(HAT.out w2).mono ?_;rintro e w3 ⟨⟨T,r,rfl,hia,hok⟩,B⟩;replace HM:=hid (HM.out.below B);have HI:=hid hia;have HK:=hid hok;clear hia hok;have HB3:=Bt' HB2 B;have HA3:Hid (w3.heap[w.heap.size]? = some (.cells (hcs 0 ⟨#[]⟩ 0 0 0 0 0 0 0 0 0) 26 (0,0))):=(B.block _ (Array.getElem?_eq_some_iff.1 HA2.out).1).trans HA2.out;clear B HB2 HA2 HAT;by_cases hr:r=0
 ·obtain⟨hz,hlo⟩:=HK.out hr;have hrn:(r != 0)=false:=by rw[hr];rfl
  have HC:=hid (HNA.out T hz hlo w3 HM.out);subst hr;clear hlo HK HNA HM;go_wp2_with fail;refine HC.out.mono ?_;rintro e w4 ⟨⟨n,hn,rfl⟩,B⟩;generalize hH:dom (bn T) 0=H at *;have HR0:Hid (∃ d r,IA (E.de (bn s)) d r/\cT (dom d r) (.returned (.tuple #[hvl H.1 n H.2.2.1 H.2.2.2.1,.int .i64 H.2.2.2.2]))):=⟨_,_,HI.out,by rw[hH];exact⟨n,hn,rfl⟩⟩;obtain⟨k,nm,f,a,er⟩:=H;obtain⟨a0,a1,a2,a3,a4,a5,a6,a7,ha⟩:∃ a0 a1 a2 a3 a4 a5 a6 a7:Int,hvl k n f a=hv (k:Nat) n (f:Nat) a0 a1 a2 a3 a4 a5 a6 a7:=⟨_,_,_,_,_,_,_,_,rfl⟩;simp only at HR0 ⊢;rw[ha]at HR0 ⊢;clear ha hn hH HI;have HR:=HR0;clear HR0;have HB4:=Bt' HB3 B;have HA4:Hid (w4.heap[w.heap.size]? = some (.cells (hcs 0 ⟨#[]⟩ 0 0 0 0 0 0 0 0 0) 26 (0,0))):=(B.block _ (Array.getElem?_eq_some_iff.1 HA3.out).1).trans HA3.out;clear B HB3 HA3 HC;go_wp2_with(refine wpList_store_row rfl 26 (.tmp 2) (.tmp 17) rfl w.heap.size (hcs (k:Nat) n (f:Nat) a0 a1 a2 a3 a4 a5 a6 a7) rfl rfl 26 (hcs 0 ⟨#[]⟩ 0 0 0 0 0 0 0 0 0) HA4.out (bu ..) rfl (eb ..) ?_);exact bodyPost_ret (aI results178 _ _ w.heap.size 26 (hcs (k:Nat) n (f:Nat) a0 a1 a2 a3 a4 a5 a6 a7) (0,0) _ rfl (X.aP HA4.out) underlying26 (bu ..)) rfl ⟨HR.out,X.ax HB4.out (le_refl _) _⟩
 ·have HR:Hid (∃ d r,IA (E.de (bn s)) d r/\cT (dom d r) (.returned (.tuple #[hv 0 ⟨#[]⟩ 0 0 0 0 0 0 0 0 0,.int .i64 70]))):=⟨_,_,HI.out,by
    unfold dom
    rw[if_pos (.inl hr)];exact eD 70⟩
  have hrn:(r != 0)=true:=by simpa using hr
  clear hr HK HI HNA HM;go_wp2_with(refine wpList_store_row rfl 26 (.tmp 2) (.tmp 14) rfl w.heap.size (hcs 0 ⟨#[]⟩ 0 0 0 0 0 0 0 0 0) rfl rfl 26 (hcs 0 ⟨#[]⟩ 0 0 0 0 0 0 0 0 0) HA3.out (bu ..) rfl (eb ..) ?_);exact bodyPost_ret (aI results178 _ _ w.heap.size 26 (hcs 0 ⟨#[]⟩ 0 0 0 0 0 0 0 0 0) (0,0) _ rfl (X.aP HA3.out) underlying26 (bu ..)) rfl ⟨HR.out,X.ax HB3.out (le_refl _) _⟩
def sxt(l:List Int):Hst:=if l.getLast? = some 93 then (match X.prs l.dropLast with | some a=>(3,[],0,a,0) | none=>non 70) else non 70
theorem Kd{s:List Int}(h:s.head? = some 91):six s=sxt (s.drop 1):=by
 cases s with
 | nil=>cases h
 | cons c l =>
  unfold six sxt;show(if 2<=(c::l).length/\(c::l).getLast? = some 93 then _ else _)=_;cases l with
  | nil=>rfl
  | cons d m =>
   have e1:(2<=(c::d::m).length/\(c::d::m).getLast? = some 93)↔(d::m).getLast? = some 93:=by rw[List.getLast?_cons_cons];exact⟨fun h=>h.2,fun h=>⟨by simp,h⟩⟩
   simp only[e1,List.drop_succ_cons,List.drop_zero];rfl
theorem sW(s:ByteArray)(n:Nat)(h:s.size=n+1):bn (s.extract 0 n)=(bn s).dropLast:=by
 unfold bn;rw[<-List.map_dropLast,List.dropLast_eq_take];have hl:s.data.toList.length=n+1:=by rw[<-Lib.size_eq];exact h
 rw[hl];simp[ByteArray.data_extract]
theorem Ew(s:ByteArray)(hs:s.size<=100000)(w:World)(hG:X.GX w):Calls prog 177 #[.string s] w fun e W'=>cT (sxt (bn s)) e/\Below w.heap.size w W':=by
 obtain⟨nb,na,nz⟩:=fZ w;have HB0:=hid nb;have HA0:=hid na;have HZ0:=hid nz;clear nb na nz;have HCS:=hid (fun W=>Io s hs W);have HG:=hid (hG.below HB0.out);clear hG
 have HPX:Hid (∀(b:Bool) (t:ByteArray),Jk s (.returned (.tuple #[.string t,.bool b]))->t.size<=100000/\(b=true->sxt (bn s)=(match X.prs (bn t) with | some a=>(3,[],0,a,0) | none=>non 70))/\(b=false->sxt (bn s)=non 70)):=fun b t h=>by
  rcases h with⟨h,e⟩ | ⟨h,e⟩
  ·cases e
   have hsz:1<=s.size:=by
    rw[<-aa];cases hb:bn s with
    | nil=>rw[hb]at h;cases h
    | cons _ _=>simp
   refine⟨by simp;omega,fun _=>?_,(fun h=>by cases h)⟩;unfold sxt;rw[if_pos h,sW s (s.size - 1) (by omega)]
  ·cases e;refine⟨hs,(fun h=>by cases h),fun _=>?_⟩;unfold sxt;rw[if_neg h]
 go_enter func177,ntmps177;go_wp2_with fail;obtain⟨w1,hw1⟩:=Ex' (w.alloc (.cells (hcs 0 ⟨#[]⟩ 0 0 0 0 0 0 0 0 0) 26));unfold hcs at hw1 HB0 HA0 HZ0 HG;rw[hw1]at HB0 HA0 HZ0 HG ⊢;clear hw1;refine(HCS.out w1).mono ?_;rintro e w2 ⟨hcs2,hw2⟩;obtain⟨t,b,rfl⟩:∃(t:ByteArray) (b:Bool),e=.returned (.tuple #[.string t,.bool b]):=by rcases hcs2 with⟨_,rfl⟩ | ⟨_,rfl⟩ <;> exact⟨_,_,rfl⟩
 obtain⟨ht,hp1,hp2⟩:=HPX.out b t hcs2;have HP1:=hid hp1;have HP2:=hid hp2;obtain rfl:=hw2.symm;have HSX:=hid (X.lr t ht w1 HG.out);clear hcs2 hp1 hp2 HPX HCS HG;go_wp2_with fail;refine HSX.out.mono ?_;rintro e w3 ⟨hp,B⟩;obtain⟨o,ho⟩:=Ex' (X.prs (bn t));have hl8:∀ a,o=some a->a.length=8:=fun a h=>X.rS (ho.trans h);rw[ho]at hp HP1;unfold X.kV at hp;subst hp
 obtain⟨x0,x1,x2,x3,x4,x5,x6,x7,hx⟩:∃ x0 x1 x2 x3 x4 x5 x6 x7,o.getD X.z8=[x0,x1,x2,x3,x4,x5,x6,x7]:=by
  cases o with
  | none=>exact⟨0,0,0,0,0,0,0,0,rfl⟩
  | some a=>exact X.BA (hl8 a rfl)
 have hxa:(X.ai (o.getD X.z8)).toArray=#[.int .u16 (x0:Nat),.int .u16 (x1:Nat),.int .u16 (x2:Nat),.int .u16 (x3:Nat),.int .u16 (x4:Nat),.int .u16 (x5:Nat),.int .u16 (x6:Nat),.int .u16 (x7:Nat)]:=by rw[hx];rfl
 rw[hxa];clear ho hxa hl8;have HB3:=Bt' HB0 B;have HA3:Hid (w3.heap[w.heap.size]? = some (.cells (hcs 0 ⟨#[]⟩ 0 0 0 0 0 0 0 0 0) 26 (0,0))):=(B.block _ (Array.getElem?_eq_some_iff.1 HA0.out).1).trans HA0.out;clear B HB0 HA0;have A6:=hid (heap_alloc_new w3 (.cells #[.int .u16 (x0:Nat),.int .u16 (x1:Nat),.int .u16 (x2:Nat),.int .u16 (x3:Nat),.int .u16 (x4:Nat),.int .u16 (x5:Nat),.int .u16 (x6:Nat),.int .u16 (x7:Nat)] 24));have HB4:=hid (HB3.out.alloc HB3.out.size (.cells #[.int .u16 (x0:Nat),.int .u16 (x1:Nat),.int .u16 (x2:Nat),.int .u16 (x3:Nat),.int .u16 (x4:Nat),.int .u16 (x5:Nat),.int .u16 (x6:Nat),.int .u16 (x7:Nat)] 24));have HA4:Hid ((w3.alloc (.cells #[.int .u16 (x0:Nat),.int .u16 (x1:Nat),.int .u16 (x2:Nat),.int .u16 (x3:Nat),.int .u16 (x4:Nat),.int .u16 (x5:Nat),.int .u16 (x6:Nat),.int .u16 (x7:Nat)] 24)).heap[w.heap.size]? = some (.cells (hcs 0 ⟨#[]⟩ 0 0 0 0 0 0 0 0 0) 26 (0,0))):=xL HA3.out _;by_cases hb:b=true/\X.err o=0
 ·obtain⟨rfl,he⟩:=hb
  obtain⟨a,rfl⟩:∃ a,o=some a:=by
   cases o with
   | none=>exact absurd he (by decide)
   | some a=>exact⟨a,rfl⟩
  have hax:a=[x0,x1,x2,x3,x4,x5,x6,x7]:=hx;have HR:Hid (cT (sxt (bn s)) (.returned (.tuple #[hv 3 ⟨#[]⟩ 0 (x0:Nat) (x1:Nat) (x2:Nat) (x3:Nat) (x4:Nat) (x5:Nat) (x6:Nat) (x7:Nat),.int .i64 0]))):=by show cT _ _;rw[HP1.out rfl,hax];exact⟨⟨#[]⟩,rfl,rfl⟩
  clear he hx hax HP1 HP2 HSX;have F0:World.cell? _ ⟨w3.heap.size,0,none⟩=some (.int .u16 (x0:Nat)):=cell_of_row _ _ 0 _ _ _ A6.out;have F1:World.cell? _ ⟨w3.heap.size,1,none⟩=some (.int .u16 (x1:Nat)):=cell_of_row _ _ 1 _ _ _ A6.out;have F2:World.cell? _ ⟨w3.heap.size,2,none⟩=some (.int .u16 (x2:Nat)):=cell_of_row _ _ 2 _ _ _ A6.out;have F3:World.cell? _ ⟨w3.heap.size,3,none⟩=some (.int .u16 (x3:Nat)):=cell_of_row _ _ 3 _ _ _ A6.out;have F4:World.cell? _ ⟨w3.heap.size,4,none⟩=some (.int .u16 (x4:Nat)):=cell_of_row _ _ 4 _ _ _ A6.out;have F5:World.cell? _ ⟨w3.heap.size,5,none⟩=some (.int .u16 (x5:Nat)):=cell_of_row _ _ 5 _ _ _ A6.out;have F6:World.cell? _ ⟨w3.heap.size,6,none⟩=some (.int .u16 (x6:Nat)):=cell_of_row _ _ 6 _ _ _ A6.out;have F7:World.cell? _ ⟨w3.heap.size,7,none⟩=some (.int .u16 (x7:Nat)):=cell_of_row _ _ 7 _ _ _ A6.out;go_wp2_with(refine wpList_store_row rfl 26 (.tmp 2) (.tmp 26) rfl w.heap.size (hcs 3 ⟨#[]⟩ 0 (x0:Nat) (x1:Nat) (x2:Nat) (x3:Nat) (x4:Nat) (x5:Nat) (x6:Nat) (x7:Nat)) rfl rfl 26 (hcs 0 ⟨#[]⟩ 0 0 0 0 0 0 0 0 0) HA4.out (bu ..) rfl (eb ..) ?_);exact bodyPost_ret (aI results177 _ _ w.heap.size 26 (hcs 3 ⟨#[]⟩ 0 (x0:Nat) (x1:Nat) (x2:Nat) (x3:Nat) (x4:Nat) (x5:Nat) (x6:Nat) (x7:Nat)) (0,0) _ rfl (X.aP HA4.out) underlying26 (bu ..)) rfl ⟨HR.out,X.ax HB4.out (le_refl _) _⟩
 ·have HR:Hid (cT (sxt (bn s)) (.returned (.tuple #[hv 0 ⟨#[]⟩ 0 0 0 0 0 0 0 0 0,.int .i64 70]))):=by
   show cT _ _;cases b with
   | false=>rw[HP2.out rfl];exact eD 70
   | true =>
    cases o with
    | none=>rw[HP1.out rfl];exact eD 70
    | some a=>exact absurd ⟨rfl,rfl⟩ hb
  have hc:b=false\/(b=true/\X.err o=8):=by
   cases b with
   | false=>exact .inl rfl
   | true =>
    cases o with
    | none=>exact .inr ⟨rfl,rfl⟩
    | some a=>exact absurd ⟨rfl,rfl⟩ hb
  clear hb hx HP1 HP2 HSX;rcases hc with rfl | ⟨rfl,he⟩
  ·generalize X.err o=q;go_wp2_with(refine wpList_store_row rfl 26 (.tmp 2) (.tmp 24) rfl w.heap.size (hcs 0 ⟨#[]⟩ 0 0 0 0 0 0 0 0 0) rfl rfl 26 (hcs 0 ⟨#[]⟩ 0 0 0 0 0 0 0 0 0) HA4.out (bu ..) rfl (eb ..) ?_);exact bodyPost_ret (aI results177 _ _ w.heap.size 26 (hcs 0 ⟨#[]⟩ 0 0 0 0 0 0 0 0 0) (0,0) _ rfl (X.aP HA4.out) underlying26 (bu ..)) rfl ⟨HR.out,X.ax HB4.out (le_refl _) _⟩
  ·rw[he];go_wp2_with(refine wpList_store_row rfl 26 (.tmp 2) (.tmp 24) rfl w.heap.size (hcs 0 ⟨#[]⟩ 0 0 0 0 0 0 0 0 0) rfl rfl 26 (hcs 0 ⟨#[]⟩ 0 0 0 0 0 0 0 0 0) HA4.out (bu ..) rfl (eb ..) ?_);exact bodyPost_ret (aI results177 _ _ w.heap.size 26 (hcs 0 ⟨#[]⟩ 0 0 0 0 0 0 0 0 0) (0,0) _ rfl (X.aP HA4.out) underlying26 (bu ..)) rfl ⟨HR.out,X.ax HB4.out (le_refl _) _⟩
def GH(w:World):Prop:=F.Pow w/\F.Max w/\X.GX w
theorem GH.below{w w':World}(h:GH w)(hb:Below w.heap.size w w'):GH w':=⟨h.1.below h.1.size hb,h.2.1.below hb,h.2.2.below hb⟩
theorem xR(s:ByteArray)(sp:Bool)(hs:s.size<=100000)(w:World)(hG:GH w):Calls prog 138 #[.string s,.bool sp] w fun e W'=>kW IA (bn s) sp w e W':=by
 obtain⟨nb,na,nz⟩:=fZ w;have HB0:=hid nb;have HA0:=hid na;have HZ0:=hid nz;clear nb na nz;have HCP:=hid (fun W=>Ip s W);have HG:=hid (hG.below HB0.out);clear hG;have HPR:Hid (∀(h:Hst) (e:Ending) (W':World),HP IA (bn s) sp h->cT h e->Below w.heap.size w W'->kW IA (bn s) sp w e W'):=fun h e W' hp hr hb=>by obtain⟨n,hn,rfl⟩:=hr;exact⟨⟨h,n,hp,hn,rfl⟩,hb⟩
 go_enter func138,ntmps138;go_wp2_with fail;obtain⟨w1,hw1⟩:=Ex' (w.alloc (.cells (hcs 0 ⟨#[]⟩ 0 0 0 0 0 0 0 0 0) 26));unfold hcs at hw1 HB0 HA0 HZ0 HG;rw[hw1]at HB0 HA0 HZ0 HG ⊢;clear hw1;refine(HCP.out w1).mono ?_;rintro e w2 ⟨hcp,hw2⟩;obtain⟨t,b,rfl⟩:∃(t:ByteArray) (b:Bool),e=.returned (.tuple #[.string t,.bool b]):=by rcases hcp with⟨_,rfl⟩ | ⟨_,rfl⟩ <;> exact⟨_,_,rfl⟩
 obtain rfl:=hw2.symm;clear HCP;by_cases hl:4096<s.size
 ·have hlz:(4096:Int)<(s.size:Int):=by omega
  have HPN:Hid (HP IA (bn s) sp (non 4)):=by show HP _ _ _ _;unfold HP;rw[if_pos (by rw[aa];exact hl)]
  have HR:Hid (∀ W',Below w.heap.size w W'->kW IA (bn s) sp w (.returned (.tuple #[hv 0 ⟨#[]⟩ 0 0 0 0 0 0 0 0 0,.int .i64 4])) W'):=fun W' hb=>HPR.out _ _ _ HPN.out (eD 4) hb;clear HPN HPR hcp HG;go_wp2_with(refine wpList_store_row rfl 26 (.tmp 4) (.tmp 17) rfl w.heap.size (hcs 0 ⟨#[]⟩ 0 0 0 0 0 0 0 0 0) rfl rfl 26 (hcs 0 ⟨#[]⟩ 0 0 0 0 0 0 0 0 0) HA0.out (bu ..) rfl (eb ..) ?_);exact bodyPost_ret (aI results138 _ _ w.heap.size 26 (hcs 0 ⟨#[]⟩ 0 0 0 0 0 0 0 0 0) (0,0) _ rfl (X.aP HA0.out) underlying26 (bu ..)) rfl (HR.out _ (X.ax HB0.out (le_refl _) _))
 ·have hlz:¬ (4096:Int)<(s.size:Int):=by omega
  have hln:¬ 4096<(bn s).length:=by rw[aa];exact hl
  rcases hcp with⟨hh,he⟩ | ⟨hh,he⟩
  ·cases he
   have HX:Hid (∀(e:Ending) (W':World),cT (sxt (bn (s.extract 1 s.size))) e->Below w.heap.size w W'->kW IA (bn s) sp w e W'):=fun e W' hr hb=>HPR.out _ _ _ (by
     unfold HP
     rw[if_neg hln,if_pos hh,Kd hh,<-ar]) hr hb
   have HC:=hid (Ew (s.extract 1 s.size) (by simp;omega) w1 HG.out.2.2);clear HPR HG hh hln;go_wp2_with fail;refine HC.out.mono ?_;rintro e w3 ⟨⟨n,hn,rfl⟩,B⟩;generalize hH:sxt (bn (s.extract 1 s.size))=H at *;have HR:Hid (∀ W',Below w.heap.size w W'->kW IA (bn s) sp w (.returned (.tuple #[hvl H.1 n H.2.2.1 H.2.2.2.1,.int .i64 H.2.2.2.2])) W'):=fun W' hb=>HX.out _ _ ⟨n,hn,rfl⟩ hb;clear hn hH HX;obtain⟨k,nm,f,a,er⟩:=H;obtain⟨a0,a1,a2,a3,a4,a5,a6,a7,ha⟩:∃ a0 a1 a2 a3 a4 a5 a6 a7:Int,hvl k n f a=hv (k:Nat) n (f:Nat) a0 a1 a2 a3 a4 a5 a6 a7:=⟨_,_,_,_,_,_,_,_,rfl⟩;simp only at HR ⊢;rw[ha]at HR ⊢;clear ha;have HB3:=Bt' HB0 B;have HA3:Hid (w3.heap[w.heap.size]? = some (.cells (hcs 0 ⟨#[]⟩ 0 0 0 0 0 0 0 0 0) 26 (0,0))):=(B.block _ (Array.getElem?_eq_some_iff.1 HA0.out).1).trans HA0.out;clear B HB0 HA0 HC;go_wp2_with(refine wpList_store_row rfl 26 (.tmp 4) (.tmp 22) rfl w.heap.size (hcs (k:Nat) n (f:Nat) a0 a1 a2 a3 a4 a5 a6 a7) rfl rfl 26 (hcs 0 ⟨#[]⟩ 0 0 0 0 0 0 0 0 0) HA3.out (bu ..) rfl (eb ..) ?_);exact bodyPost_ret (aI results138 _ _ w.heap.size 26 (hcs (k:Nat) n (f:Nat) a0 a1 a2 a3 a4 a5 a6 a7) (0,0) _ rfl (X.aP HA3.out) underlying26 (bu ..)) rfl (HR.out _ (X.ax HB3.out (le_refl _) _))
  ·cases he;cases sp with
   | false =>
    have HX:Hid (∀(e:Ending) (W':World),cT (opq (bn s)) e->Below w.heap.size w W'->kW IA (bn s) false w e W'):=fun e W' hr hb=>HPR.out _ _ _ (by
      unfold HP
      rw[if_neg hln,if_neg hh,if_pos rfl]) hr hb
    have HC:=hid (ER s (by omega) w1);clear HPR HG hh hln;go_wp2_with fail;refine HC.out.mono ?_;rintro e w3 ⟨⟨n,hn,rfl⟩,B⟩;generalize hH:opq (bn s)=H at *;have HR:Hid (∀ W',Below w.heap.size w W'->kW IA (bn s) false w (.returned (.tuple #[hvl H.1 n H.2.2.1 H.2.2.2.1,.int .i64 H.2.2.2.2])) W'):=fun W' hb=>HX.out _ _ ⟨n,hn,rfl⟩ hb;clear hn hH HX;obtain⟨k,nm,f,a,er⟩:=H;obtain⟨a0,a1,a2,a3,a4,a5,a6,a7,ha⟩:∃ a0 a1 a2 a3 a4 a5 a6 a7:Int,hvl k n f a=hv (k:Nat) n (f:Nat) a0 a1 a2 a3 a4 a5 a6 a7:=⟨_,_,_,_,_,_,_,_,rfl⟩;simp only at HR ⊢;rw[ha]at HR ⊢;clear ha;have HB3:=Bt' HB0 B;have HA3:Hid (w3.heap[w.heap.size]? = some (.cells (hcs 0 ⟨#[]⟩ 0 0 0 0 0 0 0 0 0) 26 (0,0))):=(B.block _ (Array.getElem?_eq_some_iff.1 HA0.out).1).trans HA0.out;clear B HB0 HA0 HC;go_wp2_with(refine wpList_store_row rfl 26 (.tmp 4) (.tmp 32) rfl w.heap.size (hcs (k:Nat) n (f:Nat) a0 a1 a2 a3 a4 a5 a6 a7) rfl rfl 26 (hcs 0 ⟨#[]⟩ 0 0 0 0 0 0 0 0 0) HA3.out (bu ..) rfl (eb ..) ?_);exact bodyPost_ret (aI results138 _ _ w.heap.size 26 (hcs (k:Nat) n (f:Nat) a0 a1 a2 a3 a4 a5 a6 a7) (0,0) _ rfl (X.aP HA3.out) underlying26 (bu ..)) rfl (HR.out _ (X.ax HB3.out (le_refl _) _))
   | true =>
    have HX:Hid (∀(d:List Int) (r:Int) (e:Ending) (W':World),IA (E.de (bn s)) d r->cT (dom d r) e->Below w.heap.size w W'->kW IA (bn s) true w e W'):=fun d r e W' hi hr hb=>HPR.out _ _ _ (by
      unfold HP
      rw[if_neg hln,if_neg hh,if_neg (by decide)]
      exact⟨d,r,hi,rfl⟩) hr hb
    have HC:=hid (AX s (by omega) w1 HG.out.2.1);clear HPR HG hh hln;go_wp2_with fail;refine HC.out.mono ?_;rintro e w3 ⟨⟨d,r,hi,n,hn,rfl⟩,B⟩;generalize hH:dom d r=H at *;have HR:Hid (∀ W',Below w.heap.size w W'->kW IA (bn s) true w (.returned (.tuple #[hvl H.1 n H.2.2.1 H.2.2.2.1,.int .i64 H.2.2.2.2])) W'):=fun W' hb=>HX.out d r _ _ hi (by rw[hH];exact⟨n,hn,rfl⟩) hb;clear hn hH HX hi;obtain⟨k,nm,f,a,er⟩:=H;obtain⟨a0,a1,a2,a3,a4,a5,a6,a7,ha⟩:∃ a0 a1 a2 a3 a4 a5 a6 a7:Int,hvl k n f a=hv (k:Nat) n (f:Nat) a0 a1 a2 a3 a4 a5 a6 a7:=⟨_,_,_,_,_,_,_,_,rfl⟩;simp only at HR ⊢;rw[ha]at HR ⊢;clear ha;have HB3:=Bt' HB0 B;have HA3:Hid (w3.heap[w.heap.size]? = some (.cells (hcs 0 ⟨#[]⟩ 0 0 0 0 0 0 0 0 0) 26 (0,0))):=(B.block _ (Array.getElem?_eq_some_iff.1 HA0.out).1).trans HA0.out;clear B HB0 HA0 HC;go_wp2_with(refine wpList_store_row rfl 26 (.tmp 4) (.tmp 28) rfl w.heap.size (hcs (k:Nat) n (f:Nat) a0 a1 a2 a3 a4 a5 a6 a7) rfl rfl 26 (hcs 0 ⟨#[]⟩ 0 0 0 0 0 0 0 0 0) HA3.out (bu ..) rfl (eb ..) ?_);exact bodyPost_ret (aI results138 _ _ w.heap.size 26 (hcs (k:Nat) n (f:Nat) a0 a1 a2 a3 a4 a5 a6 a7) (0,0) _ rfl (X.aP HA3.out) underlying26 (bu ..)) rfl (HR.out _ (X.ax HB3.out (le_refl _) _))
end H
namespace Y
open F (bn aa hid)
theorem SR(s:ByteArray):hpr s ⟨#[47,47]⟩=decide ((bn s).take 2=[47,47]):=oC s _
theorem tI(w0 W:World)(b:Nat)(r:Rd)(ps:List ByteArray)(hS:St w0 b W r ps)(hs:r.re.size<=100000)(hsl:r.sl=ia r.sp)(hh:r.u.hh=false)(ho:r.u.op=false):Calls prog 50 #[.pointer (some ⟨b,0,none⟩)] W fun e W' =>
  e=.returned (.int .i64 0)/\((r.sp=true/\∃ t,bn t=(bn r.re).dropWhile (Y.sl true)/\St w0 b W' { r with re:=t,u:={ r.u with hh:=true } } ps)\/(r.sp=false/\(bn r.re).take 2=[47,47]/\∃ t,bn t=(bn r.re).drop 2/\St w0 b W' { r with re:=t,u:={ r.u with hh:=true } } ps)\/(r.sp=false/\(bn r.re).take 2≠[47,47]/\St w0 b W' { r with u:={ r.u with op:=decide ((bn r.re).head? ≠ some 47) } } ps)):=by
 obtain⟨F24,Z24⟩:=hS.cell 24 (.string r.re) rfl;obtain⟨F25,Z25⟩:=hS.cell 25 (.bool r.sp) rfl;obtain⟨F26,_⟩:=hS.cell 26 (.string r.sl) rfl;obtain⟨F3,Z3⟩:=hS.cell 3 (.bool r.u.hh) rfl;have HS:=hid hS;rw[hh]at F3;rcases(show r.sp=false\/r.sp=true by cases r.sp <;> simp) with hsp | hsp
 ·rw[hsp]at F25;have HSP:=hid hsp;have HCP:=hid (fun W=>oU r.re ⟨#[47,47]⟩ (by omega) W);have HPR:=hid (fun W=>mv r.re ⟨#[47]⟩ W);have HB1:=hid (yn r.re ⟨#[47,47]⟩);have HB2:=hid (SR r.re);have HB3:=hid (mB r.re 47);cases hq:hpr r.re ⟨#[47,47]⟩
  ·have ey:cpx r.re ⟨#[47,47]⟩=r.re:=by unfold cpx;rw[hq];rfl
   rw[hq]at HB2;rw[hq,ey]at HCP;obtain⟨V1,hV1⟩:=Ex' (W.setCell ⟨b,24,none⟩ (.string r.re));have S1:=hS.put 24 (.string r.re) r rfl rfl;rw[hV1]at S1;obtain⟨G3,Y3⟩:=S1.cell 3 (.bool false) (by show some (Value.bool r.u.hh)=_;rw[hh]);obtain⟨V2,hV2⟩:=Ex' (V1.setCell ⟨b,3,none⟩ (.bool false));have S2:=S1.put 3 (.bool false) r (by rw[<-hh];rfl) rfl;rw[hV2]at S2;obtain⟨K3,L3⟩:=S2.cell 3 (.bool false) (by show some (Value.bool r.u.hh)=_;rw[hh]);obtain⟨K24,L24⟩:=S2.cell 24 (.string r.re) rfl;obtain⟨K17,L17⟩:=S2.cell 17 (.bool false) (by show some (Value.bool r.u.op)=_;rw[ho]);have HS2:=hid S2;obtain⟨z,hz⟩:=Ex' (hpr r.re ⟨#[47]⟩);rw[hz]at HPR HB3;have HEND:Hid (St w0 b (V2.setCell ⟨b,17,none⟩ (.bool (!z))) { r with u:={ r.u with op:=!z } } ps):=S2.put 17 (.bool (!z)) { r with u:={ r.u with op:=!z } } rfl rfl;clear hS hh ho hsp hq ey S1 S2 hz HB1 HS;go_enter func50,ntmps50
   go_wp2_with(first
     | (go_at_call 90;refine(HCP.out _).mono ?_;rintro e w3 ⟨rfl,hw⟩;obtain rfl:=hw.symm)
     | (go_at_call 91;refine(HPR.out _).mono ?_;rintro e w3 ⟨rfl,hw⟩;obtain rfl:=hw.symm))
   go_ret;refine⟨rfl,.inr (.inr ⟨HSP.out,of_decide_eq_false HB2.out.symm,?_⟩)⟩
   have ez:decide ((bn r.re).head? ≠ some 47)=!z:=by
    rw[HB3.out];by_cases h:(bn r.re).head? = some ((47:UInt8).toNat:Int)
    ·rw[decide_eq_true h];exact decide_eq_false (fun hn=>hn h)
    ·rw[decide_eq_false h];exact decide_eq_true h
   rw[ez];exact HEND.out
  ·obtain⟨y,hy⟩:=Ex' (cpx r.re ⟨#[47,47]⟩);rw[hq,hy]at HCP;rw[hq,hy]at HB1;rw[hq]at HB2;obtain⟨V1,hV1⟩:=Ex' (W.setCell ⟨b,24,none⟩ (.string y));have S1:=hS.put 24 (.string y) { r with re:=y } rfl rfl;rw[hV1]at S1;obtain⟨G3,Y3⟩:=S1.cell 3 (.bool false) (by show some (Value.bool r.u.hh)=_;rw[hh]);obtain⟨V2,hV2⟩:=Ex' (V1.setCell ⟨b,3,none⟩ (.bool true));have S2:=S1.put 3 (.bool true) { r with re:=y,u:={ r.u with hh:=true } } rfl rfl;rw[hV2]at S2;obtain⟨K3,L3⟩:=S2.cell 3 (.bool true) rfl;obtain⟨K17,L17⟩:=S2.cell 17 (.bool false) (by show some (Value.bool r.u.op)=_;rw[ho]);have HEND:Hid (St w0 b (V2.setCell ⟨b,17,none⟩ (.bool false)) { r with re:=y,u:={ r.u with hh:=true } } ps):=S2.put 17 (.bool false) { r with re:=y,u:={ r.u with hh:=true } } (by rw[<-ho];rfl) rfl;have HBB:Hid (bn y=(bn r.re).drop 2):=HB1.out.trans (if_pos rfl);clear hS hh ho hsp hq hy S1 S2 HB3 HPR HS HB1;go_enter func50,ntmps50;go_wp2_with(go_at_call 90;refine(HCP.out _).mono ?_;rintro e w3 ⟨rfl,hw⟩;obtain rfl:=hw.symm);go_ret;exact⟨rfl,.inr (.inl ⟨HSP.out,of_decide_eq_true HB2.out.symm,y,HBB.out,HEND.out⟩)⟩
 ·rw[hsp]at F25 hsl;have HSP:=hid hsp;have el:r.sl=AK:=hsl;rw[el]at F26;have HTL:=hid (fun W=>ru r.re W);clear hsl el hsp;go_enter func50,ntmps50;go_wp2_with fail
  go_region_with ((go_at_call 89;refine(HTL.out _).mono ?_;rintro e w' ⟨⟨t,rfl,ht⟩,hb⟩;have S1:=HS.out.below (bK (Below.refl _ W) hb);obtain⟨G24,Y24⟩:=S1.cell 24 (.string r.re) rfl))
  all_goals (
    have S2:=S1.put 24 (.string t) { r with re:=t } rfl rfl
    obtain⟨G3,Y3⟩:=S2.cell 3 (.bool false) (by show some (Value.bool r.u.hh)=_;rw[hh])
    have HEND:=hid (S2.put 3 (.bool true) { r with re:=t,u:={ r.u with hh:=true } } rfl rfl)
    have HT:=hid ht
    clear S1 S2 ht hb G24 Y24 hS hh ho F24 Z24 F25 Z25 F26 F3 Z3 HS HTL
    go_wp2
    go_ret
    exact⟨rfl,.inl ⟨HSP.out,t,HT.out,HEND.out⟩⟩)
theorem tL(s:ByteArray)(hs:s.size<=100000)(w0 W:World)(b:Nat)(r:Rd)(ps:List ByteArray)(hS:St w0 b W r ps):Calls prog 95 #[.pointer (some ⟨b,0,none⟩),.string s] W fun e W' =>
  e=.returned (.tuple #[])/\∃ us pa,bn us=E.en 5 (U.dec ((bn s).takeWhile dq))/\bn pa=E.en 5 (U.dec (((bn s).dropWhile dq).drop 1))/\St w0 b W' { r with u:={ r.u with us:=us,pa:=pa } } ps:=by
 obtain⟨a,d,y,ha,hd,_,HDV⟩:=jg f58 s (by omega);have en:(fun c=>!Gx c)=dq:=funext n58;rw[en]at ha hd;have hasz:a.size<=100000:=by rw[<-aa,ha];exact le_trans (List.takeWhile_prefix _).length_le (by rw[aa];exact hs)
 have hdsz:d.size<=100000:=by rw[<-aa,hd,length_drop];have:=(List.dropWhile_suffix (l:=bn s) dq).length_le;rw[aa]at this;omega
 have HA:=hid ha;have HD:=hid hd;have HDD:=hid HDV;have HS:=hid hS;have HE1:=hid (fun W=>E.bP a 5 W (by omega) (by decide));have HE2:=hid (fun W=>E.bP d 5 W (by omega) (by decide));clear ha hd HDV en hS;go_enter func95,ntmps95;go_wp2_with fail;refine(dH _ _).mono ?_;rintro e w1 ⟨⟨k,rfl,hk⟩,B1⟩;have S1:=HS.out.below B1;have HDC:=hid (HDD.out w1 k hk);clear HS HDD hk B1;go_wp2_with fail;refine HDC.out.mono ?_;rintro e w2 ⟨rfl,B2⟩;have S2:=S1.below B2;clear S1 B2 HDC;go_wp2_with fail;refine(HE1.out _).mono ?_;rintro e w3 ⟨⟨us,rfl,hus⟩,B3⟩;have S3:=S2.below B3;obtain⟨F1,Z1⟩:=S3.cell 1 (.string r.u.us) rfl;have S4:=S3.put 1 (.string us) { r with u:={ r.u with us:=us } } rfl rfl;obtain⟨V1,hV1⟩:=Ex' (w3.setCell ⟨b,1,none⟩ (.string us));rw[hV1]at S4;have HUS:=hid hus;clear S2 S3 B3 hus HE1;go_wp2_with fail;clear hV1 F1 Z1;refine(HE2.out _).mono ?_;rintro e w4 ⟨⟨pa,rfl,hpa⟩,B4⟩;have S5:=S4.below B4;obtain⟨F2,Z2⟩:=S5.cell 2 (.string r.u.pa) rfl;have HS6:=hid (S5.put 2 (.string pa) { r with u:={ r.u with us:=us,pa:=pa } } rfl rfl);have HPA:=hid hpa;clear S4 S5 B4 hpa HE2;go_wp2;refine bodyPost_end (results_none rfl _ _ _) rfl ?_;exact⟨rfl,us,pa,(show bn us=E.en 5 (U.dec (bn a)) from HUS.out).trans (by rw[HA.out]),(show bn pa=E.en 5 (U.dec (bn d)) from HPA.out).trans (by rw[HD.out]),HS6.out⟩
end Y
end Go.Proofs.YtlmflmdmolcfhaaGreatDoor
namespace Go.Proofs
open Go.Shelf Go.RowKit
shelf_lay Lays.n155 Nm 155 at Tryz as Tryz.laysRep
end Go.Proofs
namespace Go.Proofs.YtlmflmdmolcfhaaGreatDoor
open Tryz Go.RowKit
namespace Y
open Go.RowKit Go.Shelf
open F (bn)
def rb(e:UInt8):List UInt8->List UInt8
 | []=>[]
 | [a]=>[a]
 | [a,b]=>[a,b]
 | c::a::b::t=>if c=37/\a=50/\b=e then 46::rb e t else c::rb e (a::b::t)
def rp(e:Int):List Int->List Int
 | []=>[]
 | [a]=>[a]
 | [a,b]=>[a,b]
 | c::a::b::t=>if c=37/\a=50/\b=e then 46::rp e t else c::rp e (a::b::t)
theorem rO(e:UInt8):∀(n:Nat) (l:List UInt8),l.length<=n->Lib.replaceK [37,50,e] [46] (Lib.count l [37,50,e]) l=rb e l
 | n,[],_=>by
  have hi:Lib.index [] [37,50,e]=-1:=rfl;rw[count_miss hi];rfl
 | n,[a],_=>by
  have hi:Lib.index [a] [37,50,e]=-1:=by simp[Lib.index,List.isPrefixOf]
  rw[count_miss hi];rfl
 | n,[a,b],_=>by
  have hi:Lib.index [a,b] [37,50,e]=-1:=by simp[Lib.index,List.isPrefixOf]
  rw[count_miss hi];rfl
 | 0,c::a::b::t,h=>by simp at h
 | n+1,c::a::b::t,h=>by
  have hp:([37,50,e]:List UInt8).isPrefixOf (c::a::b::t)=decide (c=37/\a=50/\b=e):=by
   rw[Bool.eq_iff_iff,decide_eq_true_iff];simp[List.isPrefixOf];constructor
   ·rintro⟨h1,h2,h3⟩;exact⟨h1.symm,h2.symm,h3.symm⟩
   ·rintro⟨h1,h2,h3⟩;exact⟨h1.symm,h2.symm,h3.symm⟩
  have ih1:=rO e n t (by simp at h;omega);have ih2:=rO e n (a::b::t) (by simp at h ⊢;omega);unfold rb;by_cases hh:c=37/\a=50/\b=e
  ·have hi:Lib.index (c::a::b::t) [37,50,e]=((0:Nat):Int):=by rw[Lib.index,hp,decide_eq_true hh,if_pos rfl];rfl
   rw[if_pos hh,Lib.count_hit (by simp) hi,add_comm 1,Lib.replaceK_hit _ _ _ _ 0 hi];show []++[46]++Lib.replaceK _ _ (Lib.count t _) t=_;rw[ih1];rfl
  ·rw[if_neg hh];have hi0:Lib.index (c::a::b::t) [37,50,e]=if Lib.index (a::b::t) [37,50,e]==-1 then -1 else Lib.index (a::b::t) [37,50,e]+1:=by rw[Lib.index,hp,decide_eq_false hh,if_neg (by simp)]
   by_cases hm:Lib.index (a::b::t) [37,50,e]=-1
   ·rw[hm]at hi0;have hi:Lib.index (c::a::b::t) [37,50,e]=-1:=hi0;rw[count_miss hm]at ih2;rw[count_miss hi,<-ih2];rfl
   ·have hge:=Lib.index_ge (a::b::t) [37,50,e];obtain⟨i,hii⟩:∃ i:Nat,Lib.index (a::b::t) [37,50,e]=i:=⟨(Lib.index (a::b::t) [37,50,e]).toNat,by omega⟩;rw[if_neg (by simpa using hm),hii]at hi0;have hi:Lib.index (c::a::b::t) [37,50,e]=((i+1:Nat):Int):=by rw[hi0];omega
    rw[Lib.count_hit (by simp) hii,add_comm 1,Lib.replaceK_hit _ _ _ _ i hii]at ih2;rw[Lib.count_hit (by simp) hi,add_comm 1,Lib.replaceK_hit _ _ _ _ (i+1) hi,<-ih2];rw[show i+1+[37,50,e].length=(i+[37,50,e].length)+1 by omega,List.drop_succ_cons,List.take_succ_cons];rfl
theorem Eu(e:UInt8):∀(n:Nat) (l:List UInt8),l.length<=n->(rb e l).map (fun c:UInt8=>(c.toNat:Int))=rp (e.toNat:Int) (l.map (fun c:UInt8=>(c.toNat:Int)))
 | n,[],_=>rfl
 | n,[a],_=>rfl
 | n,[a,b],_=>rfl
 | 0,c::a::b::t,h=>by simp at h
 | n+1,c::a::b::t,h=>by
  have ih1:=Eu e n t (by simp at h;omega);have ih2:=Eu e n (a::b::t) (by simp at h ⊢;omega);have hi:∀ {x y:UInt8},(x.toNat:Int)=(y.toNat:Int)↔x=y:=fun {x y}=>⟨fun h=>UInt8.toNat_inj.1 (by omega),fun h=>by rw[h]⟩;simp only[map_cons]at ih2 ⊢;unfold rb rp;have hc:((c.toNat:Int)=37/\(a.toNat:Int)=50/\(b.toNat:Int)=(e.toNat:Int))↔(c=37/\a=50/\b=e):=by rw[show(37:Int)=((37:UInt8).toNat:Int) from rfl,show(50:Int)=((50:UInt8).toNat:Int) from rfl,hi,hi,hi]
  by_cases hh:c=37/\a=50/\b=e
  ·rw[if_pos hh,if_pos (hc.2 hh),map_cons,ih1];rfl
  ·rw[if_neg hh,if_neg (fun h=>hh (hc.1 h)),map_cons,ih2]
theorem tP{e c:Int}(h:c≠37):∀ y:List Int,rp e (c::y)=c::rp e y
 | []=>rfl
 | [_]=>rfl
 | a::b::t=>by show(if c=37/\a=50/\b=e then _ else _)=_;rw[if_neg (fun hh=>h hh.1)]
theorem zb{e c d:Int}{y z:List Int}(h:rp e (c::y)=d::z):d=c\/d=46:=by
 match y,h with
 | [],h=>injection h with h _;exact .inl h.symm
 | [_],h=>injection h with h _;exact .inl h.symm
 | a::b::t,h =>
  unfold rp at h;split at h
  ·injection h with h _;exact .inr h.symm
  ·injection h with h _;exact .inl h.symm
theorem RA{e c:Int}{y:List Int}(h:∀ z,y≠50::e::z):rp e (c::y)=c::rp e y:=by
 match y,h with
 | [],_=>rfl
 | [_],_=>rfl
 | a::b::t,h =>
  show(if c=37/\a=50/\b=e then _ else _)=_;rw[if_neg (fun hh=>h t (by rw[hh.2.1,hh.2.2]))]
theorem xd:∀(n:Nat) (x:List Int),x.length<=n->rp 69 (rp 101 x)=dot x
 | n,[],_=>rfl
 | n,[a],_=>rfl
 | n,[a,b],_=>rfl
 | 0,c::a::b::t,h=>by simp at h
 | n+1,c::a::b::t,h=>by
  have ih1:=xd n t (by simp at h;omega);have ih2:=xd n (a::b::t) (by simp at h ⊢;omega);by_cases h1:c=37/\a=50/\b=101
  ·have e1:rp 101 (c::a::b::t)=46::rp 101 t:=by show(if c=37/\a=50/\b=101 then _ else _)=_;rw[if_pos h1]
   have e2:dot (c::a::b::t)=46::dot t:=by show(if c=37/\a=50/\(b=101\/b=69) then _ else _)=_;rw[if_pos ⟨h1.1,h1.2.1,.inl h1.2.2⟩]
   rw[e1,e2,tP (by decide),ih1]
  ·have e1:rp 101 (c::a::b::t)=c::rp 101 (a::b::t):=by show(if c=37/\a=50/\b=101 then _ else _)=_;rw[if_neg h1]
   by_cases h2:c=37/\a=50/\b=69
   ·obtain⟨rfl,rfl,rfl⟩:=h2;have e2:dot (37::50::69::t)=46::dot t:=by show(if _ then _ else _)=_;rw[if_pos ⟨rfl,rfl,.inr rfl⟩]
    have e3:rp 69 (37::50::69::rp 101 t)=46::rp 69 (rp 101 t):=by show(if _ then _ else _)=_;rw[if_pos ⟨rfl,rfl,rfl⟩]
    have e4:rp 101 (50::69::t)=50::69::rp 101 t:=by rw[tP (by decide),tP (by decide)]
    rw[e1,e4,e3,ih1,e2]
   ·have e2:dot (c::a::b::t)=c::dot (a::b::t):=by show(if _ then _ else _)=_;rw[if_neg (fun hh=>hh.2.2.elim (fun q=>h1 ⟨hh.1,hh.2.1,q⟩) (fun q=>h2 ⟨hh.1,hh.2.1,q⟩))]
    rw[e1,e2,<-ih2];by_cases hc:c=37
    ·refine RA (fun z hz=>?_);rcases zb hz with h3 | h3
     ·have ha:a=50:=h3.symm;rw[ha,tP (by decide)]at hz;injection hz with _ hz
      rcases zb hz with h4 | h4
      ·exact h2 ⟨hc,ha,h4.symm⟩
      ·cases h4
     ·cases h3
    ·exact tP hc _
theorem xc(e:Int):∀(n:Nat) (x:List Int),x.length<=n->(rp e x).length<=x.length
 | n,[],_=>le_refl _
 | n,[a],_=>le_refl _
 | n,[a,b],_=>le_refl _
 | 0,c::a::b::t,h=>by simp at h
 | n+1,c::a::b::t,h=>by
  have ih1:=xc e n t (by simp at h;omega);have ih2:=xc e n (a::b::t) (by simp at h ⊢;omega);show(if c=37/\a=50/\b=e then 46::rp e t else c::rp e (a::b::t)).length<=_;split
  ·simp only[length_cons];omega
  ·simp only[length_cons]at ih2 ⊢;omega
theorem SH:Builder.Extra prog Tryz.laysRep_ren where
 sizeBuilder:=by kernel_rfl
 liesBuilder:=by kernel_rfl
 t5:=by kernel_rfl
 a5:=fun w=>by kernel_rfl
 z5:=fun w=>by kernel_rfl
 v5:=fun w=>by kernel_rfl
 infoByte:=by kernel_rfl
 cellsByte:=by kernel_rfl
 sizeByte:=by kernel_rfl
 neB5:=by decide
theorem tR(s:ByteArray)(e:UInt8)(hs:s.size<=400000000)(w:World)(hM:F.Max w):Calls prog 141 #[.string s,.string ⟨#[37,50,e]⟩,.string ⟨#[46]⟩] w fun r W'=>(∃ t,r=.returned (.string t)/\bn t=rp (e.toNat:Int) (bn s))/\Below w.heap.size w W':=by
 obtain⟨m,hm⟩:=hM;have hf:Tryz.laysRep_ren.f 155=141:=by kernel_rfl
 have h1:Tryz.laysRep_ren.g 1=3:=by kernel_rfl
 have hc:=Lib.countB_mul_le ⟨#[37,50,e]⟩ (by show 1<=3;decide) s.size s (le_refl _);have h3:(⟨#[37,50,e]⟩:ByteArray).size=3:=rfl;have h4:(⟨#[46]⟩:ByteArray).size=1:=rfl;rw[h3]at hc;have h:=Any.strings_ReplaceAll Tryz.laysRep SH s ⟨#[37,50,e]⟩ ⟨#[46]⟩ m w (by omega) (by rw[h1];exact hm) (by show 1<=3;decide) (by rw[h4];omega);rw[hf]at h;refine h.mono ?_;rintro r W' ⟨rfl,hB⟩;refine⟨⟨_,rfl,?_⟩,hB⟩;have he:Lib.replaceAll s.data.toList [37,50,e] [46]=rb e s.data.toList:=by unfold Lib.replaceAll Lib.replace Lib.replaceNum;rw[if_neg (by simp),if_pos (.inl (by decide))];exact rO e _ _ (le_refl _)
 show(Lib.replaceAll s.data.toList [37,50,e] [46]).map (fun c:UInt8=>(c.toNat:Int))=_;rw[he,Eu e _ _ (le_refl _)];rfl
end Y
namespace H
set_option linter.unusedSimpArgs false
theorem HP.nlen{A:List Int->List Int->Int->Prop}(hA:Asc A){s:List Int}{sp:Bool}{h:Hst}(hb:U.Bytes s)(x:HP A s sp h):h.2.1.length<=400000000:=by
 unfold HP at x;split at x
 ·rw[x];unfold non;simp
 rename_i hl;split at x
 ·unfold six at x;split at x
  ·cases hp:X.prs ((s.drop 1).dropLast) with
   | none=>rw[hp]at x;rw[x];unfold non;simp
   | some a=>rw[hp]at x;rw[x];simp
  ·rw[x];unfold non;simp
 split at x
 ·unfold opq at x;split at x
  ·rw[x];unfold non;simp
  split at x
  ·rw[x];unfold non;simp
  ·rw[x];have h1:=E.yd 0 (U.dec s);have h2:=U.dv s.length s (le_refl _) hb;show(E.en 0 (U.dec s)).length<=_;omega
 ·obtain⟨d,r,h1,rfl⟩:=x;unfold dom;split
  ·unfold non;simp
  rename_i hn;split
  ·split
   ·simp
   ·unfold non;simp
  ·have hr:r=0:=Decidable.byContradiction fun e=>hn (.inl e);rw[hr]at h1;have h2:=E.sK s.length s (le_refl _);have h3:=hA.len h1 (E.kQ s.length s (le_refl _) hb) (by omega);show d.length<=_;omega
open F (bn)
structure CJ(h:Hst):Prop where
 k:h.1<=4
 f:h.2.2.1<4294967296
 a:h.2.2.2.1.length=8
 s:X.Small h.2.2.2.1
 e:h.2.2.2.2≠0->h=non h.2.2.2.2
 b:0<=h.2.2.2.2/\h.2.2.2.2<=70
 n:h.2.1=txt h\/h.2.1=[]
theorem eT{e:Int}(h0:0<=e)(h1:e<=70):CJ (non e):=⟨zero_le _,by show 0<4294967296;decide,rfl,kj,fun _=>rfl,⟨h0,h1⟩,.inr rfl⟩
theorem HP.fine{A:List Int->List Int->Int->Prop}{s:List Int}{sp:Bool}{h:Hst}(x:HP A s sp h):CJ h:=by
 unfold HP at x;split at x
 ·rw[x];exact eT (by decide) (by decide)
 split at x
 ·unfold six at x;split at x
  ·cases hp:X.prs ((s.drop 1).dropLast) with
   | none=>rw[hp]at x;rw[x];exact eT (by decide) (by decide)
   | some a =>
    rw[hp]at x;rw[x];exact⟨by simp,by simp,X.rS hp,X.qj hp,fun h=>absurd rfl h,by simp,.inr rfl⟩
  ·rw[x];exact eT (by decide) (by decide)
 split at x
 ·unfold opq at x;split at x
  ·rw[x];exact eT (by decide) (by decide)
  ·split at x
   ·rw[x];exact eT (by decide) (by decide)
   ·rw[x];exact⟨by simp,by simp,rfl,kj,fun h=>absurd rfl h,by simp,.inl rfl⟩
 ·obtain⟨d,r,_,x⟩:=x;unfold dom at x;split at x
  ·rw[x];exact eT (by decide) (by decide)
  ·split at x
   ·split at x
    ·rename_i hp;rw[x];exact⟨by simp,EC d hp,rfl,kj,fun h=>absurd rfl h,by simp,.inr rfl⟩
    ·rw[x];exact eT (by decide) (by decide)
   ·rw[x];exact⟨by simp,by simp,rfl,kj,fun h=>absurd rfl h,by simp,.inl rfl⟩
theorem ay(s:ByteArray):U.Bytes (bn s):=by intro b hb;unfold F.bn at hb;obtain⟨c,_,rfl⟩:=List.mem_map.1 hb;have:=c.toNat_lt;omega
end H
end Go.Proofs.YtlmflmdmolcfhaaGreatDoor
