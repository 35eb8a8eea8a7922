/- Texts one behind the other: KA KJ NCD LB LC. -/
import Derived.Test.YtkekkbciiohbkaaGreatDoorZ19
import Derived.Test.YtkekkbciiohbkaaGreatDoorZ13
import Derived.Test.YtkekkbciiohbkaaGreatDoorZ15
import Derived.Test.YtkekkbciiohbkaaGreatDoorZ7
import Derived.Test.YtkekkbciiohbkaaGreatDoorZ1
import Derived.Lib.Join
import Derived.Ground.NamesProg
import Derived.Shelf.Lay
import Derived.Shelf.Strings.OnBuilder
set_option maxRecDepth 100000
set_option maxHeartbeats 16000000
set_option linter.unusedVariables false
set_option linter.unnecessarySimpa false
namespace Go.Proofs.YtkekkbciiohbkaaGreatDoor.I
open Go.RowKit
theorem Gy(c:Int):1≤(N.fd c).length:=by
 by_cases h:D.dcp c=[]
 ·rw[N.kd h];simp
 ·have:=(N.jx (N.fQ (r:=c) (by simpa using h))).2.2.2.2.2.2
  exact Nat.pos_of_ne_zero (fun e=>this (List.length_eq_zero_iff.1 e))
theorem rJ:∀ l:List Int,l.length≤(l.flatMap N.fd).length
 | []=>by simp
 | c::l=>by
  have h1:=Gy c;have h2:=rJ l;rw[List.flatMap_cons,List.length_append,List.length_cons];omega
theorem pw:∀ l:List Int,2 * l.length≤nus l
 | []=>by simp[nus]
 | c::l=>by
  have:=EH c;have h2:=pw l;rw[mi,List.length_cons];omega
theorem CL(l:List Int)(hB:U.Bytes l):((U.dec l).flatMap mpx).length≤2 * l.length:=by
 have h1:=rJ ((U.dec l).flatMap mpx);have h2:=pw (((U.dec l).flatMap mpx).flatMap N.fd);have h3:=tq l.length l (Nat.le_refl _) hB;omega
theorem lf(l:List Int)(hB:U.Bytes l):(Mp (U.dec l)).length≤2 * l.length:=by
 have h1:=Io l hB;have h2:=pw (Mp (U.dec l));omega
theorem ef:∀ l:List Int,(spl l).length≤l.length+1
 | []=>by simp[spl]
 | c::l=>by
  obtain⟨a,t,h⟩:=bL l;have ih:=ef l;rw[spl];split
  ·rw[List.length_cons,List.length_cons];omega
  ·rw[h]at ih ⊢
   simp only[List.length_cons]at ih ⊢;omega
def Scs(l:List Int):Prop:=∀ c∈l,U.az c=true
theorem jl{l:List Int}:Scs l↔l.all U.az=true:=by unfold Scs;rw[List.all_eq_true]
theorem eN(l:List Int)(hB:U.Bytes l):Scs (U.dec l):=jl.2 (U.gT l.length l (Nat.le_refl _) hB)
theorem xY:∀ x∈D.tab,x.2.2.1=3→D.jI x.1≠0→0≤x.1+D.jI x.1∧(x.2.1+D.jI x.1<55296∨57343<x.1+D.jI x.1)∧x.2.1+D.jI x.1≤1114111:=by decide +kernel
theorem wE:∀ p∈D.kD,∀ c∈p.2,U.az c=true:=by decide +kernel
theorem zv(r:Int)(h:U.az r=true):Scs (mpx r):=by
 intro c hc
 unfold mpx at hc
 split at hc
 ·simp at hc;rw[hc];exact h
 ·unfold D.mp at hc
  split at hc
  ·simp at hc
  ·split at hc
   ·rename_i h3
    unfold D.mpd at hc
    split at hc
    ·rename_i hd
     simp at hc
     rcases D.pG r with e | ⟨hm,h1,h2⟩
     ·rw[e]at h3;exact absurd h3 (by decide)
     ·have:=xY _ hm h3 hd
      rw[hc];unfold U.az;exact decide_eq_true (by omega)
    ·unfold D.inst at hc
     cases hl:D.kD.lookup r with
     | none=>rw[hl]at hc;simp at hc
     | some v =>
      rw[hl]at hc;exact wE _ (D.ez hl) c hc
   ·simp at hc;rw[hc];exact h
theorem wC:∀ k∈N.keys,∀ c∈N.fd k,U.az c=true:=by decide +kernel
theorem Dk(r:Int)(h:U.az r=true):Scs (N.fd r):=by
 by_cases hd:D.dcp r=[]
 ·rw[N.kd hd];intro c hc;simp at hc;rw[hc];exact h
 ·exact wC r (N.fQ (r:=r) (by simpa using hd))
theorem yB:∀ p∈D.prs,U.az p.1=true:=by decide +kernel
theorem Cr{a b q:Int}(h:N.pr a b=(q,true)):U.az q=true:=by
 unfold N.pr D.prf at h
 cases hf:D.prs.find? (fun x=>x.2.1==a&&x.2.2==b) with
 | none=>rw[hf]at h;cases h
 | some p =>
  rw[hf]at h;obtain⟨rfl,_⟩:=Prod.mk.inj h;exact yB p (List.mem_of_find?_eq_some hf)
def Scp(l:List N.Pt):Prop:=∀ p∈l,U.az p.1=true
theorem sA(t:N.TS)(c:N.Pt)(ht:Scp (N.aU t))(hc:U.az c.1=true):Scp (N.aU (N.bD t c)):=by
 rcases N.gx t c with h | ⟨A,s,B,q,ht',hr,hq,h⟩
 ·rw[h,N.qd]
  intro p hp
  rcases List.mem_append.1 hp with hp | hp
  ·exact ht p hp
  ·simp at hp;rw[hp];exact hc
 ·rw[h]
  rw[ht']at ht;intro p hp
  simp only[N.aU]at hp ht;rcases List.mem_append.1 hp with hp | hp
  ·exact ht p (List.mem_append.2 (.inl hp))
  ·rcases List.mem_cons.1 hp with rfl | hp
   ·exact Cr hq
   ·exact ht p (List.mem_append.2 (.inr (List.mem_cons.2 (.inr hp))))
theorem lH:∀(l:List N.Pt) (t:N.TS),Scp (N.aU t)→Scp l→Scp (N.aU (l.foldl N.bD t))
 | [],t,h,_=>h
 | c::l,t,h,hl=>by
  rw[List.foldl_cons];exact lH l _ (sA t c h (hl c (by simp))) (fun p hp=>hl p (by simp[hp]))
theorem zn(l:List Int)(h:Scs l):Scs (N.cK l):=by
 have hp:Scp (N.ord ((l.flatMap N.fd).map N.pt)):=by
  intro p hp
  have hm:=(N.qQ _).mem_iff.1 hp;obtain⟨c,hc,rfl⟩:=List.mem_map.1 hm;obtain⟨r,hr,hcr⟩:=List.mem_flatMap.1 hc;exact Dk r (h r hr) c hcr
 have:=lH _ (none,[]) (fun p hp=>by simp[N.aU]at hp) hp;intro c hc
 unfold N.cK N.comp N.tst at hc
 obtain⟨p,hp,rfl⟩:=List.mem_map.1 hc;exact this p hp
theorem k9(l:List Int)(h:Scs l):Scs (Mp l):=by
 apply zn;intro c hc
 obtain⟨r,hr,hcr⟩:=List.mem_flatMap.1 hc;exact zv r (h r hr) c hcr
theorem ym:∀(l:List Int),Scs l→∀ a∈spl l,Scs a
 | l,h,a,ha=>fun c hc=>by
  have hj:=gL l
  have key:∀(ls:List (List Int)),a∈ls→c∈join ls:=by
   intro ls
   induction ls with
   | nil=>intro h;simp at h
   | cons b t ih =>
    intro hm
    cases t with
    | nil=>simp at hm;rw[←hm];exact hc
    | cons d t =>
     rw[join];rcases List.mem_cons.1 hm with rfl | hm
     ·simp[hc]
     ·have:=ih hm
      simp[this]
  exact h c (by rw[←hj];exact key _ ha)
theorem wX{T:List Int}(hB:U.Bytes T):Scs (P.gu T).1:=by
 unfold P.gu;split
 ·intro c hc;simp at hc
 ·rename_i h1
  split
  ·intro c hc;simp at hc
  ·rename_i h2
   cases hd:P.nt T with
   | none=>intro c hc;simp at hc
   | some m=>exact jl.2 (P.kZ hd (by simpa using h2) hB (by omega)).2.1
theorem zc{l:List Int}(hy:Bool)(h:Scs l):Scs (one l hy).1:=by
 unfold one;split
 ·exact h
 ·split
  ·exact h
  ·rename_i h2
   cases hr:rdx (l.drop 4) with
   | none=>exact h
   | some m =>
    simp only;split
    ·exact h
    ·unfold rdx at hr
     split at hr
     ·cases hr
     ·split at hr
      ·cases hr
      ·rename_i h3 h4
       have hp:=cn.1 (show plain l=true by simpa using h2);have hB:U.Bytes (l.drop 4):=fun c hc=>by have:=hp c (List.mem_of_mem_drop hc);omega
       exact jl.2 (P.kZ hr (by simpa using h4) hB (by omega)).2.1
theorem Cq(X:List Int)(hy:Bool):(prc X hy).map (·.1)=(spl X).map fun y=>(one y hy).1:=by
 unfold prc;split
 ·rw[List.map_map,List.map_map];rfl
 ·rw[List.map_map];rfl
theorem yF{X:List Int}(hy:Bool)(h:Scs X):∀ x∈prc X hy,Scs x.1:=by
 intro x hx
 have hm:x.1∈(prc X hy).map (·.1):=List.mem_map_of_mem hx;rw[Cq]at hm;obtain⟨y,hy',e⟩:=List.mem_map.1 hm;rw[←e];exact zc hy (ym X h y hy')
theorem tZ{c:Int}(h:U.az c=true):0≤c∧c≤1114111:=by
 unfold U.az at h
 have:=of_decide_eq_true h;omega
theorem eM(c:Int)(h:c<128):U.enc c=[c]:=by unfold U.enc;rw[if_pos h]
theorem rT(c:Int)(h:¬ c<128):∃ x y t,U.enc c=x::y::t∧128≤x:=by
 unfold U.enc;rw[if_neg h];split
 ·exact⟨_,_,_,rfl,by omega⟩
 ·split
  ·exact⟨_,_,_,rfl,by omega⟩
  ·exact⟨_,_,_,rfl,by omega⟩
theorem bz(c:Int)(l:List Int):U.aL (c::l)=U.enc c++U.aL l:=by unfold U.aL;rw[List.flatMap_cons]
theorem iw{l:List Int}{a:Int}{t:List Int}(ha:a<128)(h:U.aL l=a::t):∃ l',l=a::l'∧U.aL l'=t:=by
 cases l with
 | nil=>simp[U.aL]at h
 | cons c l =>
  rw[bz]at h;by_cases hc:c<128
  ·rw[eM c hc]at h
   simp at h
   exact⟨l,by rw[h.1],h.2⟩
  ·obtain⟨x,y,u,e,hx⟩:=rT c hc
   rw[e]at h;simp at h
   omega
theorem wR{l:List Int}{a b c d:Int}{t:List Int}(ha:a<128)(hb:b<128)(hc:c<128)(hd:d<128)(h:U.aL l=a::b::c::d::t):∃ l',l=a::b::c::d::l'∧U.aL l'=t:=by
 obtain⟨l1,rfl,h1⟩:=iw ha h;obtain⟨l2,rfl,h2⟩:=iw hb h1;obtain⟨l3,rfl,h3⟩:=iw hc h2;obtain⟨l4,rfl,h4⟩:=iw hd h3;exact⟨l4,rfl,h4⟩
theorem l8(l:List Int):L.dh l=true↔∃ l',l=120::110::45::45::l':=by
 unfold L.dh;rw[decide_eq_true_eq]
 constructor
 ·intro h
  refine⟨l.drop 4,?_⟩;have:=List.take_append_drop 4 l;rw[h]at this;exact this.symm
 ·rintro⟨l',rfl⟩;rfl
theorem nX(l:List Int):L.dh l=true↔∃ t,U.aL l=120::110::45::45::t:=by
 rw[l8]
 constructor
 ·rintro⟨l',rfl⟩
  refine⟨U.aL l',?_⟩;rw[bz,bz,bz,bz];rfl
 ·rintro⟨t,h⟩
  obtain⟨l',e,_⟩:=wR (by omega) (by omega) (by omega) (by omega) h;exact⟨l',e⟩
theorem tg{l:List Int}(h:L.dh l=true):(U.aL l).drop 4=U.aL (l.drop 4):=by
 obtain⟨l',rfl⟩:=(l8 l).1 h;rw[bz,bz,bz,bz];rfl
theorem dk:∀ {l:List Int},(∀ c∈l,c<128)→U.aL l=l
 | [],_=>rfl
 | c::l,h=>by rw[bz,eM c (h c (by simp)),dk (fun x hx=>h x (by simp[hx]))];rfl
theorem sk:∀(l:List Int),Scs l→P.asc (U.aL l)=plain l
 | [],_=>rfl
 | c::l,h=>by
  have ih:=sk l (fun x hx=>h x (by simp[hx]));have hc:=tZ (h c (by simp));rw[bz];have e1:P.asc (U.enc c++U.aL l)=(P.asc (U.enc c)&&P.asc (U.aL l)):=by unfold P.asc;rw[List.all_append]
  have e2:plain (c::l)=((decide (0≤c)&&decide (c<128))&&plain l):=by unfold plain;rw[List.all_cons]
  rw[e1,e2,ih]
  congr 1
  by_cases hk:c<128
  ·rw[eM c hk]
   simp[P.asc,hk,hc.1]
  ·obtain⟨x,y,u,e,hx⟩:=rT c hk
   rw[e];simp[P.asc,hk];omega
theorem qG{l:List Int}(h:L.dh l=true):plain (l.drop 4)=plain l:=by
 obtain⟨l',rfl⟩:=(l8 l).1 h;unfold plain;simp
theorem vT{l:List Int}{hy:Bool}(hs:Scs l)(h:L.dh l=true):
  one l hy=if (P.gu (U.aL (l.drop 4))).2=0∧plain (P.gu (U.aL (l.drop 4))).1=false then ((P.gu (U.aL (l.drop 4))).1,L.flt (P.gu (U.aL (l.drop 4))).1 hy) else (l,512):=by
 have hs4:Scs (l.drop 4):=fun c hc=>hs c (List.mem_of_mem_drop hc)
 have ha:=sk _ hs4;rw[qG h]at ha;unfold one;rw[if_neg (by rw[h];decide)];by_cases hp:plain l=true
 ·have e:U.aL (l.drop 4)=l.drop 4:=dk (fun c hc=>(cn.1 hp c (List.mem_of_mem_drop hc)).2)
  rw[if_neg (by rw[hp];decide),e];obtain⟨D,hD⟩:∃ D,l.drop 4=D:=⟨_,rfl⟩;rw[hD];unfold rdx P.gu;by_cases h63:63<D.length
  ·simp[h63]
  ·by_cases has:P.asc D=false
   ·simp[h63,has]
   ·cases hd:P.nt D with
    | none=>simp[h63,has]
    | some m=>cases hm:plain m <;> simp[h63,has,hm]
 ·have hp':plain l=false:=by simpa using hp
  rw[if_pos hp'];rw[hp']at ha;unfold P.gu;rw[ha];by_cases h63:63<(U.aL (l.drop 4)).length
  ·simp[h63]
  ·simp[h63]
theorem s4(ts:List ByteArray):U.bn ⟨(Lib.join (ts.map (·.data.toList)) [46]).toArray⟩=join (ts.map U.bn):=by
 have key:∀(xs:List (List UInt8)),(Lib.join xs [46]).map (fun c=>(c.toNat:Int))=join (xs.map fun x=>x.map fun c=>(c.toNat:Int)):=by
  intro xs
  induction xs with
  | nil=>rfl
  | cons x r ih =>
   cases r with
   | nil=>rw[Lib.join_one];rfl
   | cons y r =>
    have e:Lib.join (x::y::r) [46]=x++46::Lib.join (y::r) [46]:=by
     rw[Lib.join_cons,Lib.join_cons];simp[Lib.joinTail]
    rw[e,List.map_append,List.map_cons,ih];rfl
 show((Lib.join (ts.map (·.data.toList)) [46]).toArray.toList.map _)=_
 rw[List.toList_toArray,key,List.map_map];rfl
end Go.Proofs.YtkekkbciiohbkaaGreatDoor.I
namespace Go.Proofs
open Go.Shelf Go.RowKit
shelf_lay Lays.n156 Nm 156 at Tryz as Tryz.laysJoin
end Go.Proofs
namespace Go.Proofs.YtkekkbciiohbkaaGreatDoor.I
open Go.RowKit Go.Shelf
theorem H7:Builder.Extra Tryz.prog Tryz.laysJoin_ren where
 sizeBuilder:=by kernel_rfl
 liesBuilder:=by kernel_rfl
 t5:=by kernel_rfl
 a5:=fun w=>by kernel_rfl
 z5:=fun w=>by kernel_rfl
 v5:=fun w=>by kernel_rfl
 infoByte:=by kernel_rfl
 cellsByte:=by kernel_rfl
 sizeByte:=by kernel_rfl
 neB5:=by decide
theorem Gh:Tryz.laysJoin_ren.f 156=70:=by kernel_rfl
theorem gM(bk c n:Nat)(ts:List ByteArray)(hn:ts.length=n)(w:World)(hc:∀ j,j<n→w.cell? ⟨bk,j,none⟩=some (.string (ts[j]?.getD ⟨#[]⟩)))(hp:0<n)(hnc:n≤c)(hN:n≤100000)(hlen:(join (ts.map U.bn)).length≤1000000000):
  Calls Tryz.prog 70 #[.slice (some ⟨bk,0,none⟩) n c,.string ⟨#[46]⟩] w fun e W'=>(∃ t,e=.returned (.string t)∧U.bn t=join (ts.map U.bn))∧Below w.heap.size w W':=by
 subst hn;have hb:=s4 ts
 have h:=Any.strings_Join Tryz.laysJoin H7 bk 0 c ts ⟨#[46]⟩ w (fun j x hj=>by
   have hjl:=(List.getElem?_eq_some_iff.1 hj).1
   have:=hc j hjl
   rw[hj]at this
   rw[Nat.zero_add];exact this) (U.lt_of_cell (a:=⟨bk,0,none⟩) (hc 0 hp)) (by omega) hnc (by
     have h1:=congrArg List.length hb
     rw[U.aa]at h1
     have h2:(⟨(Lib.join (ts.map (·.data.toList)) [46]).toArray⟩:ByteArray).size=(Lib.join (ts.map (·.data.toList)) [46]).length:=by simp[ByteArray.size]
     rw[h2]at h1
     show(Lib.join (ts.map (·.data.toList)) [46]).length≤_
     omega)
 rw[Gh]at h;refine h.mono ?_;rintro e W' ⟨rfl,hB⟩
 exact⟨⟨_,rfl,hb⟩,hB⟩
end Go.Proofs.YtkekkbciiohbkaaGreatDoor.I
namespace Go.Proofs.YtkekkbciiohbkaaGreatDoor.N
open Go.RowKit
theorem sx{W:World}{v:Value}{zs:List Int}(h:bA W v zs):U.au W v zs:=by
 obtain⟨a,cap,rfl,hf⟩:=h;by_cases h0:zs.length=0
 ·exact .inl ⟨List.length_eq_zero_iff.1 h0,a,cap,by rw[h0]⟩
 ·obtain⟨b,off,cur,rfl,hg,hc⟩:=hf (by omega)
  exact .inr ⟨by omega,b,off,cap,rfl,fun j hj=>by simp[World.cell?,hg,hc j hj]⟩
theorem bA.new(W:World)(zs:List Int)(n cap:Nat)(hn:n=zs.length):bA (W.alloc (.cells (zs.map (Value.int .i32)).toArray 21)) (.slice (some ⟨W.heap.size,0,none⟩) n cap) zs:=by
 subst hn;refine⟨_,cap,rfl,fun _=>⟨W.heap.size,0,_,rfl,heap_alloc_last W _,fun j hj=>?_⟩⟩;simp[List.getElem?_eq_getElem hj]
theorem w1:cK [115,775,803]=[7785]:=by kernel_rfl
theorem w2:zm [7785]=[115,803,775]:=by kernel_rfl
theorem w3:Iv [97,769,807]=[97,807,769]:=by kernel_rfl
theorem w4:(decide (cK [65,778]=[65,778]))=false:=by kernel_rfl
theorem w5:cK (U.dec (U.bn ⟨#[65,204,138]⟩))=[197]:=by kernel_rfl
end Go.Proofs.YtkekkbciiohbkaaGreatDoor.N
namespace Go.Proofs.YtkekkbciiohbkaaGreatDoor.L
open Go.RowKit
theorem aF{w:World}{v:Value}{L:List Int}(h:U.au w v L):∃ a c,v=.slice a L.length c∧(0<L.length→∃ b off,a=some ⟨b,off,none⟩∧∀ j,j<L.length→w.cell? ⟨b,off+j,none⟩=some (.int .i32 (L[j]?.getD 0))):=by
 rcases h with⟨rfl,x,c,rfl⟩ | ⟨hp,b,off,c,rfl,h⟩
 ·exact⟨x,c,rfl,fun h=>by simp at h⟩
 ·exact⟨_,c,rfl,fun _=>⟨b,off,rfl,h⟩⟩
theorem dS{w wr:World}{a:Option Addr}{n:Nat}{L:List Int}(hf:0<n→∃ b off,a=some ⟨b,off,none⟩∧∀ j,j<n→w.cell? ⟨b,off+j,none⟩=some (.int .i32 (L[j]?.getD 0)))(hB:Below w.heap.size w wr)(k:Nat)(hk:k<n):
  ∃ b off,a=some ⟨b,off,none⟩∧wr.cell? ⟨b,off+k,none⟩=some (.int .i32 (L[k]?.getD 0)):=by
 obtain⟨b,off,e,hc⟩:=hf (by omega);exact⟨b,off,e,(hB.cell (p:=⟨b,off+k,none⟩) (U.lt_of_cell (hc k hk))).trans (hc k hk)⟩
theorem take_one(L:List Int)(k:Nat)(h:k<L.length):L.take (k+1)=L.take k++[L[k]?.getD 0]:=by
 rw[List.take_succ_eq_append_getElem h,List.getElem?_eq_getElem h];rfl
theorem BU(r:Int):IntKind.wrap .u16 (2 ^ (bid r).toNat)=(dir r:Int):=by
 have h:=mR r;have e:((dir r:Nat):Int)=2 ^ (bid r).toNat:=by unfold dir;push_cast;rfl
 rw[←e];rw[IntKind.wrap_u16];omega
theorem fe(r:Int)(w:World):
  Calls Tryz.prog 215 #[.int .i32 r] w fun e W'=>e=.returned (.int .u16 (dir r))∧Below w.heap.size w W':=by
 have hb:=mX r;have HD:=hid (BU r);have hc:Calls Tryz.prog 278 #[.int .i32 r] w fun e W'=>e=.returned (.int .u8 (bid r))∧Below w.heap.size w W':=D.mW r w
 have HC:=hid hc;obtain⟨b,hbb⟩:∃ b,bid r=b:=⟨_,rfl⟩;rw[hbb]at HC HD hb;clear hc hbb;go_enter Tryz.func215,Tryz.ntmps215
 go_wp2_with fail;refine HC.out.mono ?_;rintro e w1 ⟨rfl,B1⟩
 go_wp2;go_ret;exact⟨by rw[←HD.out];rfl,B1⟩
theorem gS(v:Value)(L:List Int)(w:World)(hlen:L.length≤100000)(hv:U.au w v L):
  Calls Tryz.prog 161 #[v] w fun e W'=>e=.returned (.int .u16 (fY L))∧Below w.heap.size w W':=by
 obtain⟨a,c,rfl,hf⟩:=aF hv;have HF:=hid hf;obtain⟨n,hn⟩:∃ n,L.length=n:=⟨_,rfl⟩;rw[hn]at hlen HF ⊢;have HN:=hid hn;clear hv hf hn;go_enter Tryz.func161,Tryz.ntmps161
 go_wp2_with fail
 go_loopw [3,8] (fun v3 v8 wr=>∃ k:Nat,k≤n∧v3=.int .u16 (fY (L.take k))∧v8=.int .i64 k∧Hid (Below w.heap.size w wr)) (fun _ v8 _=>n - (intOf v8).toNat)
 case atStart=>exact⟨0,Nat.zero_le _,rfl,rfl,Below.refl _ _⟩
 case round =>
  obtain⟨k,hk,rfl,rfl,HB⟩:=hrel;by_cases hlt:k<n
  ·obtain⟨b,off,rfl,hck⟩:=dS HF.out HB.out k hlt
   have HT:=hid (take_one L k (by rw[HN.out];exact hlt));obtain⟨x,hx⟩:∃ x,L[k]?.getD 0=x:=⟨_,rfl⟩;rw[hx]at hck HT;clear hx;have HX:=hid (u16_or_nat (fY (L.take k)) (dir x) (by have:=jJ (L.take k);omega) (by have:=mR x;omega));have HY:=hid (wV (L.take k) x);obtain⟨D,hD⟩:∃ D,fY (L.take k)=D:=⟨_,rfl⟩;rw[hD]at HX HY;rw[hD];have HDD:=hid (fe x wr);obtain⟨E,hE⟩:∃ E,dir x=E:=⟨_,rfl⟩;rw[hE]at HX HY HDD;clear hD hE
   go_wp2_with(go_at_call 215;refine HDD.out.mono ?_;rintro e w1 ⟨rfl,B1⟩)
   go_roundw
   case rel=>exact⟨k+1,by omega,by rw[HT.out,HY.out,HX.out],by go_num,HB.out.trans (B1.mono HB.out.size)⟩
   case measure=>simp[intOf];omega
  ·have e:L.take k=L:=List.take_of_length_le (by rw[HN.out];omega)
   rw[e];clear e;go_wp2;go_ret;exact⟨rfl,HB.out⟩
theorem vJ(v:Value)(L:List Int)(w:World)(hlen:L.length≤100000)(hv:U.au w v L):
  Calls Tryz.prog 111 #[v] w fun e W'=>e=.returned (.bool (kE L))∧Below w.heap.size w W':=by
 have HD:=hid (gS v L w hlen hv)
 have HR:Hid ((bits .and .u16 (fY L:Int) 140 != 0)=kE L):=by
  show _=_
  rw[GV ⟨fY L,jJ L⟩];simp only[rV];rfl
 obtain⟨a,c,rfl,-⟩:=aF hv;obtain⟨X,hX⟩:∃ X,fY L=X:=⟨_,rfl⟩;rw[hX]at HD HR;obtain⟨n,hn⟩:∃ n,L.length=n:=⟨_,rfl⟩;rw[hn]at HD ⊢;clear hX hv hn;go_enter Tryz.func111,Tryz.ntmps111
 go_wp2_with fail;refine HD.out.mono ?_;rintro e w1 ⟨rfl,B1⟩
 go_wp2;go_ret;exact⟨by rw[←HR.out];rfl,B1⟩
open Go.RowKit Go.Shelf
attribute [local go_sem] Oper.semAt_some
abbrev Aj(x:Int):Array Value:=#[.int .i32 x]
structure Frm(Bi Bs Bl:Nat)(i st:Int)(v:Value)(W:World):Prop where
 i:Boxed W Bi 3 (.int .i64 i)
 s:Boxed W Bs 3 (.int .i64 st)
 l:Boxed W Bl 58 v
def Old(w W:World):Prop:=∀ b,b<w.heap.size→W.heap[b]? = w.heap[b]?
theorem Old.below{w W:World}(h:Below w.heap.size w W):Old w W:=fun b hb=>h.block b hb
theorem Old.ints{w W:World}{v:Value}{L:List Int}(h:Old w W)(hI:U.au w v L):U.au W v L:=by
 rcases hI with hI | ⟨hp,b,off,c,rfl,hc⟩
 ·exact .inl hI
 ·refine .inr ⟨hp,b,off,c,rfl,fun j hj=>?_⟩
  have h1:=hc j hj;have h2:=h b (U.lt_of_cell (a:=⟨b,off+j,none⟩) h1);rw[←h1];simp[World.cell?,h2]
def ki(w:World)(Bi Bs Bl:Nat)(i st:Int)(v:Value)(W W':World):Prop:=Frm Bi Bs Bl i st v W∧Old w W→Frm Bi Bs Bl i st v W'∧Old w W'
theorem Dg(w0:World)(n:Nat)(hn:1≤n)(l Bi Bs Bl:Nat)(i st:Int)(v:Value)(L:List Int)(hst:st=1∨st=-1)(hi0:0≤i)(hi1:i+st≤L.length)(hi2:i≤L.length)(hlen:L.length≤100000)(J Jx:List Int→World→Prop)
  (hY:∀ pre x W,J pre W→pre.length<L.length+1→YieldAt Fence.wide (n - 1) Tryz.prog l #[.int .i32 x] W fun e W' =>
    (e=.returned (.bool true)∧J (pre++[x]) W'∧ki w0 Bi Bs Bl i st v W W')∨(e=.returned (.bool false)∧Jx (pre++[x]) W'))
  (W:World) (hF:Frm Bi Bs Bl i st v W) (hI0:U.au w0 v L) (hI:Old w0 W) (h0:J [] W) :
  CallsIn Fence.wide n Tryz.prog 305 #[.func (.yield l) #[] #[],.pointer (some ⟨Bi,0,none⟩),.pointer (some ⟨Bs,0,none⟩),.pointer (some ⟨Bl,0,none⟩)] W fun e W'=>(∃ v,e=.returned v) ∧
   ((∃ ys,ys=rem L st (i+st)∧J ys W')∨(∃ pre,pre <+: rem L st (i+st)∧Jx pre W')):=by
 have hci:=hF.i.cell;have hcs:=hF.s.cell;have hcl:=hF.l.cell;refine callsIn_of_wp Tryz.func305 rfl trivial ?_ rfl;simp only[Tryz.ntmps305,List.size_toArray,List.length_cons,List.length_nil,Nat.reduceAdd,Nat.reduceSub,Array.replicate_succ,Array.replicate_zero,List.push_toArray,List.append_toArray,List.nil_append,List.cons_append];have hb1:-1≤st:=by omega
 have hb2:st≤1:=by omega
 have hw:i+st≤100000:=by omega
 gi_wp2_with fail
 gi_loopw [5] (fun v5 wr=>∃(a:Int) (pre:List Int),-1≤a∧a≤L.length∧(st=1→0≤a)∧(st=-1→a<L.length)∧v5=.int .i64 a∧(Frm Bi Bs Bl i st v wr∧Old w0 wr)∧J pre wr∧Hid (pre.length+(rem L st a).length≤L.length)∧Hid (rem L st (i+st)=pre++rem L st a))
  (fun v5 _=>(rem L st (intOf v5)).length)
 case atStart =>
  exact⟨i+st,[],by omega,hi1,by omega,by omega,by first | rfl | go_num,⟨hF,hI⟩,h0,by
    show _≤_
    unfold rem
    split
    · simp
    · simp;omega,by show _=_;simp⟩
 case round =>
  obtain⟨a,pre,ha0,ha1,ha2,ha3,rfl,⟨hFr,hIr⟩,hJ,HPL,HE⟩:=hrel;have hcs:=hFr.s.cell;have hcl:=hFr.l.cell;obtain⟨va,vc,rfl,hf⟩:=aF (hIr.ints hI0);by_cases hin:0≤a∧a<L.length
  ·obtain⟨k,rfl⟩:∃ k:Nat,a=k:=⟨a.toNat,by omega⟩
   have hk:k<L.length:=by omega
   obtain⟨b,off,rfl,hc⟩:=hf (by omega);have hck:=hc k hk;have HR:=hid (Fi L st k hst hin.1 hin.2);rw[Int.toNat_natCast]at HR;obtain⟨x,hx⟩:∃ x,L[k]?.getD 0=x:=⟨_,rfl⟩;rw[hx]at hck HR
   have hpl:pre.length<L.length+1:=by
    have:=HPL.out;omega
   have hyy:=hY pre x wr hJ hpl;obtain⟨fn,tmps,assign,body,hy,hR⟩:=hyy;have hk2:(k:Int)<(L.length:Int):=by omega
   have hk3:(0:Int)≤(k:Int):=by omega
   clear hx hf hc hin
   gi_wp2
   refine hR.mono ?_;rintro e W3 (⟨rfl,hJ3,hk3'⟩ | ⟨rfl,hJx3⟩)
   ·obtain⟨hF3,hI3⟩:=hk3' ⟨hFr,hIr⟩
    have hcs3:=hF3.s.cell
    gi_wp2
    go_roundw
    case rel =>
     refine⟨(k:Int)+st,pre++[x],by omega,by omega,by omega,by omega,by first | rfl | go_num,⟨hF3,hI3⟩,hJ3,?_,?_⟩
     ·show _≤_
      have h1:=HPL.out;rw[HR.out,List.length_cons]at h1;rw[List.length_append,List.length_cons,List.length_nil];omega
     ·show _=_
      rw[HE.out,HR.out];simp
    case measure =>
     simp only[intOf];rw[HR.out,List.length_cons]
     first | omega | (simp;done) | skip
   ·gi_wp2
    refine bodyPost_ret (results_none rfl _ _ _) rfl ?_;exact⟨⟨_,rfl⟩,.inr ⟨pre++[x],⟨rem L st ((k:Int)+st),by rw[HE.out,HR.out];simp⟩,hJx3⟩⟩
  ·have HO:Hid (rem L st a=[]):=Ca L st a (by
     rcases hst with h | h
     · have:=ha2 h
       exact .inl ⟨h,by omega⟩
     · by_cases h2:a<0
       · exact .inr ⟨h,h2⟩
       · exact absurd ⟨by omega,ha3 h⟩ hin)
   have HJ:Hid (J (rem L st (i+st)) wr):=by show J _ _;rw[HE.out,HO.out,List.append_nil];exact hJ
   by_cases h2:0≤a
   ·have h3:¬ a<(L.length:Int):=by omega
    clear hin
    gi_wp2
    go_end0
    exact⟨⟨_,rfl⟩,.inl HJ.out⟩
   ·clear hin
    gi_wp2
    go_end0
    exact⟨⟨_,rfl⟩,.inl HJ.out⟩
theorem og(n:Nat)(v:Value)(i st:Int)(w:World)(hv:∃ a m c,v=.slice a m c):
  CallsIn Fence.wide n Tryz.prog 279 #[v,.int .i64 i,.int .i64 st] w fun e w'=>e=.returned (.func (.func 305) #[] #[.pointer (some ⟨w.heap.size+1,0,none⟩),.pointer (some ⟨w.heap.size+2,0,none⟩),.pointer (some ⟨w.heap.size,0,none⟩)]) ∧
   w'=((w.alloc (.cells #[v] 58)).alloc (.cells #[.int .i64 i] 3)).alloc (.cells #[.int .i64 st] 3):=by
 obtain⟨a,m,c,rfl⟩:=hv;refine callsIn_of_wp Tryz.func279 rfl trivial ?_ rfl;simp only[Tryz.ntmps279,List.size_toArray,List.length_cons,List.length_nil,Nat.reduceAdd,Nat.reduceSub,Array.replicate_succ,Array.replicate_zero,List.push_toArray,List.append_toArray,List.nil_append,List.cons_append]
 gi_wp2
 go_ret;exact⟨rfl,rfl⟩
theorem Frm.new(w:World)(v:Value)(i st:Int):Frm (w.heap.size+1) (w.heap.size+2) w.heap.size i st v (((w.alloc (.cells #[v] 58)).alloc (.cells #[.int .i64 i] 3)).alloc (.cells #[.int .i64 st] 3)):=by
 have b1:=Boxed.new w 58 v;have b2:=Boxed.new (w.alloc (.cells #[v] 58)) 3 (.int .i64 i);have b3:=Boxed.new ((w.alloc (.cells #[v] 58)).alloc (.cells #[.int .i64 i] 3)) 3 (.int .i64 st);simp only[World.size_alloc]at b2 b3;exact⟨b2.alloc _,b3,(b1.alloc _).alloc _⟩
theorem mK(w0:World)(n:Nat)(hn:1≤n)(Bi Bs Bl:Nat)(i st:Int)(v:Value)(L:List Int)(hst:st=1∨st=-1)(hi0:0≤i)(hi1:i+st≤L.length)(hi2:i≤L.length)(hlen:L.length≤100000)(w:World)(hF:Frm Bi Bs Bl i st v w)(hI0:U.au w0 v L)(hI:Old w0 w)(hw:w0.heap.size≤w.heap.size):
  SeqStopsK Fence.wide n Tryz.prog 305 #[.pointer (some ⟨Bi,0,none⟩),.pointer (some ⟨Bs,0,none⟩),.pointer (some ⟨Bl,0,none⟩)] Aj (ki w0 Bi Bs Bl i st v) (fun ys=>ys=rem L st (i+st)) (fun pre=>pre <+: rem L st (i+st)) (L.length+1) w:=fun l J Jx W hW hJ _ hY h0 =>
 Dg w0 n hn l Bi Bs Bl i st v L hst hi0 hi1 hi2 hlen J Jx hY W ⟨(hW.block Bi hF.i.lt).trans hF.i,(hW.block Bs hF.s.lt).trans hF.s,(hW.block Bl hF.l.lt).trans hF.l⟩ hI0 (fun b hb=>(hW.block b (by omega)).trans (hI b hb)) h0
theorem rl{w0:World}{Bi Bs Bl:Nat}{i st:Int}{v:Value}{A B C:World}(h:ki w0 Bi Bs Bl i st v A B)(k:ki w0 Bi Bs Bl i st v B C):ki w0 Bi Bs Bl i st v A C:=fun x=>k (h x)
theorem rm{w0:World}{Bi Bs Bl:Nat}{i st:Int}{v:Value}{w:World}(h1:Bi<w.heap.size)(h2:Bs<w.heap.size)(h3:Bl<w.heap.size)(h4:w0.heap.size≤w.heap.size)(W:World)(l:Nat)(o o':Obj)(hl:w.heap.size≤l)(_:W.heap[l]? = some o)(_:o.isCells=false)(_:o.isWalk=false):ki w0 Bi Bs Bl i st v W (W.putObj l o') :=
 fun x=>⟨⟨(World.putObj_heap_other (by omega)).trans x.1.i,(World.putObj_heap_other (by omega)).trans x.1.s,(World.putObj_heap_other (by omega)).trans x.1.l⟩,fun b hb=>(World.putObj_heap_other (by omega)).trans (x.2 b hb)⟩
theorem uK{β:Type}(Bi Bs Bl:Nat)(i st:Int)(v:Value):Own (fun(_:β) W=>Frm Bi Bs Bl i st v W):=fun s X Y row hs hg hr =>
 ⟨boxed_own Bi 3 (fun _=>.int .i64 i) s X Y row hs.i hg hr,boxed_own Bs 3 (fun _=>.int .i64 st) s X Y row hs.s hg hr,boxed_own Bl 58 (fun _=>v) s X Y row hs.l hg hr⟩
theorem bJ{W W':World}(h:Below W.heap.size W W'):KeepsOthers W W':=⟨h.size,fun k o hk _=>(h.block k (Array.getElem?_eq_some_iff.1 hk).1).trans hk⟩
theorem iv{Bi Bs Bl:Nat}{i st:Int}{v:Value}{W W':World}(h:Below W.heap.size W W')(hF:Frm Bi Bs Bl i st v W):Frm Bi Bs Bl i st v W' :=
 ⟨(h.block Bi hF.i.lt).trans hF.i,(h.block Bs hF.s.lt).trans hF.s,(h.block Bl hF.l.lt).trans hF.l⟩
end Go.Proofs.YtkekkbciiohbkaaGreatDoor.L
