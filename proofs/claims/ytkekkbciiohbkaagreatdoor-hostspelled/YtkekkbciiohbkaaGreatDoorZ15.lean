/- Texts one behind the other: PPB PAA UH PBA. -/
import Derived.Test.YtkekkbciiohbkaaGreatDoorZ14
import Derived.Test.YtkekkbciiohbkaaGreatDoorZ1
import Derived.Test.YtkekkbciiohbkaaGreatDoorZ2
import Derived.OpenShut
set_option maxRecDepth 100000
set_option maxHeartbeats 16000000
set_option linter.unusedVariables false
set_option linter.unnecessarySimpa false
namespace Go.Proofs.YtkekkbciiohbkaaGreatDoor.P
open U
def rd:Nat→St→Nat→List Int→Option (List Int)
 | _,s,_,[]=>some s.pts
 | 0,_,_,_::_=>none
 | f+1,s,b,c::cs=>match rn b 36 s.i 1 (c::cs) with
  | none=>none
  | some (j,rest)=>if az (s.step (j - s.i)).n=true then rd f (s.step (j - s.i)) (adapt (j - s.i) (s.pts.length+1) (s.i==0)) rest else none
def RD(s:St)(b:Nat)(cs:List Int):Option (List Int):=rd cs.length s b cs
theorem ui:∀(f g:Nat) (s:St) (b:Nat) (cs:List Int),cs.length≤f→cs.length≤g→rd f s b cs=rd g s b cs
 | f,g,s,b,[],_,_=>by cases f <;> cases g <;> rfl
 | 0,_,_,_,c::cs,h,_=>by simp at h
 | f+1,0,_,_,c::cs,_,h=>by simp at h
 | f+1,g+1,s,b,c::cs,hf,hg=>by
  rw[rd,rd];cases hr:rn b 36 s.i 1 (c::cs) with
  | none=>rfl
  | some p =>
   obtain⟨j,rest⟩:=p;have:=(lX b _ _ _ _ _ _ hr).2.1;simp only[List.length_cons]at this hf hg;simp only;rw[ui f g _ _ rest (by omega) (by omega)]
theorem G1(s:St)(b:Nat):RD s b []=some s.pts:=rfl
theorem u7(s:St)(b:Nat)(cs:List Int)(hne:cs≠[])(h:rn b 36 s.i 1 cs=none):RD s b cs=none:=by
 cases cs with
 | nil=>exact absurd rfl hne
 | cons c cs=>rw[RD,List.length_cons,rd,h]
theorem Bc(s:St)(b:Nat)(cs:List Int)(j:Nat)(rest:List Int)(h:rn b 36 s.i 1 cs=some (j,rest))(hb:az (s.step (j - s.i)).n=false):RD s b cs=none:=by
 cases cs with
 | nil=>simp[rn]at h
 | cons c cs=>rw[RD,List.length_cons,rd,h];simp[hb]
theorem qf(s:St)(b:Nat)(cs:List Int)(j:Nat)(rest:List Int)(h:rn b 36 s.i 1 cs=some (j,rest))(hb:az (s.step (j - s.i)).n=true):
  RD s b cs=RD (s.step (j - s.i)) (adapt (j - s.i) (s.pts.length+1) (s.i==0)) rest:=by
 have hl:=(lX b _ _ _ _ _ _ h).2.1;cases cs with
 | nil=>simp[rn]at h
 | cons c cs =>
  rw[RD,List.length_cons,rd,h];simp only[hb,if_true,RD];simp only[List.length_cons]at hl;exact ui _ _ _ _ _ (by omega) (Nat.le_refl _)
theorem sg(pl:List Int)(ds:List Nat)(d:Nat):adapt d ((run pl ds).pts.length+1) ((run pl ds).i==0)=bia pl.length (d::ds):=by
 rw[bia,dv,Hg]
theorem kQ{n:Int}(h:az n=true):0≤n∧n≤1114111:=by
 unfold az at h;simp at h;omega
theorem ER(pl:List Int)(hpl:∀ x∈pl,x<128)(rest:List Int):∀ ds:List Nat,(∀ x∈(run pl ds).pts,az x=true)→pl.length+ds.length≤63→∀ rest:List Int,
  RD (run pl []) (bia pl.length []) (tx pl.length ds++rest)=RD (run pl ds) (bia pl.length ds) rest
 | [],_,_,rest=>rfl
 | d::ds,hs,hl,rest=>by
  have hm:=ji (run pl ds) d;rw[tx,List.append_assoc,ER pl hpl rest ds (fun x hx=>hs x ((hm x).mpr (.inr hx))) (by simp at hl;omega)];have hn:=hs _ ((hm _).mpr (.inl rfl));have hb:=kQ hn;have h128:=ub pl ds;have hi:=(jD pl hpl ds).le;have hL:=dv pl ds;have hdm:=Nat.div_add_mod ((run pl ds).i+d) ((run pl ds).pts.length+1);have hlt:=Nat.mod_lt ((run pl ds).i+d) (show 0<(run pl ds).pts.length+1 by omega);have hnn:(run pl ds).n+((((run pl ds).i+d) / ((run pl ds).pts.length+1):Nat):Int)≤1114111:=hb.2;have hq:((run pl ds).i+d) / ((run pl ds).pts.length+1)≤1113983:=by omega
  have hprod:((run pl ds).pts.length+1) * (((run pl ds).i+d) / ((run pl ds).pts.length+1))≤63 * 1113983:=Nat.mul_le_mul (by simp at hl;omega) hq;simp only[List.length_cons]at hl;have hd:(run pl ds).i+d≤70180929+64:=by omega
  have hrn:=Hh (bia pl.length ds) rest d 36 (run pl ds).i 1 (Nat.le_refl _) (by omega) (by omega) (fun _=>⟨0,rfl,rfl⟩);rw[Nat.mul_one]at hrn;have e:(run pl ds).i+d - (run pl ds).i=d:=by omega
  rw[qf _ _ _ _ _ hrn (by rw[e];exact hn),e,sg];rfl
theorem yq{x:Int}(h0:0≤x)(h:x<128):az x=true:=by unfold az;simp;omega
theorem u0(pl:List Int)(hpl:∀ x∈pl,0≤x∧x<128):∀(f:Nat) (cs:List Int) (ds:List Nat) (pts:List Int),cs.length≤f→(∀ x∈(run pl ds).pts,az x=true) →
  RD (run pl ds) (bia pl.length ds) cs=some pts→∃ es,(run pl es).pts=pts∧tx pl.length es=tx pl.length ds++cs.map low∧∀ x∈pts,az x=true
 | f,[],ds,pts,_,hs,h=>by
  obtain rfl:=Option.some.inj h;exact⟨ds,rfl,by simp,hs⟩
 | 0,c::cs,_,_,hf,_,_=>by simp at hf
 | f+1,c::cs,ds,pts,hf,hs,h=>by
  cases hr:rn (bia pl.length ds) 36 (run pl ds).i 1 (c::cs) with
  | none=>rw[u7 _ _ _ (by simp) hr]at h;cases h
  | some p =>
   obtain⟨j,rest⟩:=p;obtain⟨h1,h2,⟨q,h3,h4⟩,_⟩:=lX _ _ _ _ _ _ _ hr;have e:j - (run pl ds).i=q:=by omega
   by_cases hb:az ((run pl ds).step (j - (run pl ds).i)).n=true
   ·rw[qf _ _ _ _ _ hr hb,e,sg]at h
    rw[e]at hb
    obtain⟨es,a1,a2,a3⟩:=u0 pl hpl f rest (q::ds) pts (by simp only[List.length_cons]at h2 hf;omega) (fun x hx=>by
      rcases(ji _ _ _).mp hx with rfl | hx
      · exact hb
      · exact hs x hx) h
    exact⟨es,a1,by rw[a2,h4,tx,List.append_assoc],a3⟩
   ·rw[Bc _ _ _ _ _ hr (by simpa using hb)]at h;cases h
def plain(l:List Int):List Int:=l.filter fun x=>decide (x<128)
def hd(p:List Int):List Int:=if p.length=0 then [] else p++[45]
def had(l:List Int)(n:Int)(j:Nat):List Int:=(l.take j).filter (fun x=>decide (x≤n))++(l.drop j).filter (fun x=>decide (x<n))
def cnt(l:List Int)(n:Int)(j:Nat):Nat:=((l.take j).filter fun x=>decide (x≤n)).length
structure EI(l:List Int)(n:Int)(j:Nat)(dl:Nat)(ds:List Nat):Prop where
 pts:(run (plain l) ds).pts=had l n j
 le:(run (plain l) ds).n≤n
 eq:(dl:Int)+(run (plain l) ds).n * ((had l n j).length+1)+(run (plain l) ds).i=n * ((had l n j).length+1)+cnt l n j
theorem ma(l:List Int):∀ x∈plain l,x<128:=fun x hx=>by simpa using(List.mem_filter.mp hx).2
theorem EI.start(l:List Int):EI l 128 0 0 []:=by
 have:had l 128 0=plain l:=by simp[had,plain]
 exact⟨this.symm,by simp[run],by simp[run,cnt]⟩
theorem EI.len{l:List Int}{n:Int}{j dl:Nat}{ds:List Nat}(h:EI l n j dl ds):(had l n j).length=(plain l).length+ds.length:=by
 rw[←h.pts,dv]
theorem bQ(l:List Int)(j:Nat)(hj:j<l.length):l.take (j+1)=l.take j++[l[j]?.getD 0]:=by
 rw[List.take_add_one,List.getElem?_eq_getElem hj];rfl
theorem kf(l:List Int)(j:Nat)(hj:j<l.length):l.drop j=l[j]?.getD 0::l.drop (j+1):=by
 rw[List.drop_eq_getElem_cons hj,List.getElem?_eq_getElem hj];rfl
theorem zZ(l:List Int)(n:Int)(j:Nat)(hj:j<l.length)(h:l[j]?.getD 0<n):had l n (j+1)=had l n j∧cnt l n (j+1)=cnt l n j+1:=by
 unfold had cnt;rw[bQ l j hj,kf l j hj,List.filter_append];simp[h,Int.le_of_lt h]
theorem zY(l:List Int)(n:Int)(j:Nat)(hj:j<l.length)(h:n<l[j]?.getD 0):had l n (j+1)=had l n j∧cnt l n (j+1)=cnt l n j:=by
 unfold had cnt;rw[bQ l j hj,kf l j hj,List.filter_append];have h1:¬ l[j]?.getD 0≤n:=by omega
 have h2:¬ l[j]?.getD 0<n:=by omega
 simp[h1,h2]
theorem EI.less{l:List Int}{n:Int}{j dl:Nat}{ds:List Nat}(h:EI l n j dl ds)(hj:j<l.length)(hx:l[j]?.getD 0<n):EI l n (j+1) (dl+1) ds:=by
 obtain⟨e1,e2⟩:=zZ l n j hj hx;refine⟨by rw[e1];exact h.pts,h.le,?_⟩;have:=h.eq;rw[e1,e2]
 push_cast at *
 omega
theorem EI.more{l:List Int}{n:Int}{j dl:Nat}{ds:List Nat}(h:EI l n j dl ds)(hj:j<l.length)(hx:n<l[j]?.getD 0):EI l n (j+1) dl ds:=by
 obtain⟨e1,e2⟩:=zY l n j hj hx;exact⟨by rw[e1];exact h.pts,h.le,by rw[e1,e2];exact h.eq⟩
theorem AB(l:List Int)(n:Int)(j:Nat):cnt l n j≤(had l n j).length:=by unfold had cnt;rw[List.length_append];omega
theorem ta(l:List Int)(n:Int)(j:Nat):(had l n j).length≤l.length:=by
 unfold had;rw[List.length_append];have a:=List.length_filter_le (fun x=>decide (x≤n)) (l.take j);have b:=List.length_filter_le (fun x=>decide (x<n)) (l.drop j);have:(l.take j).length+(l.drop j).length=l.length:=by rw[←List.length_append,List.take_append_drop]
 omega
theorem EI.split{l:List Int}{n:Int}{j dl:Nat}{ds:List Nat}(h:EI l n j dl ds):
  (run (plain l) ds).n+((((run (plain l) ds).i+dl) / ((run (plain l) ds).pts.length+1):Nat):Int)=n∧((run (plain l) ds).i+dl) % ((run (plain l) ds).pts.length+1)=cnt l n j:=by
 have hc:=AB l n j;have he:=h.eq;have hle:=h.le;rw[h.pts]
 generalize (run (plain l) ds).n=m at *
 generalize (run (plain l) ds).i=i at *
 generalize (had l n j).length=p at *
 generalize cnt l n j=c at *
 obtain⟨u,rfl⟩:∃ u:Nat,n=m+u:=⟨(n - m).toNat,by omega⟩
 have e:i+dl=c+(p+1) * u:=by
  have:((i+dl:Nat):Int)=((c+(p+1) * u:Nat):Int):=by
   push_cast
   have:(m+(u:Int)) * ((p:Int)+1)=m * ((p:Int)+1)+((p:Int)+1) * u:=by rw[Int.add_mul,Int.mul_comm (u:Int)]
   omega
  exact_mod_cast this
 rw[e,Nat.add_mul_div_left _ _ (by omega),Nat.add_mul_mod_self_left,Nat.div_eq_of_lt (by omega),Nat.mod_eq_of_lt (by omega),Nat.zero_add];exact⟨rfl,rfl⟩
theorem EI.put{l:List Int}{n:Int}{j dl:Nat}{ds:List Nat}(h:EI l n j dl ds)(hj:j<l.length)(hx:l[j]?.getD 0=n):EI l n (j+1) 0 (dl::ds):=by
 obtain⟨e1,e2⟩:=h.split;have hp:=h.pts
 have hh:had l n (j+1)=(l.take j).filter (fun x=>decide (x≤n))++n::(l.drop (j+1)).filter (fun x=>decide (x<n)):=by
  unfold had;rw[bQ l j hj,List.filter_append,hx];simp
 have hh0:had l n j=(l.take j).filter (fun x=>decide (x≤n))++(l.drop (j+1)).filter (fun x=>decide (x<n)):=by
  unfold had;rw[kf l j hj,hx];simp
 have hc:cnt l n (j+1)=cnt l n j+1:=by
  unfold cnt;rw[bQ l j hj,List.filter_append,hx];simp
 have rn':(run (plain l) (dl::ds)).n=n:=e1;have ri':(run (plain l) (dl::ds)).i=cnt l n j+1:=by show _ % _+1=_;rw[e2]
 refine⟨?_,by rw[rn'];exact Int.le_refl _,by rw[rn',ri',hc];push_cast;omega⟩;show(run (plain l) ds).pts.take _++_::(run (plain l) ds).pts.drop _=_
 rw[e1,e2,hp,hh,hh0];have ec:cnt l n j=((l.take j).filter (fun x=>decide (x≤n))).length:=rfl;rw[ec,List.take_left,List.drop_left]
theorem EI.pass{l:List Int}{n:Int}{dl:Nat}{ds:List Nat}(h:EI l n l.length dl ds):EI l (n+1) 0 (dl+1) ds:=by
 have e:had l (n+1) 0=had l n l.length:=by
  unfold had;simp;exact List.filter_congr (fun x _=>by simp;omega)
 have ec:cnt l n l.length=(had l n l.length).length:=by unfold had cnt;simp
 refine⟨by rw[e];exact h.pts,by have:=h.le;omega,?_⟩;have:=h.eq;rw[e];rw[ec]at this;rw[show cnt l (n+1) 0=0 by simp[cnt]]
 have e2:(n+1) * (((had l n l.length).length:Int)+1)=n * (((had l n l.length).length:Int)+1)+(had l n l.length).length+1:=by
  rw[Int.add_mul];omega
 push_cast at *
 omega
theorem EI.jump{l:List Int}{n m:Int}{dl:Nat}{ds:List Nat}(h:EI l n 0 dl ds)(hm:n≤m)(hno:∀ x∈l,¬ (n≤x∧x<m)):
  ∀ D:Nat,(D:Int)=dl+(m - n) * ((had l n 0).length+1)→EI l m 0 D ds:=by
 intro D hD
 have e:had l m 0=had l n 0:=by
  unfold had;simp;exact List.filter_congr (fun x hx=>by have:=hno x hx;simp;omega)
 refine⟨by rw[e];exact h.pts,by have:=h.le;omega,?_⟩;have:=h.eq;rw[e,hD];rw[show cnt l n 0=0 by simp[cnt]]at this;rw[show cnt l m 0=0 by simp[cnt]];rw[Int.sub_mul];omega
theorem EI.fin{l:List Int}{n:Int}{dl:Nat}{ds:List Nat}(h:EI l n 0 dl ds)(hl:l.length≤(had l n 0).length):(run (plain l) ds).pts=l:=by
 rw[h.pts];have e:had l n 0=l.filter fun x=>decide (x<n):=by simp[had]
 rw[e]at hl ⊢
 have:(l.filter fun x=>decide (x<n)).length=l.length:=by
  have:=List.length_filter_le (fun x=>decide (x<n)) l;omega
 exact(List.filter_sublist (p:=fun x=>decide (x<n)) (l:=l)).eq_of_length this
theorem EI.left{l:List Int}{n:Int}{dl:Nat}{ds:List Nat}(hl:(had l n 0).length<l.length):∃ x∈l,n≤x:=by
 apply Classical.byContradiction;intro hno
 have e:had l n 0=l:=by
  simp only[had,List.take_zero,List.filter_nil,List.nil_append,List.drop_zero];rw[List.filter_eq_self];intro x hx
  have:¬ n≤x:=fun hc=>hno ⟨x,hx,hc⟩
  simp;omega
 rw[e]at hl;omega
theorem EI.bound{l:List Int}{n:Int}{j dl:Nat}{ds:List Nat}(h:EI l n j dl ds)(hn:n≤1114112)(hl:l.length≤63):dl≤71303231:=by
 have h1:=h.eq;have hc:=AB l n j;have hh:=ta l n j;have h128:=ub (plain l) ds
 generalize (run (plain l) ds).n=m at *
 generalize (run (plain l) ds).i=i at *
 generalize (had l n j).length=p at *
 have a:n * ((p:Int)+1)≤1114112 * ((p:Int)+1):=Int.mul_le_mul_of_nonneg_right hn (by omega);have b:0≤m * ((p:Int)+1):=Int.mul_nonneg (by omega) (by omega);omega
def Enc(l T:List Int):Prop:=∃ ds,T=hd (plain l)++tx (plain l).length ds∧(run (plain l) ds).pts=l
theorem Enc.one{l T T':List Int}(h:Enc l T)(h':Enc l T'):T=T':=by
 obtain⟨ds,rfl,e⟩:=h;obtain⟨es,rfl,e'⟩:=h';rw[uf (plain l) (ma l) ds es (e.trans e'.symm)]
open Go.RowKit U
theorem iV(A K:Nat)(h:455<A):gK A K=gK (A / 35) (K+36):=by rw[qY,if_pos h]
theorem iW(A K:Nat)(h:¬ 455<A):gK A K=K+36 * A / (A+38):=by rw[qY,if_neg h]
theorem kR(d p k:Nat):(d:Int) / (k:Int) / (p:Int)=((d / k / p:Nat):Int):=by push_cast;rfl
theorem oJ(d p:Nat)(first:Bool)(hd:d≤1099511627776)(hp:1≤p)(hp2:p≤9223372036854775807)(w:World):
  Calls Tryz.prog 275 #[.int .i64 d,.int .i64 p,.bool first] w fun e w'=>e=.returned (.int .i64 (adapt d p first))∧w'=w:=by
 go_enter Tryz.func275,Tryz.ntmps275
 cases first
 ·have H:Hid (adapt d p false=gK (d / 2+d / 2 / p) 0):=rfl
  have b1:d / 2 / p≤d / 2:=Nat.div_le_self _ _;have q:(d:Int) / 2 / (p:Int)=((d / 2 / p:Nat):Int):=kR d p 2;have q0:0≤(d:Int) / 2 / (p:Int):=by rw[q];exact Int.natCast_nonneg _
  have q1:(d:Int) / 2 / (p:Int)≤1099511627776:=by rw[q];generalize d / 2 / p=z at *;omega
  clear q;have Q:Hid ((d:Int) / 2 / (p:Int)=((d / 2 / p:Nat):Int)):=kR d p 2;go_wp2
  go_loop [0,7] (fun a k=>∃(A K:Nat),a=.int .i64 A∧k=.int .i64 K∧A≤2199023255552∧K+A≤2199023255552∧Hid (adapt d p false=gK A K)) (fun a _=>(intOf a).toNat)
  case atStart=>exact⟨d / 2+d / 2 / p,0,by first | rfl | (congr 1;done) | (congr 1;have:=Q.out;push_cast;omega),rfl,by omega,by omega,H⟩
  case round =>
   obtain⟨A,K,rfl,rfl,h1,h2,h3⟩:=hrel;have c1:=Nat.div_le_self (36 * A) (A+38);have c0:0≤36 * (A:Int) / ((A:Int)+38):=Int.ediv_nonneg (by omega) (by omega)
   have c2:36 * (A:Int) / ((A:Int)+38)≤36 * 2199023255552:=by
    have:36 * (A:Int) / ((A:Int)+38)=((36 * A / (A+38):Nat):Int):=by push_cast;rfl
    omega
   by_cases hA:455<A
   ·go_wp2
    refine⟨⟨A / 35,K+36,by go_num,by go_num,by omega,by omega,h3.out.trans (iV A K hA)⟩,?_⟩;simp[intOf];omega
   ·go_wp2
    go_ret;refine⟨aX ?_,rfl⟩;rw[h3.out,iW A K hA]
    push_cast;rfl
 ·have H:Hid (adapt d p true=gK (d / 700+d / 700 / p) 0):=rfl
  have b1:d / 700 / p≤d / 700:=Nat.div_le_self _ _;have q:(d:Int) / 700 / (p:Int)=((d / 700 / p:Nat):Int):=kR d p 700;have q0:0≤(d:Int) / 700 / (p:Int):=by rw[q];exact Int.natCast_nonneg _
  have q1:(d:Int) / 700 / (p:Int)≤1099511627776:=by rw[q];generalize d / 700 / p=z at *;omega
  clear q;have Q:Hid ((d:Int) / 700 / (p:Int)=((d / 700 / p:Nat):Int)):=kR d p 700;go_wp2
  go_loop [0,7] (fun a k=>∃(A K:Nat),a=.int .i64 A∧k=.int .i64 K∧A≤2199023255552∧K+A≤2199023255552∧Hid (adapt d p true=gK A K)) (fun a _=>(intOf a).toNat)
  case atStart=>exact⟨d / 700+d / 700 / p,0,by first | rfl | (congr 1;done) | (congr 1;have:=Q.out;push_cast;omega),rfl,by omega,by omega,H⟩
  case round =>
   obtain⟨A,K,rfl,rfl,h1,h2,h3⟩:=hrel;have c1:=Nat.div_le_self (36 * A) (A+38);have c0:0≤36 * (A:Int) / ((A:Int)+38):=Int.ediv_nonneg (by omega) (by omega)
   have c2:36 * (A:Int) / ((A:Int)+38)≤36 * 2199023255552:=by
    have:36 * (A:Int) / ((A:Int)+38)=((36 * A / (A+38):Nat):Int):=by push_cast;rfl
    omega
   by_cases hA:455<A
   ·go_wp2
    refine⟨⟨A / 35,K+36,by go_num,by go_num,by omega,by omega,h3.out.trans (iV A K hA)⟩,?_⟩;simp[intOf];omega
   ·go_wp2
    go_ret;refine⟨aX ?_,rfl⟩;rw[h3.out,iW A K hA]
    push_cast;rfl
theorem jf(k b:Nat)(hk:k≤1099511627776)(hb:b≤1099511627776)(w:World):
  Calls Tryz.prog 287 #[.int .i64 k,.int .i64 b] w fun e w'=>e=.returned (.int .i64 (thr k b))∧w'=w:=by
 go_enter Tryz.func287,Tryz.ntmps287
 go_wp2
 all_goals (go_ret;exact⟨aX (by unfold thr;(repeat' split) <;> omega),rfl⟩)
theorem qz(d:Nat)(hd:d<36)(w:World):
  Calls Tryz.prog 288 #[.int .i64 d] w fun e w'=>e=.returned (.int .u8 (sgn d))∧w'=w:=by
 go_enter Tryz.func288,Tryz.ntmps288
 go_wp2
 all_goals (go_ret;exact⟨aX (by unfold sgn;(repeat' split) <;> omega),rfl⟩)
theorem Dy(c:Int)(h:dg c=none):¬ (97≤c∧c≤122)∧¬ (65≤c∧c≤90)∧¬ (48≤c∧c≤57):=by
 unfold dg at h;(repeat' split at h) <;> first | (cases h;done) | exact⟨by assumption,by assumption,by assumption⟩
theorem Dx(c:Int)(d:Nat)(h:dg c=some d):(97≤c∧c≤122∧(d:Int)=c - 97)∨(65≤c∧c≤90∧(d:Int)=c - 65)∨(48≤c∧c≤57∧(d:Int)=c - 22):=by
 unfold dg at h;(repeat' split at h) <;> first | (cases h;done) | (obtain rfl:=Option.some.inj h;omega)
theorem tk(c:Int)(h0:0≤c)(h1:c≤255)(h:dg c=none)(w:World):
  Calls Tryz.prog 302 #[.int .u8 c] w fun e w'=>e=.returned (.tuple #[.int .i64 0,.bool false])∧w'=w:=by
 obtain⟨a1,a2,a3⟩:=Dy c h;go_enter Tryz.func302,Tryz.ntmps302
 go_wp2
 all_goals first | (exfalso;omega) | (go_ret2;exact⟨rfl,rfl⟩)
theorem tj(c:Int)(d:Nat)(h:dg c=some d)(w:World):
  Calls Tryz.prog 302 #[.int .u8 c] w fun e w'=>e=.returned (.tuple #[.int .i64 d,.bool true])∧w'=w:=by
 have H:=Dx c d h;have e:Hid (c - 48+26=c - 22):=by show c - 48+26=c - 22;omega
 clear h;go_enter Tryz.func302,Tryz.ntmps302
 rcases H with⟨a1,a2,a3⟩ | ⟨a1,a2,a3⟩ | ⟨a1,a2,a3⟩
 all_goals (rw[a3];clear a3;go_wp2;go_ret2;first | exact⟨rfl,rfl⟩ | (rw[e.out];exact⟨rfl,rfl⟩))
end Go.Proofs.YtkekkbciiohbkaaGreatDoor.P
namespace Go.Proofs.YtkekkbciiohbkaaGreatDoor.U
open Go.RowKit
end Go.Proofs.YtkekkbciiohbkaaGreatDoor.U
namespace Go.Proofs.YtkekkbciiohbkaaGreatDoor.P
open Go.RowKit U
theorem hid{p:Prop}(h:p):Hid p:=h
theorem sN(l:List Int)(k:Nat)(h:k<l.length):plain (l.take (k+1))=plain (l.take k)++(if l[k]?.getD 0<128 then [l[k]?.getD 0] else []):=by
 unfold plain;rw[bQ l k h,List.filter_append]
 congr 1
 by_cases hx:l[k]?.getD 0<128 <;> simp[hx]
theorem nY(l:List Int):(plain l).length≤l.length:=List.length_filter_le _ _
theorem kt(v:Value)(l:List Int)(hlen:l.length≤1024)(hnn:∀ x∈l,0≤x)(w:World)(hv:au w v l):
  Calls Tryz.prog 244 #[v] w fun e W'=>∃ v',e=.returned v'∧W'.ownsRow w.heap.size 5 1 v' (plain l).length ((plain l).map (Value.int .u8))∧Below w.heap.size w W':=by
 obtain⟨i0,hi,hz0,hz1,hz2⟩:=info_parts Tryz.info5;rcases hv with⟨rfl,a,cap,rfl⟩ | ⟨hp,b,off,cap,rfl,hc⟩
 ·go_enter Tryz.func244,Tryz.ntmps244
  go_wp2_with fail;refine wp_loop_rounds 1 ?_;rw[rounds_succ];go_wp2;go_ret;exact⟨_,rfl,World.ownsRow_nil _ _ _ _,Below.refl _ _⟩
 ·have hb:b<w.heap.size:=lt_of_cell (hc 0 hp)
  go_enter Tryz.func244,Tryz.ntmps244
  go_wp2_with fail
  go_loopw [3,8] (fun v i wr=>∃ k:Nat,k≤l.length∧i=.int .i64 k∧wr.ownsRow w.heap.size 5 1 v (plain (l.take k)).length ((plain (l.take k)).map (Value.int .u8))∧Below w.heap.size w wr)
   (fun _ i _=>l.length - (intOf i).toNat)
  case atStart=>exact⟨0,Nat.zero_le _,rfl,World.ownsRow_nil _ _ _ _,Below.refl _ _⟩
  case round =>
   obtain⟨k,hk,rfl,hrow,hB⟩:=hrel;by_cases hlt:k<l.length
   ·have hck:wr.cell? ⟨b,off+k,none⟩=some (.int .i32 (l[k]?.getD 0)):=(hB.cell (p:=⟨b,off+k,none⟩) hb).trans (hc k hlt)
    have hpl:=nY (l.take k);have htl:(l.take k).length≤k:=List.length_take_le _ _;have hx0:=hnn (l[k]?.getD 0) (by rw[List.getElem?_eq_getElem hlt];exact List.getElem_mem _);have HP:=hid (sN l k hlt);obtain⟨m,hm⟩:∃ m,m=(plain (l.take k)).length:=⟨_,rfl⟩;have HM:=hid hm;have hm2:m≤1024:=by omega
    rw[←hm]at hrow;clear hm hpl htl hc hnn;obtain⟨c,hcc⟩:∃ c,c=l[k]?.getD 0:=⟨_,rfl⟩;rw[←hcc]at hck hx0 HP;clear hcc;by_cases hx:c<128
    ·go_wp2_with(at_builtin;refine wpList_append_own _ rfl _ _ 36 rfl w.heap.size 5 i0 (.int .u8 0) 1 1 Tryz.underlying36 hi hz0 hz1 hz2 rfl (by decide) _ _ _ rfl (hrow.alloc _) ⟨wr.heap.size,0,none⟩ 1 1 [.int .u8 c] rfl rfl (bZ _ _ _) (by simp[Value.oneCell']) (by unfold maxLen;omega) (by omega) (by have:=hB.size;simp;omega) ?_;intro v' w1 hown' hgrow _)
     go_roundw
     case rel =>
      have e:plain (l.take (k+1))=plain (l.take k)++[c]:=by rw[HP.out,if_pos hx]
      refine⟨k+1,by omega,by go_num,?_,?_⟩
      ·rw[e,List.length_append,←HM.out,List.map_append];exact hown'
      ·exact below_grow (w1:=wr.alloc (.cells #[.int .u8 c] 5)) (hB.alloc hB.size _) (Nat.le_trans hB.size (by simp)) (hrow.alloc _) hgrow
     case measure=>simp[intOf];omega
    ·go_wp2
     go_roundw
     case rel =>
      have e:plain (l.take (k+1))=plain (l.take k):=by rw[HP.out,if_neg hx,List.append_nil]
      refine⟨k+1,by omega,by go_num,?_,hB⟩;rw[e,←HM.out];exact hrow
     case measure=>simp[intOf];omega
   ·have hkk:k=l.length:=by omega
    rw[hkk,List.take_length]at hrow;go_wp2;go_ret;exact⟨_,rfl,hrow,hB⟩
def lh(l:List Int)(n m:Int):Prop:=m∈l∧n≤m∧∀ x∈l,¬ (n≤x∧x<m)
def lst(l:List Int)(n:Int):Int:=(l.filter fun x=>decide (n≤x)).foldl min 1114111
theorem foldl_min(l:List Int):∀ a:Int,l.foldl min a≤a∧(∀ x∈l,l.foldl min a≤x)∧(l.foldl min a=a∨l.foldl min a∈l):=by
 induction l with
 | nil=>intro a;simp
 | cons b l ih =>
  intro a
  obtain⟨h1,h2,h3⟩:=ih (min a b);rw[List.foldl_cons];refine⟨by omega,fun x hx=>?_,?_⟩
  ·rcases List.mem_cons.mp hx with rfl | hx
   ·omega
   ·exact h2 x hx
  ·rcases h3 with h3 | h3
   ·by_cases hab:a≤b
    ·left;omega
    ·right;rw[h3,show min a b=b by omega];simp
   ·right;simp[h3]
theorem wg(l:List Int)(n:Int)(hl:∀ x∈l,x≤1114111)(hex:∃ x∈l,n≤x):lh l n (lst l n):=by
 obtain⟨h1,h2,h3⟩:=foldl_min (l.filter fun x=>decide (n≤x)) 1114111
 change lst l n≤1114111 at h1
 have mem:lst l n∈l.filter fun x=>decide (n≤x):=by
  rcases h3 with h3 | h3
  ·obtain⟨x,hx,hnx⟩:=hex
   have hxm:x∈l.filter fun x=>decide (n≤x):=List.mem_filter.mpr ⟨hx,by simpa using hnx⟩
   have:=h2 x hxm;have:=hl x hx;have e:lst l n=x:=by unfold lst;omega
   rw[e];exact hxm
  ·exact h3
 obtain⟨m1,m2⟩:=List.mem_filter.mp mem;refine⟨m1,by simpa using m2,fun x hx hb=>?_⟩;have:=h2 x (List.mem_filter.mpr ⟨hx,by simpa using hb.1⟩);have e:lst l n=(l.filter fun x=>decide (n≤x)).foldl min 1114111:=rfl;omega
theorem zz(l:List Int)(n:Int)(k:Nat)(h:k<l.length):lst (l.take (k+1)) n=if n≤l[k]?.getD 0 then min (lst (l.take k) n) (l[k]?.getD 0) else lst (l.take k) n:=by
 unfold lst;rw[bQ l k h,List.filter_append,List.foldl_append];by_cases hx:n≤l[k]?.getD 0 <;> simp[hx]
theorem wk(b off cap:Nat)(l:List Int)(n:Int)(hlen:l.length≤1024)(hp:0<l.length)(w:World)(hc:∀ j,j<l.length→w.cell? ⟨b,off+j,none⟩=some (.int .i32 (l[j]?.getD 0))):
  Calls Tryz.prog 246 #[.slice (some ⟨b,off,none⟩) l.length cap,.int .i32 n] w fun e w'=>e=.returned (.int .i32 (lst l n))∧w'=w:=by
 go_enter Tryz.func246,Tryz.ntmps246
 go_wp2_with fail
 go_loop [5,10] (fun m i=>∃ k:Nat,k≤l.length∧i=.int .i64 k∧m=.int .i32 (lst (l.take k) n)) (fun _ i=>l.length - (intOf i).toNat)
 case atStart=>exact⟨0,Nat.zero_le _,rfl,rfl⟩
 case round =>
  obtain⟨k,hk,rfl,rfl⟩:=hrel;by_cases hlt:k<l.length
  ·have hck:=hc k hlt
   have HP:=hid (zz l n k hlt);obtain⟨c,hcc⟩:∃ c,c=l[k]?.getD 0:=⟨_,rfl⟩;rw[←hcc]at hck HP;clear hcc hc;by_cases hx:n≤c
   ·go_wp2
    refine⟨⟨k+1,by omega,by go_num,?_⟩,by simp[intOf];omega⟩;rw[HP.out,if_pos hx]
    all_goals (congr 1;split <;> omega)
   ·go_wp2
    refine⟨⟨k+1,by omega,by go_num,?_⟩,by simp[intOf];omega⟩;rw[HP.out,if_neg hx]
  ·have hkk:k=l.length:=by omega
   subst hkk;go_wp2;go_ret
   first | exact⟨rfl,rfl⟩ | (rw[List.take_length];exact⟨rfl,rfl⟩)
end Go.Proofs.YtkekkbciiohbkaaGreatDoor.P
