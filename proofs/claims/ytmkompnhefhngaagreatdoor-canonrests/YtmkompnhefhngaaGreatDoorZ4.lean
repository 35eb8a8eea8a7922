/- Contracts and plain facts. -/
import Derived.Test.YtmkompnhefhngaaGreatDoorZ3
import Derived.RowKit
import Derived.OpenShut
import Derived.Deep.AppendLies
import Derived.Deep.RegionLaw
import Derived.Lib.LazyBuf
import Derived.Lib.Overlaps
import Derived.Lib.AppendZeros
import Derived.Lib.AppendZerosOnto
import Derived.Laws.Externs
import Derived.Laws.IdiomCopy
import Derived.Laws.EntriesVeiled
import Derived.Lib.Join
import Derived.Shelf.Strings.OnBuilder
set_option maxRecDepth 100000
set_option maxHeartbeats 16000000
set_option linter.unusedVariables false
set_option linter.unnecessarySimpa false
open List (length_cons getElem?_eq_getElem length_append length_take map_map length_nil append_assoc length_drop flatMap_cons filter_append map_cons take_append_drop mem_of_mem_drop getElem?_drop map_append foldl_cons nil_append take_of_length_le eq_nil_of_length_eq_zero length_filter_le getElem?_take mem_map_of_mem cons_append mem_of_mem_take getElem_mem all_eq_true drop_left append_nil take_length length_map)
open Nat (le_refl div_le_self zero_le le_trans mod_lt lt_of_lt_of_le mul_le_mul not_lt_zero mul_comm zero_add div_add_mod min_def sub_self mul_one)
open ByteArray (size_extract)
open Go.World (putObj_heap_other)
open Int (ofNat_sub)
open Go.IntKind (wrap_i64)
namespace Go.Proofs.YtmkompnhefhngaaGreatDoor
open Tryz Go.RowKit
namespace P
def thr(k b:Nat):Nat:=if k<=b then 1 else if b+26<=k then 26 else k - b
theorem fH(k b:Nat):1<=thr k b:=by unfold thr;split;omega;split <;> omega
theorem jD(k b:Nat):thr k b<=26:=by unfold thr;split;omega;split <;> omega
def mx:Nat->Nat->Nat->Nat
 | 0,d,k=>k+36 * d / (d+38)
 | f+1,d,k=>if d > 455 then mx f (d / 35) (k+36) else k+36 * d / (d+38)
def iB(d k:Nat):Nat:=mx (d+1) d k
theorem rk:∀(f g d k:Nat),d<f->d<g->mx f d k=mx g d k
 | 0,_,_,_,h,_=>absurd h (not_lt_zero _)
 | _+1,0,_,_,_,h=>absurd h (not_lt_zero _)
 | f+1,g+1,d,k,h1,h2=>by
  rw[mx,mx];split
  ·exact rk f g _ _ (by omega) (by omega)
  ·rfl
theorem vJ(d k:Nat):iB d k=if d > 455 then iB (d / 35) (k+36) else k+36 * d / (d+38):=by
 show mx (d+1) d k=_;rw[mx];split
 ·exact rk _ _ _ _ (by omega) (by omega)
 ·rfl
def adapt(d p:Nat)(first:Bool):Nat:=iB ((if first then d / 700 else d / 2)+(if first then d / 700 else d / 2) / p) 0
def sgn(d:Nat):Int:=if d<26 then 97+d else 22+d
def wnF(b:Nat):Nat->Nat->Nat->List Int
 | 0,_,q=>[sgn q]
 | f+1,k,q=>if q<thr k b then [sgn q] else sgn (thr k b+(q - thr k b) % (36 - thr k b))::wnF b f (k+36) ((q - thr k b) / (36 - thr k b))
def wn(b k q:Nat):List Int:=wnF b (q+1) k q
theorem zw(b:Nat):∀(f g k q:Nat),q<f->q<g->wnF b f k q=wnF b g k q
 | 0,_,_,_,h,_=>absurd h (not_lt_zero _)
 | _+1,0,_,_,_,h=>absurd h (not_lt_zero _)
 | f+1,g+1,k,q,h1,h2=>by
  have h3:=fH k b;have h4:=div_le_self (q - thr k b) (36 - thr k b);rw[wnF,wnF];split
  ·rfl
  ·rw[zw b f g _ _ (by omega) (by omega)]
theorem kd(b k q:Nat):wn b k q=if q<thr k b then [sgn q] else sgn (thr k b+(q - thr k b) % (36 - thr k b))::wn b (k+36) ((q - thr k b) / (36 - thr k b)):=by
 have h3:=fH k b;have h4:=div_le_self (q - thr k b) (36 - thr k b);show wnF b (q+1) k q=_;rw[wnF];split
 ·rfl
 ·rw[zw b q ((q - thr k b) / (36 - thr k b)+1) _ _ (by omega) (Nat.lt_succ_self _)];rfl
def dg(c:Int):Option Nat :=
 if 97<=c/\c<=122 then some (c - 97).toNat else if 65<=c/\c<=90 then some (c - 65).toNat else if 48<=c/\c<=57 then some (c - 22).toNat else none
def low(c:Int):Int:=if 65<=c/\c<=90 then c+32 else c
def rn(b k i w:Nat):List Int->Option (Nat×List Int)
 | []=>none
 | c::cs=>match dg c with
  | none=>none
  | some d=>if 2147483647<i+d * w then none else if d<thr k b then some (i+d * w,cs)
   else if 2147483647<w * (36 - thr k b) then none else rn b (k+36) (i+d * w) (w * (36 - thr k b)) cs
theorem IN(d:Nat)(h:d<36):dg (sgn d)=some d:=by
 unfold dg sgn;by_cases h1:d<26
 ·rw[if_pos h1,if_pos (by omega)];congr 1;omega
 ·rw[if_neg h1,if_neg (by omega),if_neg (by omega),if_pos (by omega)];congr 1;omega
theorem EW(c:Int)(d:Nat)(h:dg c=some d):low c=sgn d/\d<36:=by
 unfold dg at h;unfold low sgn;split at h
 ·obtain rfl:=Option.some.inj h;rw[if_neg (by omega),if_pos (by omega)];omega
 ·split at h
  ·obtain rfl:=Option.some.inj h;rw[if_pos (by omega),if_pos (by omega)];omega
  ·split at h
   ·obtain rfl:=Option.some.inj h;rw[if_neg (by omega),if_neg (by omega)];omega
   ·cases h
theorem sq(d:Nat)(h:d<36):45<sgn d/\sgn d<128:=by unfold sgn;split <;> omega
theorem nM(b k q:Nat)(h:¬ q<thr k b):thr k b+(q - thr k b) % (36 - thr k b)<36:=by have h1:=fH k b;have h2:=jD k b;have:=mod_lt (q - thr k b) (show 0<36 - thr k b by omega);omega
theorem DU(b k q:Nat):∀ c∈wn b k q,45<c/\c<128:=by
 induction q using Nat.strongRecOn generalizing k with
 | ind q ih =>
  intro c hc;have h1:=fH k b;have h2:=jD k b;rw[kd]at hc;split at hc
  ·simp at hc;subst hc;exact sq _ (by omega)
  ·rename_i hq;rcases List.mem_cons.mp hc with rfl | hc
   ·exact sq _ (nM b k q hq)
   ·have:=div_le_self (q - thr k b) (36 - thr k b);exact ih _ (by omega) _ c hc
theorem Oj(b k q:Nat):1<=(wn b k q).length:=by rw[kd];split <;> simp
theorem Ri(b:Nat)(rest:List Int):∀(q k i w:Nat),1<=w->i+q * w<=2147483647->q * w<=71303168->(k<=b+36->∃ j,k=36 * (j+1)/\w=35 ^ j) ->
  rn b k i w (wn b k q++rest)=some (i+q * w,rest):=by
 intro q
 induction q using Nat.strongRecOn with
 | ind q ih =>
  intro k i w hw hs hb hinv;have h1:=fH k b;have h2:=jD k b;rw[kd];by_cases hq:q<thr k b
  ·rw[if_pos hq];simp only[cons_append,nil_append,rn,IN q (by omega)];rw[if_neg (by omega),if_pos hq]
  ·rw[if_neg hq];have hd:=nM b k q hq;generalize ht:thr k b=t at *;have hmod:=Nat.mod_add_div (q - t) (36 - t);have hlt:=mod_lt (q - t) (show 0<36 - t by omega);generalize hr:(q - t) % (36 - t)=r at *;generalize hQ:(q - t) / (36 - t)=Q at *;have hQq:Q<q:=by have:=div_le_self (q - t) (36 - t);omega
   have e:q=t+r+(36 - t) * Q:=by omega
   have eqw:q * w=(t+r) * w+Q * (w * (36 - t)):=by rw[e,Nat.add_mul];congr 1;rw[mul_comm (36 - t) Q,Nat.mul_assoc,mul_comm w]
   simp only[cons_append,rn,IN _ hd]
   have hw':w * (36 - t)<=2147483647:=by
    have hwq:w<=q * w:=by have:1 * w<=q * w:=Nat.mul_le_mul_right w (by omega);omega
    by_cases h6:t<6
    ·have hk:k<b+6:=by
      unfold thr at ht;split at ht
      ·omega
      ·split at ht <;> omega
     obtain⟨j,hkj,hwj⟩:=hinv (by omega)
     have hj:j<=5:=by
      apply Nat.le_of_not_lt;intro hj;have:35 ^ 6<=35 ^ j:=Nat.pow_le_pow_right (by omega) hj;have e6:(35:Nat) ^ 6=1838265625:=by decide
      omega
     have h5:35 ^ j<=35 ^ 5:=Nat.pow_le_pow_right (by omega) hj;have e5:(35:Nat) ^ 5=52521875:=by decide
     have:w * (36 - t)<=52521875 * 35:=mul_le_mul (by omega) (by omega);omega
    ·have:w * (36 - t)<=71303168 * 30:=mul_le_mul (by omega) (by omega);omega
   rw[ht,if_neg (by omega),if_neg (by omega),if_neg (by omega),ih Q hQq (k+36) _ _ (Nat.mul_pos hw (by omega)) (by omega) (by omega) ?_]
   ·congr 2;omega
   ·intro hk;have hkb:k<=b:=by omega
    obtain⟨j,hkj,hwj⟩:=hinv (by omega);refine⟨j+1,by omega,?_⟩;have:t=1:=by unfold thr at ht;rw[if_pos hkb]at ht;omega
    rw[this,hwj,Nat.pow_succ]
theorem oo(b:Nat):∀(cs:List Int) (k i w j:Nat) (rest:List Int),rn b k i w cs=some (j,rest) ->
  j<=2147483647/\rest.length<cs.length/\(∃ q,j=i+q * w/\cs.map low=wn b k q++rest.map low)/\∃ m,rest=cs.drop m
 | [],_,_,_,_,_,h=>by simp[rn]at h
 | c::cs,k,i,w,j,rest,h=>by
  rw[rn]at h;cases hd:dg c with
  | none=>simp[hd]at h
  | some d =>
   obtain⟨hl,hlt⟩:=EW c d hd;rw[hd]at h;simp only at h;split at h
   ·cases h
   ·split at h
    ·rename_i h1 h2;obtain⟨rfl,rfl⟩:=Prod.mk.inj (Option.some.inj h);refine⟨by omega,by simp,⟨d,rfl,?_⟩,1,rfl⟩;rw[kd,if_pos h2,map_cons,hl];rfl
    ·split at h
     ·cases h
     ·rename_i h1 h2 h3;obtain⟨a1,a2,⟨q,rfl,a4⟩,m,a5⟩:=oo b cs _ _ _ _ _ h;refine⟨a1,by simp;omega,⟨d+(36 - thr k b) * q,?_,?_⟩,m+1,by simpa using a5⟩
      ·rw[Nat.add_mul,mul_comm (36 - thr k b) q,Nat.mul_assoc,mul_comm (36 - thr k b) w,Nat.add_assoc]
      ·have t1:=fH k b;have t2:=jD k b;have hn:¬ d+(36 - thr k b) * q<thr k b:=by omega
       rw[kd,if_neg hn,map_cons,hl];generalize thr k b=t at *;have e:d+(36 - t) * q - t=(d - t)+(36 - t) * q:=by omega
       have e1:(d+(36 - t) * q - t) % (36 - t)=d - t:=by rw[e,Nat.add_mul_mod_self_left,Nat.mod_eq_of_lt (by omega)]
       have e2:(d+(36 - t) * q - t) / (36 - t)=q:=by rw[e,Nat.add_mul_div_left _ _ (by omega),Nat.div_eq_of_lt (by omega),zero_add]
       rw[e1,e2,show t+(d - t)=d by omega,a4];rfl
structure St where
 n:Int
 i:Nat
 pts:List Int
def St.step(s:St)(d:Nat):St :=
 ⟨s.n+((s.i+d) / (s.pts.length+1):Nat),(s.i+d) % (s.pts.length+1)+1,
   s.pts.take ((s.i+d) % (s.pts.length+1))++(s.n+((s.i+d) / (s.pts.length+1):Nat))::s.pts.drop ((s.i+d) % (s.pts.length+1))⟩
def run(pl:List Int):List Nat->St
 | []=>⟨128,0,pl⟩
 | d::ds=>(run pl ds).step d
def bia(p:Nat):List Nat->Nat
 | []=>72
 | d::ds=>adapt d (p+ds.length+1) ds.isEmpty
def tx(p:Nat):List Nat->List Int
 | []=>[]
 | d::ds=>tx p ds++wn (bia p ds) 36 d
theorem nP(p:Nat):∀ ds,∀ c∈tx p ds,45<c/\c<128
 | [],c,h=>by simp[tx]at h
 | d::ds,c,h=>by
  rcases List.mem_append.mp h with h | h
  ·exact nP p ds c h
  ·exact DU _ _ _ c h
theorem Ee(p:Nat):∀ ds,ds.length<=(tx p ds).length
 | []=>by simp
 | d::ds=>by have:=Ee p ds;have:=Oj (bia p ds) 36 d;simp[tx];omega
theorem uA(s:St)(d:Nat):(s.step d).pts.length=s.pts.length+1:=by have:=mod_lt (s.i+d) (show 0<s.pts.length+1 by omega);simp[St.step];omega
theorem dF(pl:List Int):∀ ds,(run pl ds).pts.length=pl.length+ds.length
 | []=>rfl
 | d::ds=>by rw[run,uA,dF pl ds];simp;omega
theorem Rg(pl:List Int)(ds:List Nat):((run pl ds).i==0)=ds.isEmpty:=by
 cases ds with
 | nil=>rfl
 | cons d ds=>simp[run,St.step]
theorem ki(s:St)(d:Nat):∀ x,x∈(s.step d).pts↔x=(s.step d).n\/x∈s.pts:=by
 intro x;simp only[St.step,List.mem_append,List.mem_cons];have e:=take_append_drop ((s.i+d) % (s.pts.length+1)) s.pts
 have:x∈s.pts↔x∈s.pts.take ((s.i+d) % (s.pts.length+1))\/x∈s.pts.drop ((s.i+d) % (s.pts.length+1)):=by
  conv=>lhs;rw[<-e]
  exact List.mem_append
 rw[this];constructor
 ·rintro(h | h | h) <;> simp[h]
 ·rintro(h | h | h) <;> simp[h]
structure Fits(s:St):Prop where
 le:s.i<=s.pts.length
 lo:∀ x∈s.pts.take s.i,x<=s.n
 hi:∀ x∈s.pts.drop s.i,x<s.n
theorem Fits.all{s:St}(h:Fits s):∀ x∈s.pts,x<=s.n:=by
 intro x hx;rw[<-take_append_drop s.i s.pts]at hx;rcases List.mem_append.mp hx with hx | hx
 ·exact h.lo x hx
 ·exact Int.le_of_lt (h.hi x hx)
theorem Fits.step{s:St}(h:Fits s)(d:Nat):Fits (s.step d):=by
 have hlt:=mod_lt (s.i+d) (show 0<s.pts.length+1 by omega);have hdm:=div_add_mod (s.i+d) (s.pts.length+1);unfold St.step;generalize (s.i+d) % (s.pts.length+1)=r at *;generalize (s.i+d) / (s.pts.length+1)=q at *;have hl:(s.pts.take r).length=r:=by rw[length_take];omega
 refine⟨by simp;omega,?_,?_⟩
 ·intro x hx;have hx:x∈(s.pts.take r++(s.n+(q:Int))::s.pts.drop r).take (r+1):=hx;have e:(s.pts.take r++(s.n+(q:Int))::s.pts.drop r).take (r+1)=s.pts.take r++[s.n+(q:Int)]:=by rw[List.take_append,hl,take_of_length_le (by omega)];simp
  rw[e]at hx;show x<=s.n+(q:Int);rcases List.mem_append.mp hx with hx | hx
  ·have:=h.all x (mem_of_mem_take hx);omega
  ·simp at hx;omega
 ·intro x hx0;have hx:x∈(s.pts.take r++(s.n+(q:Int))::s.pts.drop r).drop (r+1):=hx0;have e:(s.pts.take r++(s.n+(q:Int))::s.pts.drop r).drop (r+1)=s.pts.drop r:=by rw[List.drop_append,hl,List.drop_of_length_le (by omega)];simp
  rw[e]at hx;clear hx0 e;show x<s.n+(q:Int);by_cases hq:q=0
  ·rw[hq]at hdm;have:s.i<=r:=by simp at hdm;omega
   have hy:x∈s.pts.drop s.i:=by obtain⟨u,rfl⟩:∃ u,r=s.i+u:=⟨r - s.i,by omega⟩;rw[<-List.drop_drop]at hx;exact mem_of_mem_drop hx
   have:=h.hi x hy;omega
  ·have:=h.all x (mem_of_mem_drop hx);omega
theorem kV(pl:List Int)(h:∀ x∈pl,x<128):∀ ds,Fits (run pl ds)
 | []=>⟨zero_le _,by simp[run],by simpa[run]using h⟩
 | d::ds=>(kV pl h ds).step d
theorem zM(pl:List Int):∀ ds,128<=(run pl ds).n
 | []=>by simp[run]
 | d::ds=>by have:=zM pl ds;show 128<=(run pl ds).n+((((run pl ds).i+d) / ((run pl ds).pts.length+1):Nat):Int);have:=Int.natCast_nonneg (((run pl ds).i+d) / ((run pl ds).pts.length+1));generalize ((((run pl ds).i+d) / ((run pl ds).pts.length+1):Nat):Int)=z at *;omega
theorem zN(pl:List Int)(h:∀ x∈pl,x<128):∀ ds,(run pl ds).pts.filter (fun x=>decide (x<128))=pl
 | []=>by
  rw[run,List.filter_eq_self];intro x hx;simpa using h x hx
 | d::ds=>by have ih:=zN pl h ds;have hn:=zM pl (d::ds);rw[run]at hn ⊢;simp only[St.step]at hn ⊢;generalize (run pl ds).n+(((run pl ds).i+d) / ((run pl ds).pts.length+1):Nat)=n at *;rw[filter_append,List.filter_cons,if_neg (by simp;omega),<-filter_append,take_append_drop,ih]
theorem zO(pl:List Int)(h:∀ x∈pl,x<128):∀ ds es:List Nat,(run pl ds).pts=(run pl es).pts->ds=es
 | [],es,e=>by
  have:=congrArg List.length e;rw[dF,dF]at this;have:es.length=0:=by rw[length_nil]at this;omega
  exact(eq_nil_of_length_eq_zero this).symm
 | d::ds,[],e=>by
  have:=congrArg List.length e;rw[dF,dF]at this;simp at this
 | d::ds,f::es,e=>by
  have A:=kV pl h (d::ds);have B:=kV pl h (f::es);have am:(run pl (d::ds)).n∈(run pl (d::ds)).pts:=(ki _ _ _).mpr (.inl rfl);have bm:(run pl (f::es)).n∈(run pl (f::es)).pts:=(ki _ _ _).mpr (.inl rfl);have en:(run pl (d::ds)).n=(run pl (f::es)).n:=by have:=A.all _ (e ▸ bm);have:=B.all _ (e ▸ am);omega
  have place:∀(s:St) (d:Nat),∃ k,(s.step d).i=k+1/\k<(s.step d).pts.length/\(s.step d).pts[k]? = some (s.step d).n/\k<=s.pts.length/\s.pts=(s.step d).pts.take k++(s.step d).pts.drop (k+1):=by
   intro s d;have hlt:=mod_lt (s.i+d) (show 0<s.pts.length+1 by omega);refine⟨(s.i+d) % (s.pts.length+1),rfl,by rw[uA];omega,?_,by omega,?_⟩
   ·simp only[St.step];rw[List.getElem?_append_right (by rw[length_take];omega),length_take,show(s.i+d) % (s.pts.length+1) - min ((s.i+d) % (s.pts.length+1)) s.pts.length=0 by omega];rfl
   ·simp only[St.step];generalize (s.i+d) % (s.pts.length+1)=r at *;have hl:(s.pts.take r).length=r:=by rw[length_take];omega
    have e1:(s.pts.take r++(s.n+((s.i+d) / (s.pts.length+1):Nat))::s.pts.drop r).drop (r+1)=s.pts.drop r:=by rw[List.drop_append,hl,List.drop_of_length_le (by omega)];simp
    have e2:(s.pts.take r++(s.n+((s.i+d) / (s.pts.length+1):Nat))::s.pts.drop r).take r=s.pts.take r:=by rw[List.take_append,hl,take_of_length_le (by omega)];simp
    rw[e1,e2,take_append_drop]
  obtain⟨k,hk,hkl,hkn,hk2,hkp⟩:=place (run pl ds) d;obtain⟨m,hm,hml,hmn,hm2,hmp⟩:=place (run pl es) f;have hA:=A.hi;have hB:=B.hi;simp only[run]at e en hA hB;rw[hk]at hA;rw[hm]at hB
  have ekm:k=m:=by
   rcases Nat.lt_trichotomy k m with hlt | heq | hlt
   ·exfalso
    have:((run pl es).step f).n<((run pl ds).step d).n:=hA _ (by
      rw[List.mem_iff_getElem?]
      refine⟨m - (k+1),?_⟩
      rw[getElem?_drop,e,show k+1+(m - (k+1))=m by omega];exact hmn)
    omega
   ·exact heq
   ·exfalso
    have:((run pl ds).step d).n<((run pl es).step f).n:=hB _ (by
      rw[List.mem_iff_getElem?]
      refine⟨k - (m+1),?_⟩
      rw[getElem?_drop,<-e,show m+1+(k - (m+1))=k by omega];exact hkn)
    omega
  subst ekm;have ep:(run pl ds).pts=(run pl es).pts:=by rw[hkp,hmp,e]
  obtain rfl:=zO pl h ds es ep;have e1:=en;simp only[St.step]at e1;have e2:((run pl ds).i+d) % ((run pl ds).pts.length+1)=((run pl ds).i+f) % ((run pl ds).pts.length+1):=by have:=hk.trans hm.symm;simp only[St.step]at this;omega
  have e3:((run pl ds).i+d) / ((run pl ds).pts.length+1)=((run pl ds).i+f) / ((run pl ds).pts.length+1):=by omega
  have a1:=div_add_mod ((run pl ds).i+d) ((run pl ds).pts.length+1);have a2:=div_add_mod ((run pl ds).i+f) ((run pl ds).pts.length+1);rw[e2,e3]at a1;have:d=f:=by omega
  rw[this]
open U
def rd:Nat->St->Nat->List Int->Option (List Int)
 | _,s,_,[]=>some s.pts
 | 0,_,_,_::_=>none
 | f+1,s,b,c::cs=>match rn b 36 s.i 1 (c::cs) with
  | none=>none
  | some (j,rest)=>if ar (s.step (j - s.i)).n=true then rd f (s.step (j - s.i)) (adapt (j - s.i) (s.pts.length+1) (s.i==0)) rest else none
def RD(s:St)(b:Nat)(cs:List Int):Option (List Int):=rd cs.length s b cs
theorem zS:∀(f g:Nat) (s:St) (b:Nat) (cs:List Int),cs.length<=f->cs.length<=g->rd f s b cs=rd g s b cs
 | f,g,s,b,[],_,_=>by cases f <;> cases g <;> rfl
 | 0,_,_,_,c::cs,h,_=>by simp at h
 | f+1,0,_,_,c::cs,_,h=>by simp at h
 | f+1,g+1,s,b,c::cs,hf,hg=>by
  rw[rd,rd];cases hr:rn b 36 s.i 1 (c::cs) with
  | none=>rfl
  | some p =>
   obtain⟨j,rest⟩:=p;have:=(oo b _ _ _ _ _ _ hr).2.1;simp only[length_cons]at this hf hg;simp only;rw[zS f g _ _ rest (by omega) (by omega)]
theorem QH(s:St)(b:Nat):RD s b []=some s.pts:=rfl
theorem AI(s:St)(b:Nat)(cs:List Int)(hne:cs≠[])(h:rn b 36 s.i 1 cs=none):RD s b cs=none:=by
 cases cs with
 | nil=>exact absurd rfl hne
 | cons c cs=>rw[RD,length_cons,rd,h]
theorem JK(s:St)(b:Nat)(cs:List Int)(j:Nat)(rest:List Int)(h:rn b 36 s.i 1 cs=some (j,rest))(hb:ar (s.step (j - s.i)).n=false):RD s b cs=none:=by
 cases cs with
 | nil=>simp[rn]at h
 | cons c cs=>rw[RD,length_cons,rd,h];simp[hb]
theorem tU(s:St)(b:Nat)(cs:List Int)(j:Nat)(rest:List Int)(h:rn b 36 s.i 1 cs=some (j,rest))(hb:ar (s.step (j - s.i)).n=true):
  RD s b cs=RD (s.step (j - s.i)) (adapt (j - s.i) (s.pts.length+1) (s.i==0)) rest:=by
 have hl:=(oo b _ _ _ _ _ _ h).2.1;cases cs with
 | nil=>simp[rn]at h
 | cons c cs =>
  rw[RD,length_cons,rd,h];simp only[hb,if_true,RD];simp only[length_cons]at hl;exact zS _ _ _ _ _ (by omega) (le_refl _)
theorem xk(pl:List Int)(ds:List Nat)(d:Nat):adapt d ((run pl ds).pts.length+1) ((run pl ds).i==0)=bia pl.length (d::ds):=by rw[bia,dF,Rg]
theorem mO{n:Int}(h:ar n=true):0<=n/\n<=1114111:=by unfold ar at h;simp at h;omega
theorem Oc(pl:List Int)(hpl:∀ x∈pl,x<128)(rest:List Int):∀ ds:List Nat,(∀ x∈(run pl ds).pts,ar x=true)->pl.length+ds.length<=63->∀ rest:List Int,
  RD (run pl []) (bia pl.length []) (tx pl.length ds++rest)=RD (run pl ds) (bia pl.length ds) rest
 | [],_,_,rest=>rfl
 | d::ds,hs,hl,rest=>by
  have hm:=ki (run pl ds) d;rw[tx,append_assoc,Oc pl hpl rest ds (fun x hx=>hs x ((hm x).mpr (.inr hx))) (by simp at hl;omega)];have hn:=hs _ ((hm _).mpr (.inl rfl));have hb:=mO hn;have h128:=zM pl ds;have hi:=(kV pl hpl ds).le;have hL:=dF pl ds;have hdm:=div_add_mod ((run pl ds).i+d) ((run pl ds).pts.length+1);have hlt:=mod_lt ((run pl ds).i+d) (show 0<(run pl ds).pts.length+1 by omega);have hnn:(run pl ds).n+((((run pl ds).i+d) / ((run pl ds).pts.length+1):Nat):Int)<=1114111:=hb.2;have hq:((run pl ds).i+d) / ((run pl ds).pts.length+1)<=1113983:=by omega
  have hprod:((run pl ds).pts.length+1) * (((run pl ds).i+d) / ((run pl ds).pts.length+1))<=63 * 1113983:=mul_le_mul (by simp at hl;omega) hq;simp only[length_cons]at hl;have hd:(run pl ds).i+d<=70180929+64:=by omega
  have hrn:=Ri (bia pl.length ds) rest d 36 (run pl ds).i 1 (le_refl _) (by omega) (by omega) (fun _=>⟨0,rfl,rfl⟩);rw[mul_one]at hrn;have e:(run pl ds).i+d - (run pl ds).i=d:=by omega
  rw[tU _ _ _ _ _ hrn (by rw[e];exact hn),e,xk];rfl
theorem Fa{x:Int}(h0:0<=x)(h:x<128):ar x=true:=by unfold ar;simp;omega
theorem AH(pl:List Int)(hpl:∀ x∈pl,0<=x/\x<128):∀(f:Nat) (cs:List Int) (ds:List Nat) (pts:List Int),cs.length<=f->(∀ x∈(run pl ds).pts,ar x=true) ->
  RD (run pl ds) (bia pl.length ds) cs=some pts->∃ es,(run pl es).pts=pts/\tx pl.length es=tx pl.length ds++cs.map low/\∀ x∈pts,ar x=true
 | f,[],ds,pts,_,hs,h=>by
  obtain rfl:=Option.some.inj h;exact⟨ds,rfl,by simp,hs⟩
 | 0,c::cs,_,_,hf,_,_=>by simp at hf
 | f+1,c::cs,ds,pts,hf,hs,h=>by
  cases hr:rn (bia pl.length ds) 36 (run pl ds).i 1 (c::cs) with
  | none=>rw[AI _ _ _ (by simp) hr]at h;cases h
  | some p =>
   obtain⟨j,rest⟩:=p;obtain⟨h1,h2,⟨q,h3,h4⟩,_⟩:=oo _ _ _ _ _ _ _ hr;have e:j - (run pl ds).i=q:=by omega
   by_cases hb:ar ((run pl ds).step (j - (run pl ds).i)).n=true
   ·rw[tU _ _ _ _ _ hr hb,e,xk]at h;rw[e]at hb
    obtain⟨es,a1,a2,a3⟩:=AH pl hpl f rest (q::ds) pts (by simp only[length_cons]at h2 hf;omega) (fun x hx=>by
      rcases(ki _ _ _).mp hx with rfl | hx
      · exact hb
      · exact hs x hx) h
    exact⟨es,a1,by rw[a2,h4,tx,append_assoc],a3⟩
   ·rw[JK _ _ _ _ _ hr (by simpa using hb)]at h;cases h
def plain(l:List Int):List Int:=l.filter fun x=>decide (x<128)
def hd(p:List Int):List Int:=if p.length=0 then [] else p++[45]
def had(l:List Int)(n:Int)(j:Nat):List Int:=(l.take j).filter (fun x=>decide (x<=n))++(l.drop j).filter (fun x=>decide (x<n))
def cnt(l:List Int)(n:Int)(j:Nat):Nat:=((l.take j).filter fun x=>decide (x<=n)).length
structure EI(l:List Int)(n:Int)(j:Nat)(dl:Nat)(ds:List Nat):Prop where
 pts:(run (plain l) ds).pts=had l n j
 le:(run (plain l) ds).n<=n
 eq:(dl:Int)+(run (plain l) ds).n * ((had l n j).length+1)+(run (plain l) ds).i=n * ((had l n j).length+1)+cnt l n j
theorem oD(l:List Int):∀ x∈plain l,x<128:=fun x hx=>by simpa using(List.mem_filter.mp hx).2
theorem EI.start(l:List Int):EI l 128 0 0 []:=by
 have:had l 128 0=plain l:=by simp[had,plain]
 exact⟨this.symm,by simp[run],by simp[run,cnt]⟩
theorem EI.len{l:List Int}{n:Int}{j dl:Nat}{ds:List Nat}(h:EI l n j dl ds):(had l n j).length=(plain l).length+ds.length:=by rw[<-h.pts,dF]
theorem bT(l:List Int)(j:Nat)(hj:j<l.length):l.take (j+1)=l.take j++[l[j]?.getD 0]:=by rw[List.take_add_one,getElem?_eq_getElem hj];rfl
theorem mb(l:List Int)(j:Nat)(hj:j<l.length):l.drop j=l[j]?.getD 0::l.drop (j+1):=by rw[List.drop_eq_getElem_cons hj,getElem?_eq_getElem hj];rfl
theorem Io(l:List Int)(n:Int)(j:Nat)(hj:j<l.length)(h:l[j]?.getD 0<n):had l n (j+1)=had l n j/\cnt l n (j+1)=cnt l n j+1:=by unfold had cnt;rw[bT l j hj,mb l j hj,filter_append];simp[h,Int.le_of_lt h]
theorem Im(l:List Int)(n:Int)(j:Nat)(hj:j<l.length)(h:n<l[j]?.getD 0):had l n (j+1)=had l n j/\cnt l n (j+1)=cnt l n j:=by
 unfold had cnt;rw[bT l j hj,mb l j hj,filter_append];have h1:¬ l[j]?.getD 0<=n:=by omega
 have h2:¬ l[j]?.getD 0<n:=by omega
 simp[h1,h2]
theorem EI.less{l:List Int}{n:Int}{j dl:Nat}{ds:List Nat}(h:EI l n j dl ds)(hj:j<l.length)(hx:l[j]?.getD 0<n):EI l n (j+1) (dl+1) ds:=by
 obtain⟨e1,e2⟩:=Io l n j hj hx;refine⟨by rw[e1];exact h.pts,h.le,?_⟩;have:=h.eq;rw[e1,e2]
 push_cast at *
 omega
theorem EI.more{l:List Int}{n:Int}{j dl:Nat}{ds:List Nat}(h:EI l n j dl ds)(hj:j<l.length)(hx:n<l[j]?.getD 0):EI l n (j+1) dl ds:=by obtain⟨e1,e2⟩:=Im l n j hj hx;exact⟨by rw[e1];exact h.pts,h.le,by rw[e1,e2];exact h.eq⟩
theorem IW(l:List Int)(n:Int)(j:Nat):cnt l n j<=(had l n j).length:=by unfold had cnt;rw[length_append];omega
theorem Ip(l:List Int)(n:Int)(j:Nat):(had l n j).length<=l.length:=by
 unfold had;rw[length_append];have a:=length_filter_le (fun x=>decide (x<=n)) (l.take j);have b:=length_filter_le (fun x=>decide (x<n)) (l.drop j);have:(l.take j).length+(l.drop j).length=l.length:=by rw[<-length_append,take_append_drop]
 omega
theorem EI.split{l:List Int}{n:Int}{j dl:Nat}{ds:List Nat}(h:EI l n j dl ds):
  (run (plain l) ds).n+((((run (plain l) ds).i+dl) / ((run (plain l) ds).pts.length+1):Nat):Int)=n/\((run (plain l) ds).i+dl) % ((run (plain l) ds).pts.length+1)=cnt l n j:=by
 have hc:=IW l n j;have he:=h.eq;have hle:=h.le;rw[h.pts];generalize (run (plain l) ds).n=m at *;generalize (run (plain l) ds).i=i at *;generalize (had l n j).length=p at *;generalize cnt l n j=c at *;obtain⟨u,rfl⟩:∃ u:Nat,n=m+u:=⟨(n - m).toNat,by omega⟩
 have e:i+dl=c+(p+1) * u:=by
  have:((i+dl:Nat):Int)=((c+(p+1) * u:Nat):Int):=by
   push_cast
   have:(m+(u:Int)) * ((p:Int)+1)=m * ((p:Int)+1)+((p:Int)+1) * u:=by rw[Int.add_mul,Int.mul_comm (u:Int)]
   omega
  exact_mod_cast this
 rw[e,Nat.add_mul_div_left _ _ (by omega),Nat.add_mul_mod_self_left,Nat.div_eq_of_lt (by omega),Nat.mod_eq_of_lt (by omega),zero_add];exact⟨rfl,rfl⟩
theorem EI.put{l:List Int}{n:Int}{j dl:Nat}{ds:List Nat}(h:EI l n j dl ds)(hj:j<l.length)(hx:l[j]?.getD 0=n):EI l n (j+1) 0 (dl::ds):=by
 obtain⟨e1,e2⟩:=h.split;have hp:=h.pts;have hh:had l n (j+1)=(l.take j).filter (fun x=>decide (x<=n))++n::(l.drop (j+1)).filter (fun x=>decide (x<n)):=by unfold had;rw[bT l j hj,filter_append,hx];simp
 have hh0:had l n j=(l.take j).filter (fun x=>decide (x<=n))++(l.drop (j+1)).filter (fun x=>decide (x<n)):=by unfold had;rw[mb l j hj,hx];simp
 have hc:cnt l n (j+1)=cnt l n j+1:=by unfold cnt;rw[bT l j hj,filter_append,hx];simp
 have rn':(run (plain l) (dl::ds)).n=n:=e1;have ri':(run (plain l) (dl::ds)).i=cnt l n j+1:=by show _ % _+1=_;rw[e2]
 refine⟨?_,by rw[rn'];exact Int.le_refl _,by rw[rn',ri',hc];push_cast;omega⟩;show(run (plain l) ds).pts.take _++_::(run (plain l) ds).pts.drop _=_;rw[e1,e2,hp,hh,hh0];have ec:cnt l n j=((l.take j).filter (fun x=>decide (x<=n))).length:=rfl;rw[ec,List.take_left,drop_left]
theorem EI.pass{l:List Int}{n:Int}{dl:Nat}{ds:List Nat}(h:EI l n l.length dl ds):EI l (n+1) 0 (dl+1) ds:=by
 have e:had l (n+1) 0=had l n l.length:=by unfold had;simp;exact List.filter_congr (fun x _=>by simp;omega)
 have ec:cnt l n l.length=(had l n l.length).length:=by unfold had cnt;simp
 refine⟨by rw[e];exact h.pts,by have:=h.le;omega,?_⟩;have:=h.eq;rw[e];rw[ec]at this;rw[show cnt l (n+1) 0=0 by simp[cnt]];have e2:(n+1) * (((had l n l.length).length:Int)+1)=n * (((had l n l.length).length:Int)+1)+(had l n l.length).length+1:=by rw[Int.add_mul];omega
 push_cast at *
 omega
theorem EI.jump{l:List Int}{n m:Int}{dl:Nat}{ds:List Nat}(h:EI l n 0 dl ds)(hm:n<=m)(hno:∀ x∈l,¬ (n<=x/\x<m)):
  ∀ D:Nat,(D:Int)=dl+(m - n) * ((had l n 0).length+1)->EI l m 0 D ds:=by
 intro D hD;have e:had l m 0=had l n 0:=by unfold had;simp;exact List.filter_congr (fun x hx=>by have:=hno x hx;simp;omega)
 refine⟨by rw[e];exact h.pts,by have:=h.le;omega,?_⟩;have:=h.eq;rw[e,hD];rw[show cnt l n 0=0 by simp[cnt]]at this;rw[show cnt l m 0=0 by simp[cnt]];rw[Int.sub_mul];omega
theorem EI.fin{l:List Int}{n:Int}{dl:Nat}{ds:List Nat}(h:EI l n 0 dl ds)(hl:l.length<=(had l n 0).length):(run (plain l) ds).pts=l:=by
 rw[h.pts];have e:had l n 0=l.filter fun x=>decide (x<n):=by simp[had]
 rw[e]at hl ⊢;have:(l.filter fun x=>decide (x<n)).length=l.length:=by have:=length_filter_le (fun x=>decide (x<n)) l;omega
 exact(List.filter_sublist (p:=fun x=>decide (x<n)) (l:=l)).eq_of_length this
theorem EI.left{l:List Int}{n:Int}{dl:Nat}{ds:List Nat}(hl:(had l n 0).length<l.length):∃ x∈l,n<=x:=by
 apply Classical.byContradiction;intro hno;have e:had l n 0=l:=by simp only[had,List.take_zero,List.filter_nil,nil_append,List.drop_zero];rw[List.filter_eq_self];intro x hx;have:¬ n<=x:=fun hc=>hno ⟨x,hx,hc⟩;simp;omega
 rw[e]at hl;omega
theorem EI.bound{l:List Int}{n:Int}{j dl:Nat}{ds:List Nat}(h:EI l n j dl ds)(hn:n<=1114112)(hl:l.length<=63):dl<=71303231:=by have h1:=h.eq;have hc:=IW l n j;have hh:=Ip l n j;have h128:=zM (plain l) ds;generalize (run (plain l) ds).n=m at *;generalize (run (plain l) ds).i=i at *;generalize (had l n j).length=p at *;have a:n * ((p:Int)+1)<=1114112 * ((p:Int)+1):=Int.mul_le_mul_of_nonneg_right hn (by omega);have b:0<=m * ((p:Int)+1):=Int.mul_nonneg (by omega) (by omega);omega
def Enc(l T:List Int):Prop:=∃ ds,T=hd (plain l)++tx (plain l).length ds/\(run (plain l) ds).pts=l
theorem Enc.one{l T T':List Int}(h:Enc l T)(h':Enc l T'):T=T':=by obtain⟨ds,rfl,e⟩:=h;obtain⟨es,rfl,e'⟩:=h';rw[zO (plain l) (oD l) ds es (e.trans e'.symm)]
open Go.RowKit U
theorem jQ(A K:Nat)(h:455<A):iB A K=iB (A / 35) (K+36):=by rw[vJ,if_pos h]
theorem jR(A K:Nat)(h:¬ 455<A):iB A K=K+36 * A / (A+38):=by rw[vJ,if_neg h]
theorem mP(d p k:Nat):(d:Int) / (k:Int) / (p:Int)=((d / k / p:Nat):Int):=by push_cast;rfl
theorem rT(d p:Nat)(first:Bool)(hd:d<=1099511627776)(hp:1<=p)(hp2:p<=9223372036854775807)(w:World):
  Calls prog 281 #[.int .i64 d,.int .i64 p,.bool first] w fun e w'=>e=.returned (.int .i64 (adapt d p first))/\w'=w:=by
 go_enter func281,ntmps281;cases first
 ·have H:Hid (adapt d p false=iB (d / 2+d / 2 / p) 0):=rfl;have b1:d / 2 / p<=d / 2:=div_le_self _ _;have q:(d:Int) / 2 / (p:Int)=((d / 2 / p:Nat):Int):=mP d p 2;have q0:0<=(d:Int) / 2 / (p:Int):=by rw[q];exact Int.natCast_nonneg _
  have q1:(d:Int) / 2 / (p:Int)<=1099511627776:=by rw[q];generalize d / 2 / p=z at *;omega
  clear q;have Q:Hid ((d:Int) / 2 / (p:Int)=((d / 2 / p:Nat):Int)):=mP d p 2;go_wp2
  go_loop [0,7] (fun a k=>∃(A K:Nat),a=.int .i64 A/\k=.int .i64 K/\A<=2199023255552/\K+A<=2199023255552/\Hid (adapt d p false=iB A K)) (fun a _=>(intOf a).toNat)
  case atStart=>exact⟨d / 2+d / 2 / p,0,by first | rfl | (congr 1;done) | (congr 1;have:=Q.out;push_cast;omega),rfl,by omega,by omega,H⟩
  case round =>
   obtain⟨A,K,rfl,rfl,h1,h2,h3⟩:=hrel;have c1:=div_le_self (36 * A) (A+38);have c0:0<=36 * (A:Int) / ((A:Int)+38):=Int.ediv_nonneg (by omega) (by omega)
   have c2:36 * (A:Int) / ((A:Int)+38)<=36 * 2199023255552:=by
    have:36 * (A:Int) / ((A:Int)+38)=((36 * A / (A+38):Nat):Int):=by push_cast;rfl
    omega
   by_cases hA:455<A
   ·go_wp2;refine⟨⟨A / 35,K+36,by go_num,by go_num,by omega,by omega,h3.out.trans (jQ A K hA)⟩,?_⟩;simp[intOf];omega
   ·go_wp2;go_ret;refine⟨dG ?_,rfl⟩;rw[h3.out,jR A K hA]
    push_cast;rfl
 ·have H:Hid (adapt d p true=iB (d / 700+d / 700 / p) 0):=rfl;have b1:d / 700 / p<=d / 700:=div_le_self _ _;have q:(d:Int) / 700 / (p:Int)=((d / 700 / p:Nat):Int):=mP d p 700;have q0:0<=(d:Int) / 700 / (p:Int):=by rw[q];exact Int.natCast_nonneg _
  have q1:(d:Int) / 700 / (p:Int)<=1099511627776:=by rw[q];generalize d / 700 / p=z at *;omega
  clear q;have Q:Hid ((d:Int) / 700 / (p:Int)=((d / 700 / p:Nat):Int)):=mP d p 700;go_wp2
  go_loop [0,7] (fun a k=>∃(A K:Nat),a=.int .i64 A/\k=.int .i64 K/\A<=2199023255552/\K+A<=2199023255552/\Hid (adapt d p true=iB A K)) (fun a _=>(intOf a).toNat)
  case atStart=>exact⟨d / 700+d / 700 / p,0,by first | rfl | (congr 1;done) | (congr 1;have:=Q.out;push_cast;omega),rfl,by omega,by omega,H⟩
  case round =>
   obtain⟨A,K,rfl,rfl,h1,h2,h3⟩:=hrel;have c1:=div_le_self (36 * A) (A+38);have c0:0<=36 * (A:Int) / ((A:Int)+38):=Int.ediv_nonneg (by omega) (by omega)
   have c2:36 * (A:Int) / ((A:Int)+38)<=36 * 2199023255552:=by
    have:36 * (A:Int) / ((A:Int)+38)=((36 * A / (A+38):Nat):Int):=by push_cast;rfl
    omega
   by_cases hA:455<A
   ·go_wp2;refine⟨⟨A / 35,K+36,by go_num,by go_num,by omega,by omega,h3.out.trans (jQ A K hA)⟩,?_⟩;simp[intOf];omega
   ·go_wp2;go_ret;refine⟨dG ?_,rfl⟩;rw[h3.out,jR A K hA]
    push_cast;rfl
theorem kg(k b:Nat)(hk:k<=1099511627776)(hb:b<=1099511627776)(w:World):
  Calls prog 287 #[.int .i64 k,.int .i64 b] w fun e w'=>e=.returned (.int .i64 (thr k b))/\w'=w:=by
 go_enter func287,ntmps287;go_wp2;all_goals (go_ret;exact⟨dG (by unfold thr;(repeat' split) <;> omega),rfl⟩)
theorem uE(d:Nat)(hd:d<36)(w:World):
  Calls prog 288 #[.int .i64 d] w fun e w'=>e=.returned (.int .u8 (sgn d))/\w'=w:=by
 go_enter func288,ntmps288;go_wp2;all_goals (go_ret;exact⟨dG (by unfold sgn;(repeat' split) <;> omega),rfl⟩)
theorem MX(c:Int)(h:dg c=none):¬ (97<=c/\c<=122)/\¬ (65<=c/\c<=90)/\¬ (48<=c/\c<=57):=by unfold dg at h;(repeat' split at h) <;> first | (cases h;done) | exact⟨by assumption,by assumption,by assumption⟩
theorem MW(c:Int)(d:Nat)(h:dg c=some d):(97<=c/\c<=122/\(d:Int)=c - 97)\/(65<=c/\c<=90/\(d:Int)=c - 65)\/(48<=c/\c<=57/\(d:Int)=c - 22):=by unfold dg at h;(repeat' split at h) <;> first | (cases h;done) | (obtain rfl:=Option.some.inj h;omega)
theorem yP(c:Int)(h0:0<=c)(h1:c<=255)(h:dg c=none)(w:World):
  Calls prog 302 #[.int .u8 c] w fun e w'=>e=.returned (.tuple #[.int .i64 0,.bool false])/\w'=w:=by
 obtain⟨a1,a2,a3⟩:=MX c h;go_enter func302,ntmps302;go_wp2;all_goals first | (exfalso;omega) | (go_ret2;exact⟨rfl,rfl⟩)
theorem yO(c:Int)(d:Nat)(h:dg c=some d)(w:World):
  Calls prog 302 #[.int .u8 c] w fun e w'=>e=.returned (.tuple #[.int .i64 d,.bool true])/\w'=w:=by
 have H:=MW c d h;have e:Hid (c - 48+26=c - 22):=by show c - 48+26=c - 22;omega
 clear h;go_enter func302,ntmps302;rcases H with⟨a1,a2,a3⟩ | ⟨a1,a2,a3⟩ | ⟨a1,a2,a3⟩
 all_goals (rw[a3];clear a3;go_wp2;go_ret2;first | exact⟨rfl,rfl⟩ | (rw[e.out];exact⟨rfl,rfl⟩))
end P
namespace U
end U
namespace P
open Go.RowKit U
theorem hid{p:Prop}(h:p):Hid p:=h
theorem xW(l:List Int)(k:Nat)(h:k<l.length):plain (l.take (k+1))=plain (l.take k)++(if l[k]?.getD 0<128 then [l[k]?.getD 0] else []):=by unfold plain;rw[bT l k h,filter_append];congr 1;by_cases hx:l[k]?.getD 0<128 <;> simp[hx]
theorem qV(l:List Int):(plain l).length<=l.length:=length_filter_le _ _
theorem mo(v:Value)(l:List Int)(hlen:l.length<=1024)(hnn:∀ x∈l,0<=x)(w:World)(hv:aB w v l):
  Calls prog 250 #[v] w fun e W'=>∃ v',e=.returned v'/\W'.ownsRow w.heap.size 5 1 v' (plain l).length ((plain l).map (Value.int .u8))/\Below w.heap.size w W':=by
 obtain⟨i0,hi,hz0,hz1,hz2⟩:=info_parts Tryz.info5;rcases hv with⟨rfl,a,cap,rfl⟩ | ⟨hp,b,off,cap,rfl,hc⟩
 ·go_enter func250,ntmps250;go_wp2_with fail;refine wp_loop_rounds 1 ?_;rw[rounds_succ];go_wp2;go_ret;exact⟨_,rfl,World.ownsRow_nil _ _ _ _,Below.refl _ _⟩
 ·have hb:b<w.heap.size:=lt_of_cell (hc 0 hp);go_enter func250,ntmps250;go_wp2_with fail
  go_loopw [3,8] (fun v i wr=>∃ k:Nat,k<=l.length/\i=.int .i64 k/\wr.ownsRow w.heap.size 5 1 v (plain (l.take k)).length ((plain (l.take k)).map (Value.int .u8))/\Below w.heap.size w wr)
   (fun _ i _=>l.length - (intOf i).toNat)
  case atStart=>exact⟨0,zero_le _,rfl,World.ownsRow_nil _ _ _ _,Below.refl _ _⟩
  case round =>
   obtain⟨k,hk,rfl,aq,hB⟩:=hrel;by_cases hlt:k<l.length
   ·have hck:wr.cell? ⟨b,off+k,none⟩=some (.int .i32 (l[k]?.getD 0)):=(hB.cell (p:=⟨b,off+k,none⟩) hb).trans (hc k hlt);have hpl:=qV (l.take k);have htl:(l.take k).length<=k:=List.length_take_le _ _;have hx0:=hnn (l[k]?.getD 0) (by rw[getElem?_eq_getElem hlt];exact getElem_mem _);have HP:=hid (xW l k hlt);obtain⟨m,hm⟩:∃ m,m=(plain (l.take k)).length:=⟨_,rfl⟩;have HM:=hid hm;have hm2:m<=1024:=by omega
    rw[<-hm]at aq;clear hm hpl htl hc hnn;obtain⟨c,hcc⟩:∃ c,c=l[k]?.getD 0:=⟨_,rfl⟩;rw[<-hcc]at hck hx0 HP;clear hcc;by_cases hx:c<128
    ·go_wp2_with(at_builtin;refine wpList_append_own _ rfl _ _ 36 rfl w.heap.size 5 i0 (.int .u8 0) 1 1 underlying36 hi hz0 hz1 hz2 rfl (by decide) _ _ _ rfl (aq.alloc _) ⟨wr.heap.size,0,none⟩ 1 1 [.int .u8 c] rfl rfl (ee _ _ _) (by simp[Value.oneCell']) (by unfold maxLen;omega) (by omega) (by have:=hB.size;simp;omega) ?_;intro v' w1 hown' hgrow _)
     go_roundw
     case rel =>
      have e:plain (l.take (k+1))=plain (l.take k)++[c]:=by rw[HP.out,if_pos hx]
      refine⟨k+1,by omega,by go_num,?_,?_⟩
      ·rw[e,length_append,<-HM.out,map_append];exact hown'
      ·exact below_grow (w1:=wr.alloc (.cells #[.int .u8 c] 5)) (hB.alloc hB.size _) (le_trans hB.size (by simp)) (aq.alloc _) hgrow
     case measure=>simp[intOf];omega
    ·go_wp2
     go_roundw
     case rel =>
      have e:plain (l.take (k+1))=plain (l.take k):=by rw[HP.out,if_neg hx,append_nil]
      refine⟨k+1,by omega,by go_num,?_,hB⟩;rw[e,<-HM.out];exact aq
     case measure=>simp[intOf];omega
   ·have hkk:k=l.length:=by omega
    rw[hkk,take_length]at aq;go_wp2;go_ret;exact⟨_,rfl,aq,hB⟩
def tV(l:List Int)(n m:Int):Prop:=m∈l/\n<=m/\∀ x∈l,¬ (n<=x/\x<m)
def lst(l:List Int)(n:Int):Int:=(l.filter fun x=>decide (n<=x)).foldl min 1114111
theorem foldl_min(l:List Int):∀ a:Int,l.foldl min a<=a/\(∀ x∈l,l.foldl min a<=x)/\(l.foldl min a=a\/l.foldl min a∈l):=by
 induction l with
 | nil=>intro a;simp
 | cons b l ih =>
  intro a;obtain⟨h1,h2,h3⟩:=ih (min a b);rw[foldl_cons];refine⟨by omega,fun x hx=>?_,?_⟩
  ·rcases List.mem_cons.mp hx with rfl | hx
   ·omega
   ·exact h2 x hx
  ·rcases h3 with h3 | h3
   ·by_cases hab:a<=b
    ·left;omega
    ·right;rw[h3,show min a b=b by omega];simp
   ·right;simp[h3]
theorem BS(l:List Int)(n:Int)(hl:∀ x∈l,x<=1114111)(hex:∃ x∈l,n<=x):tV l n (lst l n):=by
 obtain⟨h1,h2,h3⟩:=foldl_min (l.filter fun x=>decide (n<=x)) 1114111;change lst l n<=1114111 at h1
 have mem:lst l n∈l.filter fun x=>decide (n<=x):=by
  rcases h3 with h3 | h3
  ·obtain⟨x,hx,hnx⟩:=hex;have hxm:x∈l.filter fun x=>decide (n<=x):=List.mem_filter.mpr ⟨hx,by simpa using hnx⟩;have:=h2 x hxm;have:=hl x hx;have e:lst l n=x:=by unfold lst;omega
   rw[e];exact hxm
  ·exact h3
 obtain⟨m1,m2⟩:=List.mem_filter.mp mem;refine⟨m1,by simpa using m2,fun x hx hb=>?_⟩;have:=h2 x (List.mem_filter.mpr ⟨hx,by simpa using hb.1⟩);have e:lst l n=(l.filter fun x=>decide (n<=x)).foldl min 1114111:=rfl;omega
theorem Hg(l:List Int)(n:Int)(k:Nat)(h:k<l.length):lst (l.take (k+1)) n=if n<=l[k]?.getD 0 then min (lst (l.take k) n) (l[k]?.getD 0) else lst (l.take k) n:=by unfold lst;rw[bT l k h,filter_append,List.foldl_append];by_cases hx:n<=l[k]?.getD 0 <;> simp[hx]
theorem BW(b off cap:Nat)(l:List Int)(n:Int)(hlen:l.length<=1024)(hp:0<l.length)(w:World)(hc:∀ j,j<l.length->w.cell? ⟨b,off+j,none⟩=some (.int .i32 (l[j]?.getD 0))):
  Calls prog 252 #[.slice (some ⟨b,off,none⟩) l.length cap,.int .i32 n] w fun e w'=>e=.returned (.int .i32 (lst l n))/\w'=w:=by
 go_enter func252,ntmps252;go_wp2_with fail
 go_loop [5,10] (fun m i=>∃ k:Nat,k<=l.length/\i=.int .i64 k/\m=.int .i32 (lst (l.take k) n)) (fun _ i=>l.length - (intOf i).toNat)
 case atStart=>exact⟨0,zero_le _,rfl,rfl⟩
 case round =>
  obtain⟨k,hk,rfl,rfl⟩:=hrel;by_cases hlt:k<l.length
  ·have hck:=hc k hlt;have HP:=hid (Hg l n k hlt);obtain⟨c,hcc⟩:∃ c,c=l[k]?.getD 0:=⟨_,rfl⟩;rw[<-hcc]at hck HP;clear hcc hc;by_cases hx:n<=c
   ·go_wp2;refine⟨⟨k+1,by omega,by go_num,?_⟩,by simp[intOf];omega⟩;rw[HP.out,if_pos hx];all_goals (congr 1;split <;> omega)
   ·go_wp2;refine⟨⟨k+1,by omega,by go_num,?_⟩,by simp[intOf];omega⟩;rw[HP.out,if_neg hx]
  ·have hkk:k=l.length:=by omega
   subst hkk;go_wp2;go_ret;first | exact⟨rfl,rfl⟩ | (rw[take_length];exact⟨rfl,rfl⟩)
structure Pen(base:Nat)(w:World)(Bb Bp Bn Bf Bo:Nat)(bias pts:Nat)(first:Bool)(v:Value)(k:Nat)(xs:List Value):Prop where
 b:Boxed w Bb 3 (.int .i64 bias)
 p:Boxed w Bp 266 (.pointer (some ⟨Bo,0,none⟩))
 n:Boxed w Bn 3 (.int .i64 pts)
 f:Boxed w Bf 4 (.bool first)
 o:Boxed w Bo 36 v
 row:w.ownsRow base 5 1 v k xs
 ne:Bb≠Bn
 hb:base<=Bb
 hn:base<=Bn
 hf:base<=Bf
 ho:base<=Bo
 sz:base<=w.heap.size
theorem bY{W:World}{B C:Nat}{t u:TypeId}{x y:Value}(h:Boxed W B t x)(k:Boxed W C u y)(hne:t≠u):B≠C:=by intro e;unfold Boxed at h k;rw[e,k]at h;simp at h;exact hne h.2.symm
theorem aE{W:World}{B C:Nat}{t:TypeId}{x:Value}(h:Boxed W B t x)(hne:B≠C)(y:Value):Boxed (W.setCell ⟨C,0,none⟩ y) B t x :=
 h.kept (grownBy_setCell' W C y) (by simpa using hne)
theorem Pen.add{base:Nat}{w w0 w1:World}{Bb Bp Bn Bf Bo bias pts:Nat}{first:Bool}{v v':Value}{k:Nat}{xs ys:List Value}(h:Pen base w Bb Bp Bn Bf Bo bias pts first v k xs)(ob:Obj)(hw0:w0=(w.alloc ob).drew)
  (hown:w1.ownsRow base 5 1 v' (k+1) ys) (hg:w0.grownBy w1 v.ownBlock) :
  Pen base (w1.setCell ⟨Bo,0,none⟩ v') Bb Bp Bn Bf Bo bias pts first v' (k+1) ys/\Below base w (w1.setCell ⟨Bo,0,none⟩ v'):=by
 have g:w.grownBy w1 v.ownBlock:=by subst hw0;have g0:=World.grownBy_alloc w ob none;exact dP (⟨g0.os,g0.tape,g0.output,g0.size,g0.block⟩:w.grownBy (w.alloc ob).drew none) hg
 have ho:=gY (t:=36) (e:=5) (n₀:=base) h.o (by decide) h.row h.sz h.ho hown g
 have kb:∀ {B:Nat} {t:TypeId} {x:Value},Boxed w B t x->t≠5->t≠36->Boxed (w1.setCell ⟨Bo,0,none⟩ v') B t x:=fun hx h5 h34 =>
  aE (hx.kept g (hx.not_row h5 h.row)) (bY hx h.o h34) v'
 exact⟨⟨kb h.b (by decide) (by decide),kb h.p (by decide) (by decide),kb h.n (by decide) (by decide),kb h.f (by decide) (by decide),ho.2.1,ho.2.2.1,h.ne,h.hb,h.hn,h.hf,h.ho,le_trans h.sz ho.2.2.2.2.size⟩,ho.2.2.2.2⟩
theorem su{w:World}{base C:Nat}{t:TypeId}{x v:Value}{k:Nat}{xs:List Value}(h:w.ownsRow base 5 1 v k xs)(hx:Boxed w C t x)(hte:t≠5)(y:Value):(w.setCell ⟨C,0,none⟩ y).ownsRow base 5 1 v k xs :=
 h.kept (grownBy_setCell' w C y) (.inr (hx.not_row hte h).symm)
theorem Pen.fin{base:Nat}{w:World}{Bb Bp Bn Bf Bo bias pts:Nat}{first:Bool}{v:Value}{k:Nat}{xs:List Value}(h:Pen base w Bb Bp Bn Bf Bo bias pts first v k xs)(A:Nat):
  Pen base (((w.setCell ⟨Bn,0,none⟩ (.int .i64 ((pts:Int)+1))).setCell ⟨Bb,0,none⟩ (.int .i64 A)).setCell ⟨Bf,0,none⟩ (.bool false)) Bb Bp Bn Bf Bo A (pts+1) false v k xs /\
   Below base w (((w.setCell ⟨Bn,0,none⟩ (.int .i64 ((pts:Int)+1))).setCell ⟨Bb,0,none⟩ (.int .i64 A)).setCell ⟨Bf,0,none⟩ (.bool false)):=by
 have fb:=bY h.f h.b (by decide);have fn:=bY h.f h.n (by decide);have pb:=bY h.p h.b (by decide);have pn:=bY h.p h.n (by decide);have pf:=bY h.p h.f (by decide);have ob:=bY h.o h.b (by decide);have on:=bY h.o h.n (by decide);have of:=bY h.o h.f (by decide);have b1:=aE h.b h.ne (.int .i64 ((pts:Int)+1));have n1:=h.n.set (.int .i64 ((pts:Int)+1));have f1:=aE h.f fn (.int .i64 ((pts:Int)+1));have r1:=su h.row h.n (by decide) (.int .i64 ((pts:Int)+1));have f2:=aE f1 fb (.int .i64 A);have r2:=su r1 b1 (by decide) (.int .i64 A);have r3:=su r2 f2 (by decide) (.bool false);refine⟨⟨aE (b1.set _) (fun e=>fb e.symm) _,aE (aE (aE h.p pn _) pb _) pf _,aE (aE n1 (fun e=>h.ne e.symm) _) (fun e=>fn e.symm) _,f2.set _,aE (aE (aE h.o on _) ob _) of _,r3,h.ne,h.hb,h.hn,h.hf,h.ho,?_⟩,?_⟩
 ·simpa using h.sz
 ·exact(((Below.refl base w).setCell (p:=⟨Bn,0,none⟩) h.hn _).setCell (p:=⟨Bb,0,none⟩) h.hb _).setCell (p:=⟨Bf,0,none⟩) h.hf _
theorem JT(b k q:Nat)(h:q<thr k b):wn b k q=[sgn q]:=by rw[kd,if_pos h]
theorem JS(b k q:Nat)(h:¬ q<thr k b):wn b k q=sgn (thr k b+(q - thr k b) % (36 - thr k b))::wn b (k+36) ((q - thr k b) / (36 - thr k b)):=by rw[kd,if_neg h]
theorem qO{P:Program}{ops:Array Oper}{o:Oper}{a:Act}{w:World}{K:Act->World->Prop}{Q:Exit->Act->World->Prop}{E:Prop}
  (hg:o.guard=none) (f:Nat) (s:Operand) (t:TypeId) (hop:o.op=Op.call { callee:=Callee.value (Operand.func f),args:=#[s],argTypes:=#[t] })
  (v r:Value) (hs:a.eval s=v) (hen:(callFunc f #[v]).run P w=.ok (.enter f #[v]) w) (hc:Calls P f #[v] w fun e w'=>e=.returned r/\w'=w) (hK:K (a.put o.dst r) w) :
  if Region.wanted o (yielded ops a.tmps)=true then Oper.wp P o a w K Q else E:=by
 have hw:Region.wanted o (yielded ops a.tmps)=true:=by simp[Region.wanted,hg]
 rw[if_pos hw];unfold Oper.wp;have e:(execOp a.eval o).run P w=.ok (.enter f #[v]) w:=by have hf:a.eval (Operand.func f)=.func (.func f) #[] #[]:=rfl;simp[execOp,hop,resolve,invoke,hs,hf,Deferred.ofValue];exact hen
 rw[e,Oper.upon_enter];refine hc.mono ?_;rintro e w' ⟨rfl,rfl⟩;exact hK
theorem KV(base Bb Bp Bn Bf Bo bias pts:Nat)(first:Bool)(v:Value)(k:Nat)(xs:List Int)(D:Nat)(hD:D<=71303231)(hbias:bias<=1000000000)(hpts:pts<=1000000)(hk:k<=10000000000000)(w:World)
  (h:Pen base w Bb Bp Bn Bf Bo bias pts first v k (xs.map (Value.int .u8))) :
  Calls prog 286 #[.int .i64 D,.pointer (some ⟨Bb,0,none⟩),.pointer (some ⟨Bp,0,none⟩),.pointer (some ⟨Bn,0,none⟩),.pointer (some ⟨Bf,0,none⟩)] w
   fun e W'=>e=.returned (.tuple #[])/\(∃ v',Pen base W' Bb Bp Bn Bf Bo (adapt D (pts+1) first) (pts+1) false v' (k+(wn bias 36 D).length) ((xs++wn bias 36 D).map (Value.int .u8)))/\Below base w W':=by
 obtain⟨i0,hi0,hz0,hz1,hz2⟩:=info_parts Tryz.info5;have cb:=h.b.cell;have HH:=hid h;clear h;go_enter func286,ntmps286;go_wp2_with(go_at_call 287;refine(kg 36 bias (by omega) (by omega) _).mono ?_;rintro e w' ⟨rfl,hw'⟩;obtain rfl:=hw'.symm)
 go_loopw [6,7,8] (fun q kk t wr=>∃(Q K:Nat) (v:Value) (acc:List Int),q=.int .i64 Q/\kk=.int .i64 K/\t=.int .i64 (thr K bias)/\Q<=71303231/\K+Q<=71303267+36 * acc.length/\acc.length+Q<=71303231/\Hid (acc++wn bias K Q=wn bias 36 D) /\
     Pen base wr Bb Bp Bn Bf Bo bias pts first v (k+acc.length) ((xs++acc).map (Value.int .u8))/\Below base w wr)
  (fun q _ _ _=>(intOf q).toNat)
 case atStart=>exact⟨D,36,v,[],rfl,rfl,rfl,hD,by simp;omega,by simp;omega,rfl,by simpa using HH.out,Below.refl _ _⟩
 case round =>
  obtain⟨Q,K,v,acc,rfl,rfl,htt,h1,h2,h3,h4,h5,hB⟩:=hrel;have t1:=fH K bias;have t2:=jD K bias;obtain⟨t,ht⟩:=Ex' (thr K bias);rw[ht]at htt t1 t2;have HT:=hid ht;clear ht;subst htt;have cb:=h5.b.cell;have cp:=h5.p.cell;have co:=h5.o.cell;have fo:=h5.o.frozen;have aq:=h5.row;have hsz:=h5.sz;have np:=h5.p.not_row (by decide) h5.row;have no:=h5.o.not_row (by decide) h5.row;have lp:=h5.p.lt;have hpo:Bp≠Bo:=by intro e;have h1:=h5.p;have h2:=h5.o;unfold Boxed at h1 h2;rw[e,h2]at h1;simp at h1
  have hop:Bo≠Bp:=fun e=>hpo e.symm;have lo:=h5.o.lt;have H5:=hid h5;clear h5;by_cases hq:Q<t
  ·have hqz:¬ ((t:Int)<=(Q:Int)):=by omega
   have hs1:=sq Q (by omega);obtain⟨y,hy⟩:∃ y,y=sgn Q:=⟨_,rfl⟩;rw[<-hy]at hs1;have HY:=hid hy;clear hy
   go_upto_region 7 with fail
   go_cut [] from 43 (fun wc=>∃ v',Pen base wc Bb Bp Bn Bf Bo bias pts first v' (k+acc.length+1) ((xs++acc).map (Value.int .u8)++[.int .u8 y])/\Below base wr wc)
   case first =>
    go_region_law (first
      | (refine qO rfl 288 (.tmp 47) 2 rfl (.int .i64 Q) (.int .u8 y) (by simp[Act.eval,Act.put]) (enters_of func288 (by kernel_rfl) rfl _ _) (by rw[HY.out];exact uE Q (by omega) _) ?_)
      | (refine step_append_lies _ (by rfl) _ _ _ (by rfl) base 5 i0 _ 1 1 underlying36 hi0 hz0 hz1 hz2 rfl (by omega) _ (k+acc.length) ((xs++acc).map (Value.int .u8)) (by rfl) ((aq.alloc _).drew)
          ⟨wr.heap.size,0,none⟩ 1 1 [.int .u8 y] (by rfl) (by rfl) (World.news_of_block (cs:=#[.int .u8 y]) (t:=5) (fr:=(0,0)) (heap_alloc_new wr _)) (by simp[Value.oneCell'])
          (by omega) (by unfold maxLen;omega) (by omega) (by simp;omega) (wr.heap.size+1) (by simp) ?_;intro gg cap' w1 hown1 hgrow hat hlt1
         have cp1:w1.cell? ⟨Bp,0,none⟩=some (.pointer (some ⟨Bo,0,none⟩)):=by rw[hgrow.cell_far ⟨Bp,0,none⟩ (by simp;omega) np];simpa using((H5.out.p.alloc _).cell:(wr.alloc (.cells #[.int .u8 y] 5)).cell? ⟨Bp,0,none⟩=some _)
         have c1:w1.cell? ⟨Bo,0,none⟩=some v:=by rw[hgrow.cell_far ⟨Bo,0,none⟩ (by simp;omega) no];simpa using((H5.out.o.alloc _).cell:(wr.alloc (.cells #[.int .u8 y] 5)).cell? ⟨Bo,0,none⟩=some v)
         have f1:w1.frozen? ⟨Bo,0,none⟩=false:=by rw[hgrow.frozen_far ⟨Bo,0,none⟩ (by simp;omega) no];simpa using((H5.out.o.alloc _).frozen:(wr.alloc (.cells #[.int .u8 y] 5)).frozen? ⟨Bo,0,none⟩=false)))
    all_goals (go_wp2_with fail;go_meet;case rel=>exact⟨_,H5.out.add _ rfl hown1 hgrow⟩)
   case rest =>
    obtain⟨v',hP,hB'⟩:=hcut;have HP:=hid hP;have cB:=hP.b.cell;have cN:=hP.n.cell;have cF:=hP.f.cell;have fB:=hP.b.frozen;have fN:=hP.n.frozen;have fF:=hP.f.frozen;have n1:=hP.ne;have n2:Bn≠Bb:=fun e=>n1 e.symm;have n3:=bY hP.f hP.n (by decide);have n4:=bY hP.n hP.f (by decide);have n5:=bY hP.f hP.b (by decide);have n6:=bY hP.b hP.f (by decide);clear hP aq co cp fo np no lp lo cb;go_wp2_with(go_at_call 281;refine(show Calls prog 281 #[.int .i64 D,.int .i64 ((pts:Int)+1),.bool first] _ _ from rT D (pts+1) first (by omega) (by omega) (by omega) _).mono ?_;rintro e w' ⟨rfl,rfl⟩)
    go_end0
    have e:wn bias 36 D=acc++[y]:=by rw[<-h4.out,JT bias K Q (by rw[HT.out];exact hq),HY.out]
    obtain⟨P1,P2⟩:=HP.out.fin (adapt D (pts+1) first);refine⟨rfl,⟨v',?_⟩,(hB.trans (hB'.mono (le_refl _))).trans P2⟩;rw[e,length_append,<-Nat.add_assoc,<-append_assoc,map_append];exact P1
  ·have hqz:(t:Int)<=(Q:Int):=by omega
   have m0:0<=((Q:Int) - t) % (36 - t):=Int.emod_nonneg _ (by omega);have m1:((Q:Int) - t) % (36 - t)<36 - t:=Int.emod_lt_of_pos _ (by omega);obtain⟨x,hx⟩:∃ x:Nat,(x:Int)=(t:Int)+((Q:Int) - t) % (36 - t):=⟨((t:Int)+((Q:Int) - t) % (36 - t)).toNat,by omega⟩;have hx36:x<36:=by omega
   have hxe:Hid ((t:Int)+((Q:Int) - t) % (36 - t)=(x:Int)):=hx.symm;clear hx;have hs1:=sq x hx36;obtain⟨y,hy⟩:∃ y,y=sgn x:=⟨_,rfl⟩;rw[<-hy]at hs1;have HY:=hid hy;clear hy;have r1:IntKind.i64.wrap ((Q:Int) - t)=(Q:Int) - t:=by simp[IntKind.wrap,IntKind.bits,IntKind.signed];omega
   have r2:IntKind.i64.wrap (36 - (t:Int))=36 - (t:Int):=by simp[IntKind.wrap,IntKind.bits,IntKind.signed];omega
   have r3:¬ (36 - (t:Int)=0):=by omega
   have r5:Int.tmod ((Q:Int) - t) (36 - t)=((Q:Int) - t) % (36 - t):=Int.tmod_eq_emod_of_nonneg (by omega);have r7:IntKind.i64.wrap ((t:Int)+((Q:Int) - t) % (36 - t))=(x:Int):=by rw[hxe.out];simp[IntKind.wrap,IntKind.bits,IntKind.signed];omega
   go_upto_region 3 with fail
   go_cut [] from 13 to 42 (fun wc=>∃ v',Pen base wc Bb Bp Bn Bf Bo bias pts first v' (k+acc.length+1) ((xs++acc).map (Value.int .u8)++[.int .u8 y])/\Below base wr wc)
   case first =>
    go_region_law (first
      | (refine qO rfl 288 (.tmp 27) 2 rfl (.int .i64 x) (.int .u8 y) (by simp[Act.eval,Act.put]) (enters_of func288 (by kernel_rfl) rfl _ _) (by rw[HY.out];exact uE x hx36 _) ?_)
      | (refine step_append_lies _ (by rfl) _ _ _ (by rfl) base 5 i0 _ 1 1 underlying36 hi0 hz0 hz1 hz2 rfl (by omega) _ (k+acc.length) ((xs++acc).map (Value.int .u8)) (by rfl) ((aq.alloc _).drew)
          ⟨wr.heap.size,0,none⟩ 1 1 [.int .u8 y] (by rfl) (by rfl) (World.news_of_block (cs:=#[.int .u8 y]) (t:=5) (fr:=(0,0)) (heap_alloc_new wr _)) (by simp[Value.oneCell'])
          (by omega) (by unfold maxLen;omega) (by omega) (by simp;omega) (wr.heap.size+1) (by simp) ?_;intro gg cap' w1 hown1 hgrow hat hlt1
         have cp1:w1.cell? ⟨Bp,0,none⟩=some (.pointer (some ⟨Bo,0,none⟩)):=by rw[hgrow.cell_far ⟨Bp,0,none⟩ (by simp;omega) np];simpa using((H5.out.p.alloc _).cell:(wr.alloc (.cells #[.int .u8 y] 5)).cell? ⟨Bp,0,none⟩=some _)
         have c1:w1.cell? ⟨Bo,0,none⟩=some v:=by rw[hgrow.cell_far ⟨Bo,0,none⟩ (by simp;omega) no];simpa using((H5.out.o.alloc _).cell:(wr.alloc (.cells #[.int .u8 y] 5)).cell? ⟨Bo,0,none⟩=some v)
         have f1:w1.frozen? ⟨Bo,0,none⟩=false:=by rw[hgrow.frozen_far ⟨Bo,0,none⟩ (by simp;omega) no];simpa using((H5.out.o.alloc _).frozen:(wr.alloc (.cells #[.int .u8 y] 5)).frozen? ⟨Bo,0,none⟩=false)))
    all_goals (go_wp2_with fail;go_meet;case rel=>exact⟨_,H5.out.add _ rfl hown1 hgrow⟩)
   case rest =>
    obtain⟨v',hP,hB'⟩:=hcut;have HP:=hid hP;have cB:=hP.b.cell;clear hP aq co cp fo np no lp lo cb r1 r2 r3 r5 r7;go_wp2_with(go_at_call 287;refine(show Calls prog 287 #[.int .i64 ((K:Int)+36),.int .i64 bias] _ _ from kg (K+36) bias (by omega) (by omega) _).mono ?_;rintro e w' ⟨rfl,rfl⟩);have q1:(Q - t) / (36 - t)<=Q - t:=div_le_self _ _;have q2:((Q:Int) - t) / (36 - t)=(((Q - t) / (36 - t):Nat):Int):=by rw[Int.natCast_ediv,ofNat_sub (by omega),ofNat_sub (by omega)];rfl
    go_roundw
    case rel =>
     refine⟨(Q - t) / (36 - t),K+36,v',acc++[y],by rw[q2],by go_num,by go_num,by omega,by rw[length_append];simp only[length_cons,length_nil];omega,by rw[length_append];simp only[length_cons,length_nil];omega,?_,?_,(hB.trans (hB'.mono (le_refl _)))⟩
     ·have e:x=t+(Q - t) % (36 - t):=by
       have:=hxe.out;have q3:((Q:Int) - t) % (36 - t)=(((Q - t) % (36 - t):Nat):Int):=by rw[Int.natCast_emod,ofNat_sub (by omega),ofNat_sub (by omega)];rfl
       omega
      show acc++[y]++wn bias (K+36) ((Q - t) / (36 - t))=wn bias 36 D;rw[<-h4.out,JS bias K Q (by rw[HT.out];exact hq),HT.out,<-e,HY.out,append_assoc];rfl
     ·have:=HP.out;rw[length_append,<-Nat.add_assoc,<-append_assoc,map_append];exact this
    case measure=>simp[intOf];rw[q2];omega
theorem Hh(A K:Nat):iB A K<=K+A+36:=by
 induction A using Nat.strongRecOn generalizing K with
 | ind A ih =>
  by_cases h:455<A
  ·rw[jQ A K h];have:=ih (A / 35) (by omega) (K+36);omega
  ·rw[jR A K h];have:36 * A / (A+38)<=36:=by apply Nat.le_of_lt_succ;rw[Nat.div_lt_iff_lt_mul (by omega)];omega
   omega
theorem xu(d p:Nat)(f:Bool)(hd:d<=100000000000):adapt d p f<=2 * d+36:=by
 unfold adapt;have h1:(if f=true then d / 700 else d / 2)<=d:=by split <;> omega
 have h2:=div_le_self (if f=true then d / 700 else d / 2) p;have:=Hh ((if f=true then d / 700 else d / 2)+(if f=true then d / 700 else d / 2) / p) 0;omega
theorem QP(b k q:Nat):(wn b k q).length<=q+1:=by
 induction q using Nat.strongRecOn generalizing k with
 | ind q ih =>
  rw[kd];split
  ·simp
  ·rename_i h;have h1:=fH k b;have h2:=div_le_self (q - thr k b) (36 - thr k b);have:=ih ((q - thr k b) / (36 - thr k b)) (by omega) (k+36);rw[length_cons];omega
def ups(l:List Int)(n:Int):Nat:=(l.filter fun x=>decide (n<=x)).length
theorem Ea(l:List Int)(n m:Int)(h:tV l n m):ups l (m+1)<ups l n:=by
 obtain⟨h1,h2,_⟩:=h;unfold ups
 have sub:(l.filter fun x=>decide (m+1<=x))=(l.filter fun x=>decide (n<=x)).filter fun x=>decide (m+1<=x):=by
  rw[List.filter_filter];apply List.filter_congr;intro x _;by_cases hx:m+1<=x
  ·simp[hx];omega
  ·simp[hx]
 rw[sub];have hle:=length_filter_le (fun x=>decide (m+1<=x)) (l.filter fun x=>decide (n<=x));rcases Nat.lt_or_ge (List.filter (fun x=>decide (m+1<=x)) (l.filter fun x=>decide (n<=x))).length (l.filter fun x=>decide (n<=x)).length with h | h
 ·exact h
 ·exfalso;have e:=(List.filter_sublist (p:=fun x=>decide (m+1<=x)) (l:=l.filter fun x=>decide (n<=x))).eq_of_length (by omega);have hm:m∈l.filter fun x=>decide (n<=x):=List.mem_filter.mpr ⟨h1,by simpa using h2⟩;rw[<-e]at hm;have:=(List.mem_filter.mp hm).2;simp at this;omega
theorem PW(p:List Int):(hd p).length<=p.length+1:=by unfold hd;split <;> simp
theorem Il(l:List Int)(h0:∀ x∈l,0<=x):∀ c∈hd (plain l),0<=c/\c<128:=by
 intro c hc;unfold hd at hc;split at hc
 ·cases hc
 ·rcases List.mem_append.mp hc with hc | hc
  ·exact⟨h0 c (List.mem_filter.mp hc).1,oD l c hc⟩
  ·simp at hc;omega
theorem Enc.ascii{l T:List Int}(h:Enc l T)(h0:∀ x∈l,0<=x):∀ c∈T,0<=c/\c<128:=by
 obtain⟨ds,rfl,_⟩:=h;intro c hc;rcases List.mem_append.mp hc with hc | hc
 ·exact Il l h0 c hc
 ·have:=nP _ ds c hc;omega
theorem Lj{base:Nat}{w:World}{Bo:Nat}{v:Value}{k:Nat}{xs:List Value}(ho:Boxed w Bo 36 v)(aq:w.ownsRow base 5 1 v k xs)(hb:base<=Bo)(hsz:base<=w.heap.size)(h:Nat):
  Pen base ((((w.alloc (.cells #[.pointer (some ⟨Bo,0,none⟩)] 266)).alloc (.cells #[.int .i64 h] 3)).alloc (.cells #[.int .i64 72] 3)).alloc (.cells #[.bool true] 4)) (w.heap.size+2) w.heap.size (w.heap.size+1) (w.heap.size+3) Bo 72 h true v k xs /\
  Below base w ((((w.alloc (.cells #[.pointer (some ⟨Bo,0,none⟩)] 266)).alloc (.cells #[.int .i64 h] 3)).alloc (.cells #[.int .i64 72] 3)).alloc (.cells #[.bool true] 4)):=by
 have s1:(w.alloc (.cells #[.pointer (some ⟨Bo,0,none⟩)] 266)).heap.size=w.heap.size+1:=by simp
 have s2:((w.alloc (.cells #[.pointer (some ⟨Bo,0,none⟩)] 266)).alloc (.cells #[.int .i64 h] 3)).heap.size=w.heap.size+2:=by simp
 have s3:(((w.alloc (.cells #[.pointer (some ⟨Bo,0,none⟩)] 266)).alloc (.cells #[.int .i64 h] 3)).alloc (.cells #[.int .i64 72] 3)).heap.size=w.heap.size+3:=by simp
 have b0:=Boxed.new w 266 (.pointer (some ⟨Bo,0,none⟩));have b1:=Boxed.new (w.alloc (.cells #[.pointer (some ⟨Bo,0,none⟩)] 266)) 3 (.int .i64 h);have b2:=Boxed.new ((w.alloc (.cells #[.pointer (some ⟨Bo,0,none⟩)] 266)).alloc (.cells #[.int .i64 h] 3)) 3 (.int .i64 72);have b3:=Boxed.new (((w.alloc (.cells #[.pointer (some ⟨Bo,0,none⟩)] 266)).alloc (.cells #[.int .i64 h] 3)).alloc (.cells #[.int .i64 72] 3)) 4 (.bool true);rw[s1]at b1;rw[s2]at b2;rw[s3]at b3
 exact⟨⟨b2.alloc _,((b0.alloc _).alloc _).alloc _,(b1.alloc _).alloc _,b3,(((ho.alloc _).alloc _).alloc _).alloc _,(((aq.alloc _).alloc _).alloc _).alloc _,by omega,by omega,by omega,by omega,hb,by simp;omega⟩,
   ((((Below.refl base w).alloc hsz _).alloc (by simp;omega) _).alloc (by simp;omega) _).alloc (by simp;omega) _⟩
theorem nF(base Bo:Nat)(v:Value)(k h:Nat)(xs:List Value)(w:World)(ho:Boxed w Bo 36 v)(aq:w.ownsRow base 5 1 v k xs)(hb:base<=Bo)(hsz:base<=w.heap.size):
  Calls prog 251 #[.pointer (some ⟨Bo,0,none⟩),.int .i64 h] w fun e W'=>∃ Bb Bp Bn Bf,e=.returned (.func (.func 286) #[] #[.pointer (some ⟨Bb,0,none⟩),.pointer (some ⟨Bp,0,none⟩),.pointer (some ⟨Bn,0,none⟩),.pointer (some ⟨Bf,0,none⟩)]) /\
   Pen base W' Bb Bp Bn Bf Bo 72 h true v k xs/\Below base w W':=by
 have P:=Lj ho aq hb hsz h;go_enter func251,ntmps251;go_wp2;go_ret;exact⟨_,_,_,_,rfl,P⟩
theorem dh{base n:Nat}{v:Value}{X:List Value}{W:World}(h:W.ownsRow base 5 1 v n X):∃ a cap,v=.slice a n cap:=by
 rcases h.2 with⟨rfl,h0⟩ | ⟨g,cap,cur,rfl,_⟩
 ·exact⟨none,0,by rw[h0]⟩
 ·exact⟨_,cap,rfl⟩
theorem My(p:List Int)(h:0<p.length):hd p=p++[45]:=by unfold hd;rw[if_neg (by omega)]
theorem Mz(p:List Int)(h:p.length=0):hd p=[]:=by unfold hd;rw[if_pos h]
structure Wr(l:List Int)(base:Nat)(w wr:World)(Bb Bp Bn Bf Bo:Nat)(h dl:Nat)(n:Int)(j:Nat):Prop where
 n0:128<=n
 n1:n<=1114112
 ex:∃(ds:List Nat) (v:Value) (k:Nat),EI l n j dl ds/\(∀ d∈ds,d<=71303231)/\h=(plain l).length+ds.length/\k<=100+71303232 * ds.length/\k=(hd (plain l)++tx (plain l).length ds).length /\
  Pen base wr Bb Bp Bn Bf Bo (bia (plain l).length ds) h ds.isEmpty v k ((hd (plain l)++tx (plain l).length ds).map (Value.int .u8))
 be:Below base w wr
theorem Wr.h_le{l:List Int}{base:Nat}{w wr:World}{Bb Bp Bn Bf Bo h dl:Nat}{n:Int}{j:Nat}(s:Wr l base w wr Bb Bp Bn Bf Bo h dl n j):h<=l.length/\h=(had l n j).length:=by obtain⟨ds,v,k,e,_,hh,_⟩:=s.ex;have:=e.len;have:=Ip l n j;omega
theorem QC(p:Nat)(ds:List Nat)(hd:∀ d∈ds,d<=71303231):bia p ds<=1000000000:=by
 cases ds with
 | nil=>simp[bia]
 | cons d ds =>
  have h1:=hd d (by simp);have:=xu d (p+ds.length+1) ds.isEmpty (by omega);rw[bia];omega
section
variable {l : List Int} {base : Nat} {w wr : World} {Bb Bp Bn Bf Bo h dl : Nat} {n : Int} {j : Nat}
theorem Wr.dl_le(s:Wr l base w wr Bb Bp Bn Bf Bo h dl n j)(hl:l.length<=63):dl<=71303231:=by obtain⟨ds,v,k,e,_⟩:=s.ex;exact e.bound s.n1 hl
theorem Wr.less(s:Wr l base w wr Bb Bp Bn Bf Bo h dl n j)(hj:j<l.length)(hx:l[j]?.getD 0<n):Wr l base w wr Bb Bp Bn Bf Bo h (dl+1) n (j+1):=by obtain⟨ds,v,k,e,r⟩:=s.ex;exact⟨s.n0,s.n1,⟨ds,v,k,e.less hj hx,r⟩,s.be⟩
theorem Wr.more(s:Wr l base w wr Bb Bp Bn Bf Bo h dl n j)(hj:j<l.length)(hx:n<l[j]?.getD 0):Wr l base w wr Bb Bp Bn Bf Bo h dl n (j+1):=by obtain⟨ds,v,k,e,r⟩:=s.ex;exact⟨s.n0,s.n1,⟨ds,v,k,e.more hj hx,r⟩,s.be⟩
theorem Wr.pass(s:Wr l base w wr Bb Bp Bn Bf Bo h dl n l.length)(hn:n<=1114111):Wr l base w wr Bb Bp Bn Bf Bo h (dl+1) (n+1) 0:=by obtain⟨ds,v,k,e,r⟩:=s.ex;exact⟨by have:=s.n0;omega,by omega,⟨ds,v,k,e.pass,r⟩,s.be⟩
theorem Wr.jump(s:Wr l base w wr Bb Bp Bn Bf Bo h dl n 0)(m:Int)(hm:tV l n m)(hl:∀ x∈l,x<=1114111)(D:Nat)(hD:(D:Int)=dl+(m - n) * ((h:Int)+1)):Wr l base w wr Bb Bp Bn Bf Bo h D m 0:=by obtain⟨-,hh⟩:=s.h_le;obtain⟨ds,v,k,e,r⟩:=s.ex;have:=hl m hm.1;exact⟨by have:=s.n0;have:=hm.2.1;omega,by omega,⟨ds,v,k,e.jump hm.2.1 hm.2.2 D (by rw[<-hh];exact hD),r⟩,s.be⟩
theorem Wr.left(s:Wr l base w wr Bb Bp Bn Bf Bo h dl n 0)(hl:h<l.length):∃ x∈l,n<=x:=by obtain⟨-,hh⟩:=s.h_le;exact EI.left (dl:=dl) (ds:=[]) (by omega)
theorem Wr.put(s:Wr l base w wr Bb Bp Bn Bf Bo h dl n j)(hlen:l.length<=63)(hj:j<l.length)(hx:l[j]?.getD 0=n):
  Calls prog 286 #[.int .i64 dl,.pointer (some ⟨Bb,0,none⟩),.pointer (some ⟨Bp,0,none⟩),.pointer (some ⟨Bn,0,none⟩),.pointer (some ⟨Bf,0,none⟩)] wr
   fun e W'=>e=.returned (.tuple #[])/\Wr l base w W' Bb Bp Bn Bf Bo (h+1) 0 n (j+1):=by
 have hh:=s.h_le;have hdl:=s.dl_le hlen;obtain⟨ds,v,k,e,hds,hh2,hk,hkl,P⟩:=s.ex;refine(KV base Bb Bp Bn Bf Bo _ h ds.isEmpty v k _ dl hdl (QC _ _ hds) (by omega) (by omega) wr P).mono ?_;rintro e W' ⟨rfl,⟨v',P'⟩,B'⟩;have hw:=QP (bia (plain l).length ds) 36 dl;refine⟨rfl,s.n0,s.n1,⟨dl::ds,v',k+(wn (bia (plain l).length ds) 36 dl).length,e.put hj hx,?_,by rw[length_cons];omega,?_,?_,?_⟩,s.be.trans B'⟩
 ·intro d hd;rcases List.mem_cons.mp hd with rfl | hd
  ·exact hdl
  ·exact hds d hd
 ·rw[length_cons];omega
 ·rw[hkl,tx,<-append_assoc,length_append (bs:=wn _ _ _)]
 ·have e1:bia (plain l).length (dl::ds)=adapt dl (h+1) ds.isEmpty:=by rw[bia,hh2]
  rw[e1,tx,<-append_assoc];exact P'
theorem Wr.fin(s:Wr l base w wr Bb Bp Bn Bf Bo h dl n 0)(hl:l.length<=h)(h0:∀ x∈l,0<=x):∃ v k T,Boxed wr Bo 36 v/\(∃ a c,v=.slice a k c)/\(convert 36 9 v).run prog wr=.ok (.string T) wr/\Enc l (bn T):=by obtain⟨-,hh⟩:=s.h_le;obtain⟨ds,v,k,e,_,hh2,hk,hkl,P⟩:=s.ex;have E:Enc l (hd (plain l)++tx (plain l).length ds):=⟨ds,rfl,e.fin (by omega)⟩;obtain⟨T,h1,h2⟩:=bB wr base v k (hd (plain l)++tx (plain l).length ds) hkl (fun c hc=>by have:=E.ascii h0 c hc;omega) P.row;obtain⟨a,c,rfl⟩:=dh P.row;exact⟨_,k,T,P.o,⟨a,c,rfl⟩,h1,by rw[h2];exact E⟩
end
theorem rW(b off cap:Nat)(l:List Int)(hlen:l.length<=63)(hall:l.all ar=true)(w:World)(hp:0<l.length)(hc:∀ j,j<l.length->w.cell? ⟨b,off+j,none⟩=some (.int .i32 (l[j]?.getD 0))):
  Calls prog 231 #[.slice (some ⟨b,off,none⟩) l.length cap] w fun e W'=>∃ T,e=.returned (.string T)/\Enc l (bn T)/\Below w.heap.size w W':=by
 obtain⟨i0,hi0,hz0,hz1,hz2⟩:=info_parts Tryz.info5;have hb:b<w.heap.size:=lt_of_cell (hc 0 hp);have hbd:=Ju hall;have HP:=hid (mo (.slice (some ⟨b,off,none⟩) l.length cap) l (by omega) (fun x hx=>(hbd x hx).1) w (.inr ⟨hp,b,off,cap,rfl,hc⟩));have hpl:=qV l;obtain⟨p,hpp⟩:=Ex' ((plain l).length);have HPP:=hid hpp;rw[hpp]at HP hpl;clear hpp;obtain⟨N,hN⟩:=Ex' l.length;have HN:=hid hN;rw[hN]at HP hlen hp hpl ⊢;have hc':∀ j,j<N->w.cell? ⟨b,off+j,none⟩=some (.int .i32 (l[j]?.getD 0)):=by rw[<-hN];exact hc
 clear hN hc;go_enter func231,ntmps231;go_wp2_with fail;refine HP.out.mono ?_;rintro e w1 ⟨v1,rfl,r1,B1⟩;obtain⟨a1,c1,rfl⟩:=dh r1;have bo:=Boxed.new w1 36 (.slice a1 p c1);have R1:=hid (r1.alloc (.cells #[.slice a1 p c1] 36));have s1:=B1.size
 go_upto_if 16 with fail
 go_cut [] from 16 (fun wc=>∃ v k,Hid (Boxed wc w1.heap.size 36 v)/\Hid (wc.ownsRow w.heap.size 5 1 v k ((hd (plain l)).map (Value.int .u8)))/\k=(hd (plain l)).length/\Hid (Below w.heap.size w wc))
 case first =>
  by_cases hp0:p=0
  ·go_wp2_with fail
   go_meet
   case rel =>
    have e:hd (plain l)=[]:=Mz _ (HPP.out.trans hp0);refine⟨_,p,bo,?_,by rw[e,hp0];rfl,(B1.alloc B1.size _)⟩;show World.ownsRow _ _ _ _ _ _ _;have e2:plain l=[]:=eq_nil_of_length_eq_zero (HPP.out.trans hp0);have:=R1.out;rw[e2]at this;rw[e];exact this
  ·have hpz:(0:Int)<(p:Int):=by omega
   have BO:=hid bo;have cb:=bo.cell;clear bo r1;go_wp2_with(at_builtin;refine wpList_append_own _ rfl _ _ 36 rfl w.heap.size 5 i0 (.int .u8 0) 1 1 underlying36 hi0 hz0 hz1 hz2 rfl (by decide) _ _ _ rfl (R1.out.alloc _) ⟨w1.heap.size+1,0,none⟩ 1 1 [.int .u8 45] rfl rfl (by have:=ee (w1.alloc (.cells #[.slice a1 p c1] 36)) 5 [.int .u8 45];simpa using this) (by simp[Value.oneCell']) (by unfold maxLen;omega) (by omega) (by simp;omega) ?_;intro v2 w3 hown hgrow _;obtain⟨a2,c2,rfl⟩:=dh hown;have c3:=gY (t:=36) (e:=5) (n₀:=w.heap.size) (BO.out.alloc _) (by decide) (R1.out.alloc _) (by simp;omega) (by omega) hown hgrow;have c4:=c3.1.cell;have c5:=c3.1.frozen)
   go_meet
   case rel =>
    have e:hd (plain l)=plain l++[45]:=My _ (by rw[HPP.out];omega);refine⟨_,p+1,c3.2.1,?_,by rw[e,length_append,HPP.out];rfl,?_⟩
    ·show World.ownsRow _ _ _ _ _ _ _;rw[e,map_append];exact c3.2.2.1
    ·show Below _ _ _;exact((B1.alloc B1.size _).alloc (by simp;omega) _).trans c3.2.2.2.2
 case rest =>
  obtain⟨v,k,h1,h2,hk,h3⟩:=hcut;have hkl:=PW (plain l);have HK:=hid hk;have hk2:k<=100:=by rw[HPP.out]at hkl;omega
  clear hk hkl;go_wp2_with(go_at_call 251;refine(nF w.heap.size w1.heap.size v k p _ _ h1.out h2.out s1 h3.out.size).mono ?_;rintro e w4 ⟨Bb,Bp,Bn,Bf,rfl,PN,B4⟩)
  go_loopw [4,6,7] (fun vh vn vd wr=>∃(h dl:Nat) (n:Int),vh=.int .i64 h/\vn=.int .i32 n/\vd=.int .i64 dl/\Hid (Wr l w.heap.size w wr Bb Bp Bn Bf w1.heap.size h dl n 0))
   (fun _ vn _ _=>ups l (intOf vn))
  case atStart =>
   refine⟨p,0,128,rfl,rfl,rfl,by omega,by omega,⟨[],v,k,EI.start l,(fun d hd=>by cases hd),by rw[HPP.out];rfl,by omega,by rw[HK.out];simp[tx],?_⟩,h3.out.trans B4⟩;simpa[tx,bia]using PN
  case round =>
   obtain⟨h,dl,n,rfl,rfl,rfl,HW⟩:=hrel;by_cases hlt:h<N
   ·have n0:=HW.out.n0;have n1:=HW.out.n1;have d1:=HW.out.dl_le (by rw[HN.out];exact hlen);have HM:=hid (BS l n (fun x hx=>(hbd x hx).2) (HW.out.left (by rw[HN.out];exact hlt)));have m1:=(hbd _ HM.out.1).2;have m0:=HM.out.2.1;have hcr:∀ j,j<N->wr.cell? ⟨b,off+j,none⟩=some (.int .i32 (l[j]?.getD 0)):=fun j hj=>(HW.out.be.cell (p:=⟨b,off+j,none⟩) hb).trans (hc' j hj);have HL:=hid (BW b off cap l n (by rw[HN.out];omega) (by rw[HN.out];exact hp) wr (by rw[HN.out];exact hcr));rw[HN.out]at HL;obtain⟨m,hm⟩:=Ex' (lst l n);rw[hm]at HM m0 m1 HL;clear hm;obtain⟨X,hX⟩:∃ X:Nat,(m - n) * ((h:Int)+1)=(X:Int):=⟨((m - n) * ((h:Int)+1)).toNat,by have:=Int.mul_nonneg (show 0<=m - n by omega) (show 0<=(h:Int)+1 by omega);omega⟩;have hX1:X<=1114112 * 63:=by have a1:(m - n) * ((h:Int)+1)<=1114112 * ((h:Int)+1):=Int.mul_le_mul_of_nonneg_right (by omega) (by omega);omega
    have HW2:=hid (HW.out.jump m HM.out (fun x hx=>(hbd x hx).2) (dl+X) (by rw[hX];push_cast;rfl));clear hcr;have HBD:=hid hbd;go_wp2_with(go_at_call 252;refine HL.out.mono ?_;rintro e w' ⟨rfl,hw'⟩;obtain rfl:=hw'.symm)
    go_loopw [4,7,41] (fun vh vd vj wi=>∃(h dl j:Nat),vh=.int .i64 h/\vd=.int .i64 dl/\vj=.int .i64 j/\j<=N/\Hid (Wr l w.heap.size w wi Bb Bp Bn Bf w1.heap.size h dl m j))
     (fun _ _ vj _=>N - (intOf vj).toNat)
    case atStart=>exact⟨h,dl+X,0,rfl,by first | rfl | go_num,rfl,zero_le _,HW2⟩
    case round =>
     obtain⟨h',dl',j,rfl,rfl,rfl,hj,HV⟩:=hrel;have e1:=HV.out.dl_le (by rw[HN.out];exact hlen);have e2:=HV.out.h_le.1;rw[HN.out]at e2;by_cases hjn:j<N
     ·have hck:wr.cell? ⟨b,off+j,none⟩=some (.int .i32 (l[j]?.getD 0)):=(HV.out.be.cell (p:=⟨b,off+j,none⟩) hb).trans (hc' j hjn);have HLs:=hid (fun h=>HV.out.less (by rw[HN.out];exact hjn) h);have HMo:=hid (fun h=>HV.out.more (by rw[HN.out];exact hjn) h);have HPu:=hid (fun h=>HV.out.put (by rw[HN.out];exact hlen) (by rw[HN.out];exact hjn) h);obtain⟨c,hcc⟩:=Ex' (l[j]?.getD 0);rw[hcc]at hck HLs HMo HPu;clear hcc;rcases Int.lt_trichotomy c m with hcm | hcm | hcm
      ·go_wp2
       go_roundw
       case rel=>exact⟨h',dl'+1,j+1,rfl,by go_num,by go_num,by omega,HLs.out hcm⟩
       case measure=>simp[intOf];omega
      ·subst hcm;go_wp2_with(go_at_call 286;refine(HPu.out rfl).mono ?_;rintro e w' ⟨rfl,HW'⟩)
       go_roundw
       case rel=>exact⟨h'+1,0,j+1,by go_num,rfl,by go_num,by omega,HW'⟩
       case measure=>simp[intOf];omega
      ·go_wp2
       go_roundw
       case rel=>exact⟨h',dl',j+1,rfl,rfl,by go_num,by omega,HMo.out hcm⟩
       case measure=>simp[intOf];omega
     ·obtain rfl:j=N:=by omega
      go_wp2
      go_roundw
      case rel=>exact⟨h',dl'+1,m+1,rfl,by go_num,by go_num,Wr.pass (by rw[HN.out];exact HV.out) m1⟩
      case measure=>exact Ea l n m HM.out
   ·obtain⟨v,k,T,hbx,⟨a,c,rfl⟩,hcv,HE⟩:=HW.out.fin (by rw[HN.out];omega) (fun x hx=>(hbd x hx).1);have cc:=hbx.cell;have HE':=hid HE;clear HE;go_wp2;go_ret;exact⟨T,rfl,HE'.out,HW.out.be⟩
theorem rX(a:Option Addr)(cap:Nat)(w:World):
  Calls prog 231 #[.slice a 0 cap] w fun e W'=>∃ T,e=.returned (.string T)/\Enc [] (bn T)/\Below w.heap.size w W':=by
 have HP:=hid (mo (.slice a 0 cap) [] (by simp) (by simp) w (.inl ⟨rfl,a,cap,rfl⟩));go_enter func231,ntmps231;go_wp2_with fail;refine HP.out.mono ?_;rintro e w1 ⟨v1,rfl,r1,B1⟩;obtain⟨a1,c1,rfl⟩:=dh r1;have bo:=Boxed.new w1 36 (.slice a1 0 c1);have R1:=hid (r1.alloc (.cells #[.slice a1 0 c1] 36));have s1:=B1.size;have e0:(plain []).length=0:=rfl;go_wp2_with(go_at_call 251;refine(nF w.heap.size w1.heap.size (.slice a1 0 c1) 0 0 [] _ bo R1.out s1 (by simp;omega)).mono ?_;rintro e w4 ⟨Bb,Bp,Bn,Bf,rfl,PN,B4⟩);refine wp_loop_rounds 1 ?_;rw[rounds_succ];obtain⟨T,hcv,hT⟩:=bB w4 w.heap.size (.slice a1 0 c1) 0 [] rfl (fun b hb=>by cases hb) PN.row;have HT:=hid hT;have cc:=PN.o.cell;clear hT;go_wp2;go_ret;exact⟨T,rfl,⟨[],by rw[HT.out];rfl,rfl⟩,(B1.alloc B1.size _).trans B4⟩
theorem fi(v:Value)(l:List Int)(hlen:l.length<=63)(hall:l.all ar=true)(w:World)(hv:aB w v l):
  Calls prog 231 #[v] w fun e W'=>∃ T,e=.returned (.string T)/\Enc l (bn T)/\Below w.heap.size w W':=by
 rcases hv with⟨rfl,a,cap,rfl⟩ | ⟨hp,b,off,cap,rfl,hc⟩
 ·exact rX a cap w
 ·exact rW b off cap l hlen hall w hp hc
def JO(l:List Int)(t:ByteArray)(e:Int):Prop :=
 (63<l.length/\t=⟨#[]⟩/\e=4)\/(l.length<=63/\l.all ar=false/\t=⟨#[]⟩/\e=2) \/
  (l.length<=63/\l.all ar=true/\∃ T,Enc l T/\((63<T.length/\t=⟨#[]⟩/\e=4)\/(T.length<=63/\bn t=T/\e=0)))
theorem Mo{w:World}{v:Value}{l:List Int}(h:aB w v l):∃ a cap,v=.slice a l.length cap:=by
 rcases h with⟨rfl,a,cap,rfl⟩ | ⟨hp,b,off,cap,rfl,hc⟩
 ·exact⟨a,cap,rfl⟩
 ·exact⟨_,cap,rfl⟩
theorem bM(v:Value)(l:List Int)(hlen:l.length<=17179869184)(w:World)(hv:aB w v l):
  Calls prog 204 #[v] w fun e W'=>(∃ t r,e=.returned (.tuple #[.string t,.int .i64 r])/\JO l t r)/\Below w.heap.size w W':=by
 obtain⟨a,cap,rfl⟩:=Mo hv;have HU:=hid (gU _ l hlen w hv);have HV:=hid hv;have HW:=hid (fun(h1:l.length<=63) (h2:l.all ar=true) (w:World) (hv:aB w (.slice a l.length cap) l)=>fi _ l h1 h2 w hv);clear hv;obtain⟨N,hN⟩:=Ex' l.length;have HN:=hid hN;rw[hN]at HU HV HW hlen ⊢;clear hN;go_enter func204,ntmps204;by_cases h1:63<N
 ·go_wp2;go_ret2;exact⟨⟨_,_,rfl,.inl ⟨by rw[HN.out];exact h1,rfl,rfl⟩⟩,Below.refl _ _⟩
 ·go_wp2_with fail;refine HU.out.mono ?_;rintro e w1 ⟨⟨t,r,rfl,hr⟩,B1⟩;rcases hr with⟨q1,rfl,q3⟩ | ⟨q1,rfl,q3⟩
  ·have HQ:=hid q1;have HQ3:=hid q3;clear q1 q3;have HI:=hid (HV.out.below B1 (le_refl _));go_wp2_with fail;refine(HW.out (by omega) HQ.out w1 HI.out).mono ?_;rintro e w2 ⟨T,rfl,HT,B2⟩;have HT':=hid HT;clear HT;have B12:=B1.trans (B2.mono B1.size);by_cases h2:63<T.size
   ·go_wp2;go_ret2;exact⟨⟨_,_,rfl,.inr (.inr ⟨by rw[HN.out];omega,HQ.out,_,HT'.out,.inl ⟨by rw[aa];exact h2,rfl,rfl⟩⟩)⟩,B12⟩
   ·go_wp2;go_ret2;exact⟨⟨_,_,rfl,.inr (.inr ⟨by rw[HN.out];omega,HQ.out,_,HT'.out,.inr ⟨by rw[aa];omega,rfl,rfl⟩⟩)⟩,B12⟩
  ·have HQ:=hid q1;clear q1;go_wp2;go_ret2;exact⟨⟨_,_,rfl,.inr (.inl ⟨by rw[HN.out];omega,HQ.out,rfl,rfl⟩)⟩,B1⟩
theorem hid'{p:Prop}(h:p):Hid p:=h
def asc(l:List Int):Bool:=l.all fun c=>decide (c<128)
theorem bJ(s:ByteArray)(k:Nat)(h:k<s.size):(bn s)[k]?.getD 0=(s[k].toNat:Int):=by have:=jm s k h;rw[<-List.head?_drop,this];rfl
theorem fA(s:ByteArray)(k:Nat)(h:k<s.size):(bn s).take (k+1)=(bn s).take k++[(s[k].toNat:Int)]:=by rw[bT (bn s) k (by rw[aa];exact h),bJ s k h]
theorem Jo(s:ByteArray)(k:Nat)(h:k<s.size):asc ((bn s).take (k+1))=(asc ((bn s).take k)&&decide ((s[k].toNat:Int)<128)):=by rw[fA s k h,asc,List.all_append];simp[asc]
theorem Dw(s:ByteArray)(k:Nat)(h:k<s.size)(hb:128<=(s[k].toNat:Int)):asc (bn s)=false:=by unfold asc;rw[List.all_eq_false];exact⟨(s[k].toNat:Int),by rw[<-take_append_drop (k+1) (bn s),fA s k h];simp,by simp;omega⟩
theorem mB(s:ByteArray)(hs:s.size<=1024)(w:World):
  Calls prog 239 #[.string s] w fun e w'=>e=.returned (.bool (asc (bn s)))/\w'=w:=by
 go_enter func239,ntmps239;go_wp2_with fail
 go_loop [6] (fun i=>∃ k:Nat,k<=s.size/\i=.int .i64 k/\Hid (asc ((bn s).take k)=true)) (fun i=>s.size - (intOf i).toNat)
 case atStart=>exact⟨0,zero_le _,rfl,rfl⟩
 case round =>
  obtain⟨k,hk,rfl,ha⟩:=hrel;by_cases hlt:k<s.size
  ·have HS:=hid' (Jo s k hlt);by_cases hb:128<=(s[k].toNat:Int)
   ·have HF:=hid' (Dw s k hlt hb);go_wp2;go_ret;rw[HF.out];exact⟨rfl,rfl⟩
   ·go_wp2;refine⟨⟨k+1,by omega,by go_num,?_⟩,by simp[intOf];omega⟩;show asc _=true;rw[HS.out,ha.out];simp;omega
  ·have hkk:k=s.size:=by omega
   have HA:Hid (asc (bn s)=true):=by have:=ha.out;rw[hkk,take_of_length_le (by rw[aa];exact le_refl _)]at this;exact this
   go_wp2;go_ret;rw[HA.out];exact⟨rfl,rfl⟩
def iO(l:List Int):Nat->Nat
 | 0=>0
 | k+1=>if l[k]?.getD 0=45 then k else iO l k
theorem Az(l:List Int):∀ k,iO l k<=k
 | 0=>le_refl _
 | k+1=>by have:=Az l k;rw[iO];split <;> omega
def cutAt(l:List Int):Nat:=iO l l.length
theorem tG(l:List Int):∀ k,iO l k≠0->l[iO l k]?.getD 0=45/\iO l k<k
 | 0,h=>absurd rfl h
 | k+1,h=>by
  rw[iO]at h ⊢;split
  ·rename_i hk;exact⟨hk,by omega⟩
  ·rename_i hk;rw[if_neg hk]at h;have:=tG l k h;exact⟨this.1,by omega⟩
theorem Hm(s:ByteArray)(hs:s.size<=1024)(w:World):
  Calls prog 57 #[.string s,.int .u8 45] w fun e w'=>∃ r:Int,e=.returned (.int .i64 r)/\-1<=r/\r<=1024/\r.toNat=cutAt (bn s)/\w'=w:=by
 go_enter func57,ntmps57;go_wp2_with fail
 go_loop [5] (fun vi=>∃ k:Nat,k<=s.size/\vi=.int .i64 ((k:Int) - 1)/\Hid (cutAt (bn s)=iO (bn s) k)) (fun vi=>((intOf vi)+1).toNat)
 case atStart=>exact⟨s.size,le_refl _,by first | rfl | go_num | (congr 1;omega),by show cutAt (bn s)=_;rw[cutAt,aa]⟩
 case round =>
  obtain⟨k,hk,rfl,hh⟩:=hrel;by_cases k0:k=0
  ·subst k0;go_wp2;go_ret;exact⟨_,rfl,by omega,by omega,by rw[hh.out];rfl,rfl⟩
  ·obtain⟨j,rfl⟩:∃ j,k=j+1:=⟨k - 1,by omega⟩;have hj:j<s.size:=by omega
   have HG:=hid' (bJ s j hj);have e1:((j+1:Nat):Int) - 1=(j:Int):=by omega
   rw[e1];clear e1;by_cases hc:(s[j].toNat:Int)=45
   ·have HC:=hid' hc;go_wp2;go_ret;exact⟨_,rfl,by omega,by omega,by rw[hh.out,iO,if_pos (HG.out.trans HC.out)];try omega,rfl⟩
   ·have HC:=hid' hc;go_wp2;refine⟨⟨j,by omega,by first | rfl | go_num,?_⟩,by simp[intOf];try omega⟩;show _=_;rw[hh.out,iO,if_neg (by rw[HG.out];exact HC.out)]
theorem qD(s:ByteArray)(hs:s.size<=1024)(w:World):
  Calls prog 162 #[.string s,.int .u8 45] w fun e w'=>∃ r:Int,e=.returned (.int .i64 r)/\-1<=r/\r<=1024/\r.toNat=cutAt (bn s)/\w'=w:=by
 go_enter func162,ntmps162;go_wp2_with(go_at_call 57;refine(Hm s hs _).mono ?_;rintro e w' ⟨r,rfl,h1,h2,h3,rfl⟩);go_ret;exact⟨r,rfl,h1,h2,h3,rfl⟩
def eu(l:List Int):List Int:=l.take (cutAt l)
def aft(l:List Int):List Int:=if cutAt l=0 then l else l.drop (cutAt l+1)
theorem aw(s:ByteArray)(i j:Nat)(h:j<=s.size):bn (s.extract i j)=((bn s).drop i).take (j - i):=by
 unfold bn;have e:(s.extract i j).data.toList=(s.data.toList.drop i).take (j - i):=by rw[ByteArray.data_extract,Array.toList_extract];try simp[List.extract]
 rw[e,List.map_take,List.map_drop]
theorem yB(s:ByteArray)(hs:s.size<=1024)(w:World):
  Calls prog 240 #[.string s] w fun e w'=>∃ a b:ByteArray,e=.returned (.tuple #[.string a,.string b])/\bn a=eu (bn s)/\bn b=aft (bn s)/\a.size<=s.size/\b.size<=s.size/\Below w.heap.size w w':=by
 have hle:=Az (bn s) (bn s).length;rw[aa]at hle;have HW:=hid' (tG (bn s) (bn s).length);go_enter func240,ntmps240;go_wp2_with fail;refine(qD s hs _).mono ?_;rintro e w' ⟨r,rfl,h1,h2,h3,rfl⟩;have H3:=hid' h3;clear h3;by_cases hr:r<1
 ·go_wp2;go_ret2;have e0:cutAt (bn s)=0:=by rw[<-H3.out];omega
  exact⟨_,_,rfl,by rw[eu,e0];rfl,by rw[aft,if_pos e0],zero_le _,le_refl _,Below.refl _ _⟩
 ·have hne:cutAt (bn s)≠0:=by rw[<-H3.out];omega
  have hlt:r<(s.size:Int):=by have:=(HW.out hne).2;have h3:=H3.out;unfold cutAt at h3;rw[aa]at this h3;omega
  obtain⟨k,rfl⟩:∃ k:Nat,r=(k:Int):=⟨r.toNat,by omega⟩;have hk1:1<=k:=by omega
  have hks:k<s.size:=by omega
  have HN:=hid' hne;clear hne;have b1:(0:Int)<=(k:Int)+1:=by omega
  have b2:(k:Int)+1<=(s.size:Int):=by omega
  have b3:(k:Int)<=(s.size:Int):=by omega
  have b4:IntKind.i64.wrap ((k:Int)+1)=(k:Int)+1:=by simp[IntKind.wrap,IntKind.bits,IntKind.signed];omega
  go_wp2_with fail
  go_region
  all_goals (try go_wp2)
  all_goals go_ret2
  all_goals (
    have ek:cutAt (bn s)=k:=by have:=H3.out;omega
    refine⟨_,_,rfl,?_,?_,?_,?_,(Below.refl _ _).drew⟩
    · rw[aw s 0 k (by omega),eu,ek];simp
    · rw[aw s (k+1) s.size (le_refl _),aft,if_neg HN.out,ek,take_of_length_le (by rw[length_drop,aa];exact le_refl _)]
    · rw[size_extract];omega
    · rw[size_extract];omega)
theorem mh{P:Program}{ops:Array Oper}{o:Oper}{a:Act}{w:World}{K:Act->World->Prop}{Q:Exit->Act->World->Prop}{E:Prop}
  (hg:o.guard=none) (d s:Operand) (t:TypeId) (hop:o.op=Op.call { callee:=Callee.builtin Builtin.copy,args:=#[d,s],argTypes:=#[t,t] })
  (v u v':Value) (w':World) (hd:a.eval d=v) (hs:a.eval s=u) (hr:(Builtin.copy_ #[t,t] o.type #[v,u]).run P w=.ok v' w') (hK:K (a.put o.dst v') w') :
  if Region.wanted o (yielded ops a.tmps)=true then Oper.wp P o a w K Q else E:=by
 have hw:Region.wanted o (yielded ops a.tmps)=true:=by simp[Region.wanted,hg]
 rw[if_pos hw];unfold Oper.wp;simp[execOp,hop,resolve,invoke,builtin,hd,hs,hr,Result.andThen];exact hK
theorem sizeOf21(w:World):(Go.sizeOf 21).run prog w=.ok 1 w:=by first | exact Tryz.sizeOf21 w | kernel_rfl
theorem sn:(prog.info? 21).map (·.size)=some 1:=by obtain⟨i0,hi0,h0,h1,h2⟩:=info_parts Tryz.lW;rw[hi0];simp[h1]
theorem vW(g n c i vb:Nat)(cs:List Value)(x:Value)(f:Nat->Value)(w:World)(hi:i<n)(hroom:n+1<=c)(hc63:c<=9223372036854775807)(hvb:vb≠g)(hcl:cs.length=n)
  (aq:w.rowIs g 21 c f) (hcs:∀ j v,cs[j]? = some v->f j=v) (hx:Boxed w vb 21 x) (h1c:∀ v∈cs,v.oneCell'=true) (h1x:x.oneCell'=true) :
  Calls prog 283 #[.slice (some ⟨g,0,none⟩) n c,.int .i64 i,.slice (some ⟨vb,0,none⟩) 1 1] w fun e w' =>
   e=.returned (.slice (some ⟨g,0,none⟩) (n+1) c)/\w'=(w.drew.setCells g (i+1) (cs.drop i)).setCells g i [x]:=by
 have hz2:¬ ((i:Int)=(n:Int)):=by omega
 have hsp:∀ j,j<c->(w.cell? ⟨g,j,none⟩).isSome=true:=fun j hj=>by rw[aq.cell hj];rfl
 have hfz:∀ j,w.frozen? ⟨g,j,none⟩=false:=fun j=>by obtain⟨cur,hb,_⟩:=aq;simp[World.frozen?,hb]
 have hov:∀ lb cb,(callFunc 303 #[.slice (some ⟨vb,0,none⟩) 1 1,.slice (some ⟨g,i+1,none⟩) lb cb]).run prog w=.ok (.value (.bool false)) w:=fun lb cb=>by
  rw[run_callFunc_extern func303 (by kernel_rfl) (by kernel_rfl) (by kernel_rfl) (e:=Extern.SlicesOverlaps.overlaps #[37,37] #[4]) (by kernel_rfl)]
  rw[Lib.run_overlaps_apart w 37 4 21 underlying37 1 sizeOf21 ⟨vb,0,none⟩ ⟨g,i+1,none⟩ 1 1 lb cb hvb 21 21 1 c (by
      have h:=hx
      unfold Boxed at h
      simp[World.shape?,h]) (by
      obtain⟨cur,hb,hs,_⟩:=aq
      simp[World.shape?,hb,hs]) (by omega) hx.frozen (by
      have h:=hx
      unfold Boxed at h
      simp[World.frozen?,h])]
  rfl
 have hdl:(cs.drop i).length=n - i:=by rw[length_drop,hcl]
 have hw1:IntKind.i64.wrap ((i:Int)+1)=(i:Int)+1:=by rw[wrap_i64];omega
 have hb1:(0:Int)<=(i:Int)+1:=by omega
 have htn:((i:Int)+1).toNat=i+1:=by omega
 have hb2:¬ (c=i+1):=by omega
 have hb3:(i:Int)<=(n:Int)+1:=by omega
 have hb4:¬ (c=i):=by omega
 have hin:i<=n:=by omega
 have hcw:∀ j v,cs[j]? = some v->w.cell? ⟨g,j,none⟩=some v:=fun j v hj=>by have hjl:=(List.getElem?_eq_some_iff.1 hj).1;rw[aq.cell (by omega),hcs j v hj]
 have hcp1:∀ ty dc sc,(Builtin.copy_ #[37,37] ty #[.slice (some ⟨g,i+1,none⟩) (n - i) dc,.slice (some ⟨g,i,none⟩) (n+1 - i) sc]).run prog w.drew=.ok (goInt (cs.drop i).length) (w.drew.setCells g (i+1) (cs.drop i)):=fun ty dc sc =>
  run_copy_cells w.drew _ _ ty 21 g (i+1) (n - i) dc ⟨g,i,none⟩ (n+1 - i) sc (cs.drop i) underlying37 sn (by rw[hdl];simp only[min_def];split <;> omega)
   (fun j v hj=>by rw[Addr.add_lit];exact hcw (i+j) v (by rwa [getElem?_drop]at hj))
   (fun j hj=>hsp _ (by omega)) (fun j hj=>hfz _) (fun v hv=>h1c v (mem_of_mem_drop hv))
 obtain⟨W1,hW1⟩:∃ W1,W1=w.drew.setCells g (i+1) (cs.drop i):=⟨_,rfl⟩
 have hcp2:∀ ty dc,(Builtin.copy_ #[37,37] ty #[.slice (some ⟨g,i,none⟩) (n+1 - i) dc,.slice (some ⟨vb,0,none⟩) 1 1]).run prog W1=.ok (goInt 1) (W1.setCells g i [x]):=fun ty dc =>
  run_copy_cells W1 _ _ ty 21 g i (n+1 - i) dc ⟨vb,0,none⟩ 1 1 [x] underlying37 sn (by show 1=_;simp only[min_def];split <;> omega)
   (fun j v hj=>by
     have hjl:=(List.getElem?_eq_some_iff.1 hj).1
     obtain rfl:j=0:=by simp at hjl;exact hjl
     rw[Addr.add_lit,hW1,World.cell?_setCells_out g _ _ _ _ (fun h _=>absurd h hvb)]
     have:x=v:=by simpa using hj
     rw[<-this];exact hx.cell)
   (fun j hj=>by rw[hW1];exact World.isSome_setCells _ _ _ _ _ (hsp _ (by simp at hj;omega))) (fun j hj=>by rw[hW1,World.frozen?_setCells];exact hfz _) (by simpa using h1x)
 rw[<-hW1]at hcp1 ⊢;have HW:=hid' hW1;clear hW1 hsp hfz hcw hcs h1c hdl;go_enter func283,ntmps283;go_wp2_with(simp only[hov])
 go_region_law (refine mh rfl _ _ 37 rfl _ _ _ _ (by simp[Act.eval,Act.put]) (by simp[Act.eval,Act.put]) (hcp1 _ _ _) ?_)
 go_wp2_with(at_builtin;refine wpList_copied rfl _ _ 37 rfl _ _ _ _ rfl rfl (hcp2 _ _) ?_);go_ret;exact⟨rfl,rfl⟩
theorem vX(g n c i vb:Nat)(cs:List Value)(x:Value)(f:Nat->Value)(w:World)(hi:i<n)(hnc:n<=c)(hroom:c<n+1)(hbig:n<=1000000)(hcl:cs.length=n)
  (aq:w.rowIs g 21 c f) (hcs:∀ j v,cs[j]? = some v->f j=v) (hx:Boxed w vb 21 x) (h1c:∀ v∈cs,v.oneCell'=true) (h1x:x.oneCell'=true) :
  Calls prog 283 #[.slice (some ⟨g,0,none⟩) n c,.int .i64 i,.slice (some ⟨vb,0,none⟩) 1 1] w fun e w'=>∃(G:Nat) (ROW:Array Value),n+1<=G/\G<=9223372036854775807/\ROW.size=G/\ROW.toList.take i=cs.take i /\
   e=.returned (.slice (some ⟨w.heap.size,0,none⟩) (n+1) G)/\w'=(((w.alloc (.cells ROW 21)).drew.setCells w.heap.size i [x]).drew).setCells w.heap.size (i+1) (cs.drop i):=by
 obtain⟨i0,hi0,hz0,hzs,hzb⟩:=info_parts Tryz.lW;have hz2:¬ ((i:Int)=(n:Int)):=by omega
 have hz3:(c:Int)<(n:Int)+1:=by omega
 have hcw:∀ j v,cs[j]? = some v->w.cell? ⟨g,j,none⟩=some v:=fun j v hj=>by have hjl:=(List.getElem?_eq_some_iff.1 hj).1;rw[aq.cell (by omega),hcs j v hj]
 have hbw:g<w.heap.size:=aq.lt;have hvw:vb<w.heap.size:=hx.lt;have hkk:(n:Int)+1 - (i:Int)=((n+1 - i:Nat):Int):=by omega
 have hik:i+(n+1 - i)=n+1:=by omega
 have hold:(Builtin.firstCells i0.size i (.slice (some ⟨g,0,none⟩) i c)).run prog w.drew=.ok (cs.take i).toArray w.drew:=by
  rw[hzs]
  exact run_firstCells_some w.drew 1 i ⟨g,0,none⟩ i c (cs.take i) (by rw[length_take];omega) (fun j v hj=>by
    rw[Addr.add_lit,zero_add]
    rw[getElem?_take]at hj
    split at hj
    · exact hcw j v hj
    · cases hj)
 have hrz:∀ ty,(Builtin.append_ #[37,3] ty #[.slice (some ⟨g,0,none⟩) i c,.int .i64 ((n:Int)+1 - (i:Int))]).run prog w =
   .ok (.slice (some ⟨w.heap.size,0,none⟩) (n+1) (grownCap w (n+1) c 21)) (w.drew.alloc (.cells ((cs.take i).toArray++Builtin.zeroCells (Value.int .i32 0).cells (n+1 - i)++Builtin.zeroCells (Value.int .i32 0).cells (grownCap w (n+1) c 21 - (n+1))) 21)):=fun ty=>by
  have h:=Lib.run_append_grow_zeros w 37 3 ty 21 i0 _ .i64 .i64 underlying37 underlying3 hi0 hz0 (some ⟨g,0,none⟩) i c (cs.take i) hold (n+1 - i) (by omega) (by omega) (by omega) (by omega) (by rw[hzb];omega) (by rw[hzb,hik];exact growslice_fits hroom (by omega));rw[hik]at h;rw[hkk];exact h
 obtain⟨G,hG⟩:∃ G,G=grownCap w (n+1) c 21:=⟨_,rfl⟩;have hGn:n+1<=G:=by rw[hG];exact grownCap_ge w _ _ _
 have hG63:G<=9223372036854775807:=by have:=grownCap_le_maxLen w (n+1) c 21 (by unfold maxLen;omega);rw[<-hG]at this;unfold maxLen at this;omega
 obtain⟨ROW,hROW⟩:∃ ROW:Array Value,ROW=(cs.take i).toArray++Builtin.zeroCells (Value.int .i32 0).cells (n+1 - i)++Builtin.zeroCells (Value.int .i32 0).cells (G - (n+1)):=⟨_,rfl⟩;rw[<-hG]at hrz;rw[<-hROW]at hrz;have hRs:ROW.size=G:=by rw[hROW];simp[Builtin.zeroCells,Value.cells];omega
 have hRt:ROW.toList.take i=cs.take i:=by rw[hROW,Array.append_assoc,Array.toList_append,List.toList_toArray,List.take_append_of_le_length (by rw[length_take];omega),List.take_take,Nat.min_self]
 obtain⟨W1,hW1⟩:∃ W1,W1=w.drew.alloc (.cells ROW 21):=⟨_,rfl⟩;rw[<-hW1]at hrz;have hN:∀ j,j<n+1->(W1.cell? ⟨w.heap.size,j,none⟩).isSome=true:=fun j hj=>by rw[hW1,World.cell?_alloc_at (w:=w.drew) ROW _ w.heap.size j rfl,Array.getElem?_eq_getElem (by omega)];rfl
 have hNf:∀ j,W1.frozen? ⟨w.heap.size,j,none⟩=false:=fun j=>by rw[hW1];exact World.frozen?_alloc_at (w:=w.drew) ROW _ w.heap.size j rfl
 have hOb:∀ j v,w.cell? ⟨g,j,none⟩=some v->W1.cell? ⟨g,j,none⟩=some v:=fun j v h=>by rw[hW1,World.cell?_alloc_past (w:=w.drew) _ g j hbw];exact h
 have hOv:W1.cell? ⟨vb,0,none⟩=some x:=by rw[hW1,World.cell?_alloc_past (w:=w.drew) _ vb 0 hvw];exact hx.cell
 have hcpA:∀ ty dc,(Builtin.copy_ #[37,37] ty #[.slice (some ⟨w.heap.size,i,none⟩) (n+1 - i) dc,.slice (some ⟨vb,0,none⟩) 1 1]).run prog W1=.ok (goInt 1) (W1.setCells w.heap.size i [x]):=fun ty dc =>
  run_copy_cells W1 _ _ ty 21 w.heap.size i (n+1 - i) dc ⟨vb,0,none⟩ 1 1 [x] underlying37 sn (by show 1=_;simp only[min_def];split <;> omega)
   (fun j v hj=>by
     have hjl:=(List.getElem?_eq_some_iff.1 hj).1
     obtain rfl:j=0:=by simp at hjl;exact hjl
     have:x=v:=by simpa using hj
     rw[Addr.add_lit,<-this];exact hOv)
   (fun j hj=>hN _ (by simp at hj;omega)) (fun j hj=>hNf _) (by simpa using h1x)
 have hbN:g≠w.heap.size:=by omega
 have hdl:(cs.drop i).length=n - i:=by rw[length_drop,hcl]
 obtain⟨W2,hW2⟩:∃ W2,W2=(W1.setCells w.heap.size i [x]).drew:=⟨_,rfl⟩
 have hcpB:∀ ty dc sc,(Builtin.copy_ #[37,37] ty #[.slice (some ⟨w.heap.size,i+1,none⟩) (n - i) dc,.slice (some ⟨g,i,none⟩) (n - i) sc]).run prog W2=.ok (goInt (cs.drop i).length) (W2.setCells w.heap.size (i+1) (cs.drop i)):=fun ty dc sc =>
  run_copy_cells W2 _ _ ty 21 w.heap.size (i+1) (n - i) dc ⟨g,i,none⟩ (n - i) sc (cs.drop i) underlying37 sn (by rw[hdl];simp only[min_def];split <;> omega)
   (fun j v hj=>by
     rw[Addr.add_lit,hW2]
     show(W1.setCells w.heap.size i [x]).cell? _=_
     rw[World.cell?_setCells_out _ _ _ _ _ (fun h _=>absurd h hbN)]
     exact hOb _ v (hcw (i+j) v (by rwa [getElem?_drop]at hj)))
   (fun j hj=>by
     rw[hW2]
     show((W1.setCells w.heap.size i [x]).cell? _).isSome=true
     exact World.isSome_setCells _ _ _ _ _ (hN _ (by omega)))
   (fun j hj=>by
     rw[hW2]
     show(W1.setCells w.heap.size i [x]).frozen? _=false
     rw[World.frozen?_setCells];exact hNf _) (fun v hv=>h1c v (mem_of_mem_drop hv))
 have hGi:¬ (G=i):=by omega
 have hGim:¬ (G=i+1):=by omega
 have hci:¬ (c=i):=by omega
 have hw1:IntKind.i64.wrap ((i:Int)+1)=(i:Int)+1:=by rw[wrap_i64];omega
 have hb1:(0:Int)<=(i:Int)+1:=by omega
 have hin:i<=n:=by omega
 have htn:((i:Int)+1).toNat=i+1:=by omega
 have hb3:(i:Int)<=(n:Int):=by omega
 have HW2:=hid' hW2;have HW1:=hid' hW1;have HR:=hid' hRt;have HRs:=hid' hRs;clear hkk hik hold hROW hG hRs hRt hW1 hW2 hcw hN hNf hOb hOv hcs h1c hdl;go_enter func283,ntmps283
 go_wp2_with(first
   | (at_builtin;refine Lib.wpList_append_run _ rfl _ _ _ _ rfl _ _ rfl rfl _ _ (hrz _) ?_)
   | (at_builtin;refine wpList_copied rfl _ _ 37 rfl _ _ _ _ rfl rfl (hcpA _ _) ?_))
 rw[HW2.out]at hcpB
 go_region_law (refine mh rfl _ _ 37 rfl (.slice (some ⟨w.heap.size,i+1,none⟩) (n - i) (G - (i+1))) (.slice (some ⟨g,i,none⟩) (n - i) (c - i)) _ _ (by simp[Act.eval,Act.put]) (by simp[Act.eval,Act.put]) (hcpB _ _ _) ?_)
 go_wp2;go_ret;exact⟨G,ROW,hGn,hG63,HRs.out,HR.out,rfl,by rw[HW1.out];rfl⟩
structure Rdr(base:Nat)(w:World)(Bs Bl:Nat)(s:ByteArray):Prop where
 s:Boxed w Bs 9 (.string s)
 l:Boxed w Bl 23 (.func (.func 300) #[] #[.pointer (some ⟨Bs,0,none⟩)])
 hs:base<=Bs
def oQ(Bs Bl:Nat):Value:=.func (.func 301) #[] #[.pointer (some ⟨Bl,0,none⟩),.pointer (some ⟨Bs,0,none⟩)]
def vM(Bs:Nat):Value:=.func (.func 300) #[] #[.pointer (some ⟨Bs,0,none⟩)]
theorem Rdr.below{base b':Nat}{w w':World}{Bs Bl:Nat}{s:ByteArray}(h:Rdr base w Bs Bl s)(hb:Below b' w w')(hB:w.heap.size<=b'):Rdr base w' Bs Bl s :=
 ⟨(hb.block Bs (lt_of_lt_of_le h.s.lt hB)).trans h.s,(hb.block Bl (lt_of_lt_of_le h.l.lt hB)).trans h.l,h.hs⟩
theorem boxed_ne'{W:World}{B C:Nat}{t u:TypeId}{x y:Value}(h:Boxed W B t x)(k:Boxed W C u y)(hne:t≠u):B≠C:=by intro e;unfold Boxed at h k;rw[e,k]at h;simp at h;exact hne h.2.symm
theorem dv(base:Nat)(w:World)(Bs Bl:Nat)(s:ByteArray)(h:Rdr base w Bs Bl s):
  Calls prog 300 #[.pointer (some ⟨Bs,0,none⟩)] w fun e w'=>e=.returned (.bool (decide (0<s.size)))/\w'=w:=by
 have c:=h.s.cell;clear h;go_enter func300,ntmps300;go_wp2;go_ret;exact⟨rfl,rfl⟩
theorem BN(base:Nat)(w:World)(Bs Bl:Nat)(s:ByteArray)(h:Rdr base w Bs Bl s)(h0:s.size=0):
  Calls prog 301 #[.pointer (some ⟨Bl,0,none⟩),.pointer (some ⟨Bs,0,none⟩)] w fun e w'=>e=.returned (.tuple #[.int .i64 0,.bool false])/\w'=w:=by
 have c:=h.s.cell;have d:=h.l.cell;have hd:decide (0<s.size)=false:=by rw[h0];rfl
 have H:=hid' h;clear h;go_enter func301,ntmps301;go_wp2_with(go_at_call 300;refine(dv base _ Bs Bl s H.out).mono ?_;rw[hd];rintro e w' ⟨rfl,rfl⟩);go_ret2;exact⟨rfl,rfl⟩
def told(c:Int):Value:=match dg c with | some d=>.tuple #[.int .i64 d,.bool true] | none=>.tuple #[.int .i64 0,.bool false]
theorem BM(base:Nat)(w:World)(Bs Bl:Nat)(s:ByteArray)(hsz:s.size<=1024)(h:Rdr base w Bs Bl s)(h0:0<s.size):
  Calls prog 301 #[.pointer (some ⟨Bl,0,none⟩),.pointer (some ⟨Bs,0,none⟩)] w fun e w'=>e=.returned (told (s[0].toNat:Int))/\Rdr base w' Bs Bl (s.extract 1 s.size)/\w.grownBy w' (some Bs):=by
 have c:=h.s.cell;have f:=h.s.frozen;have d:=h.l.cell;have hd:decide (0<s.size)=true:=by simpa using h0
 have hne:=boxed_ne' h.l h.s (by decide);have R:Rdr base (w.setCell ⟨Bs,0,none⟩ (.string (s.extract 1 s.size))) Bs Bl (s.extract 1 s.size):=⟨h.s.set _,h.l.kept (grownBy_setCell' w Bs _) (by simpa using hne),h.hs⟩;have BB:w.grownBy (w.setCell ⟨Bs,0,none⟩ (.string (s.extract 1 s.size))) (some Bs):=grownBy_setCell' w Bs _;have H:=hid' h;have hx0:(0:Int)<=(s[0].toNat:Int):=by omega
 have hx1:(s[0].toNat:Int)<=255:=by have:=s[0].toNat_lt;omega
 clear h;go_enter func301,ntmps301;unfold told;cases hg:dg (s[0].toNat:Int) with
 | none =>
  have HG:=hid' hg;clear hg
  go_wp2_with(first
    | (go_at_call 300;refine(dv base _ Bs Bl s H.out).mono ?_;rw[hd];rintro e w' ⟨rfl,rfl⟩)
    | (go_at_call 302;refine(yP _ hx0 hx1 HG.out _).mono ?_;rintro e w' ⟨rfl,rfl⟩))
  go_ret2;exact⟨rfl,R,BB⟩
 | some dd =>
  have HG:=hid' hg;clear hg
  go_wp2_with(first
    | (go_at_call 300;refine(dv base _ Bs Bl s H.out).mono ?_;rw[hd];rintro e w' ⟨rfl,rfl⟩)
    | (go_at_call 302;refine(yO _ dd HG.out _).mono ?_;rintro e w' ⟨rfl,rfl⟩))
  go_ret2;exact⟨rfl,R,BB⟩
theorem jL(s:ByteArray)(w:World):
  Calls prog 279 #[.string s] w fun e w'=>∃ Bs Bl,e=.returned (.tuple #[vM Bs,oQ Bs Bl])/\Rdr w.heap.size w' Bs Bl s/\Below w.heap.size w w':=by
 have b1:=Boxed.new w 9 (.string s);have b2:=Boxed.new (w.alloc (.cells #[.string s] 9)) 23 .nilFunc;have e1:(w.alloc (.cells #[.string s] 9)).heap.size=w.heap.size+1:=by simp
 rw[e1]at b2;have c2:=b2.cell;have f2:=b2.frozen;go_enter func279,ntmps279;have b3:=Boxed.new (w.alloc (.cells #[.string s] 9)) 23 (.func (.func 300) #[] #[.pointer (some ⟨w.heap.size,0,none⟩)]);rw[e1]at b3;have H3:=hid' b3;clear b3 e1 b1 b2;go_wp2;have c3:=H3.out.cell;refine bodyPost_ret (v:=.tuple #[vM w.heap.size,oQ w.heap.size (w.heap.size+1)]) ?_ rfl ⟨_,_,rfl,⟨(Boxed.new w 9 (.string s)).alloc _,H3.out,le_refl _⟩,((Below.refl _ w).alloc (le_refl _) _).alloc (by simp) _⟩;rw[results_cell_tmp (p:=2) (u:=3) (ty:=23) rfl];have hl:(loadVar 23 ⟨w.heap.size+1,0,none⟩).run prog ((w.alloc (.cells #[.string s] 9)).alloc (.cells #[.func (.func 300) #[] #[.pointer (some ⟨w.heap.size,0,none⟩)]] 23))=.ok (vM w.heap.size) ((w.alloc (.cells #[.string s] 9)).alloc (.cells #[.func (.func 300) #[] #[.pointer (some ⟨w.heap.size,0,none⟩)]] 23)):=by unfold vM;go_simp
 simp[asAddr,Result.andThen,hl,oQ]
theorem iH{a b c:World}{row:Option Nat}(h:a.grownBy b row)(k:b.grownBy c row):a.grownBy c row :=
 ⟨k.os.trans h.os,k.tape.trans h.tape,k.output.trans h.output,le_trans h.size k.size,fun i hi hr=>(k.block i (lt_of_lt_of_le hi h.size) hr).trans (h.block i hi hr)⟩
def sk(w:World)(B:Nat):Nat:=match w.cell? ⟨B,0,none⟩ with | some (.string s)=>s.size | _=>0
theorem iU{w:World}{B:Nat}{s:ByteArray}(h:Boxed w B 9 (.string s)):sk w B=s.size:=by unfold sk;rw[h.cell]
theorem OB(b k i w:Nat):rn b k i w []=none:=rfl
theorem OE(b k i w:Nat)(c:Int)(cs:List Int)(h:dg c=none):rn b k i w (c::cs)=none:=by rw[rn,h]
theorem OD(b k i w d:Nat)(c:Int)(cs:List Int)(h:dg c=some d)(h1:2147483647<i+d * w):rn b k i w (c::cs)=none:=by rw[rn,h];simp[h1]
theorem OC(b k i w d:Nat)(c:Int)(cs:List Int)(h:dg c=some d)(h1:¬ 2147483647<i+d * w)(h2:d<thr k b):rn b k i w (c::cs)=some (i+d * w,cs):=by rw[rn,h];simp[h1,h2]
theorem KS(b k i w d:Nat)(c:Int)(cs:List Int)(h:dg c=some d)(h1:¬ 2147483647<i+d * w)(h2:¬ d<thr k b)(h3:2147483647<w * (36 - thr k b)):rn b k i w (c::cs)=none:=by rw[rn,h];simp[h1,h2,h3]
theorem Rj(b k i w d:Nat)(c:Int)(cs:List Int)(h:dg c=some d)(h1:¬ 2147483647<i+d * w)(h2:¬ d<thr k b)(h3:¬ 2147483647<w * (36 - thr k b)):rn b k i w (c::cs)=rn b (k+36) (i+d * w) (w * (36 - thr k b)) cs:=by rw[rn,h];simp only;rw[if_neg h1,if_neg h2,if_neg h3]
theorem Nk(s:ByteArray)(h:0<s.size):bn s=(s[0].toNat:Int)::bn (s.extract 1 s.size):=by rw[aw s 1 s.size (le_refl _),take_of_length_le (by rw[length_drop,aa];exact le_refl _)];exact nk s h
def ka(o:Option (Nat×List Int))(e:Ending)(base:Nat)(w':World)(Bs Bl:Nat):Prop :=
 match o with
 | none=>e=.returned (.tuple #[.int .i64 0,.bool false])/\∃ s',Rdr base w' Bs Bl s'
 | some (j,rest)=>e=.returned (.tuple #[.int .i64 j,.bool true])/\∃ s',Rdr base w' Bs Bl s'/\bn s'=rest/\s'.size<=1024
theorem cC(base:Nat)(w:World)(Bs Bl i b:Nat)(s:ByteArray)(hsz:s.size<=1024)(hi:i<=2147483647)(hb:b<=1000000000000)(h:Rdr base w Bs Bl s):
  Calls prog 280 #[.int .i64 i,.int .i64 b,oQ Bs Bl] w fun e w'=>ka (rn b 36 i 1 (bn s)) e base w' Bs Bl/\w.grownBy w' (some Bs):=by
 have H:=hid' h;clear h;unfold oQ;go_enter func280,ntmps280;go_wp2_with fail
 go_loopw [0,8,9] (fun vi vw vk wr=>∃(I W K:Nat) (t:ByteArray),vi=.int .i64 I/\vw=.int .i64 W/\vk=.int .i64 K/\I<=2147483647/\W<=2147483647/\K+36 * t.size<=36+36 * s.size/\t.size<=s.size/\Hid (rn b 36 i 1 (bn s)=rn b K I W (bn t))/\Hid (Rdr base wr Bs Bl t)/\w.grownBy wr (some Bs))
  (fun _ _ _ wr=>sk wr Bs)
 case atStart=>exact⟨i,1,36,s,rfl,rfl,rfl,hi,by omega,by omega,le_refl _,rfl,H,⟨rfl,rfl,rfl,le_refl _,fun _ _ _=>rfl⟩⟩
 case round =>
  obtain⟨I,W,K,t,rfl,rfl,rfl,h1,h2,h3,h3',h4,h5,hB⟩:=hrel;by_cases ht:t.size=0
  ·have HN:Hid (rn b 36 i 1 (bn s)=none):=by show _=_;rw[h4.out,show bn t=[] from eq_nil_of_length_eq_zero (by rw[aa];exact ht),OB]
   go_wp2_with(go_at_call 301;refine(BN base _ Bs Bl t h5.out ht).mono ?_;rintro e w' ⟨rfl,rfl⟩);go_ret2;rw[HN.out];exact⟨⟨rfl,t,h5.out⟩,hB⟩
  ·have ht0:0<t.size:=by omega
   have HB:=hid' (Nk t ht0);have hes:(t.extract 1 t.size).size=t.size - 1:=by rw[size_extract];omega
   have HN:=hid' (BM base wr Bs Bl t (by omega) h5.out ht0);have HSZ:=hid' (iU h5.out.s);obtain⟨c,hc⟩:∃ c,c=(t[0].toNat:Int):=⟨_,rfl⟩;rw[<-hc]at HB HN;clear hc;obtain⟨t',ht'⟩:∃ t',t'=t.extract 1 t.size:=⟨_,rfl⟩;rw[<-ht']at HB HN hes;clear ht';have HR:Hid (rn b 36 i 1 (bn s)=rn b K I W (c::bn t')):=by show _=_;rw[h4.out,HB.out]
   clear h4;cases hg:dg c with
   | none =>
    have HG:=hid' hg;have HT:Hid (told c=.tuple #[.int .i64 0,.bool false]):=by show _=_;rw[told,hg]
    clear hg;go_wp2_with fail;refine HN.out.mono ?_;rw[HT.out];rintro e w' ⟨rfl,hr,hbl⟩;go_wp2;go_ret2;rw[HR.out,OE _ _ _ _ _ _ HG.out];exact⟨⟨rfl,_,hr⟩,iH hB hbl⟩
   | some d =>
    have HG:=hid' hg;have HT:Hid (told c=.tuple #[.int .i64 d,.bool true]):=by show _=_;rw[told,hg]
    have hd:=(EW c d hg).2;clear hg;have t1:=fH K b;have t2:=jD K b;obtain⟨u,hu⟩:=Ex' (thr K b);have HU:=hid' hu;rw[hu]at t1 t2;clear hu;have p1:d * W<=35 * 2147483647:=mul_le_mul (by omega) h2;have p2:W * (36 - u)<=2147483647 * 35:=mul_le_mul h2 (by omega);obtain⟨X,hX⟩:=Ex' (d * W);obtain⟨Y,hY⟩:=Ex' (W * (36 - u));have eX:(d:Int) * (W:Int)=(X:Int):=by rw[<-hX];push_cast;rfl
    have eY:(W:Int) * (36 - (u:Int))=(Y:Int):=by rw[<-hY];push_cast [ofNat_sub (show u<=36 by omega)];rfl
    have HX:=hid' hX;have HY:=hid' hY;rw[hX]at p1;rw[hY]at p2;clear hX hY;have fin:∀ w',Hid (Rdr base w' Bs Bl t')->True->True:=fun _ _ _=>trivial;by_cases q1:2147483647<I+X
    ·go_wp2_with fail;refine HN.out.mono ?_;rw[HT.out];rintro e w' ⟨rfl,hr,hbl⟩;go_wp2;go_ret2;rw[HR.out,OD _ _ _ _ d _ _ HG.out (by rw[HX.out];exact q1)];exact⟨⟨rfl,_,hr⟩,iH hB hbl⟩
    ·by_cases q2:d<u
     ·go_wp2_with fail;refine HN.out.mono ?_;rw[HT.out];rintro e w' ⟨rfl,hr,hbl⟩;go_wp2_with(go_at_call 287;refine(kg K b (by omega) (by omega) _).mono ?_;rw[HU.out];rintro e w1 ⟨rfl,rfl⟩);go_ret2;rw[HR.out,OC _ _ _ _ d _ _ HG.out (by rw[HX.out];exact q1) (by rw[HU.out];exact q2),HX.out];exact⟨⟨rfl,_,hr,rfl,by omega⟩,iH hB hbl⟩
     ·by_cases q3:2147483647<Y
      ·go_wp2_with fail;refine HN.out.mono ?_;rw[HT.out];rintro e w' ⟨rfl,hr,hbl⟩;go_wp2_with(go_at_call 287;refine(kg K b (by omega) (by omega) _).mono ?_;rw[HU.out];rintro e w1 ⟨rfl,rfl⟩);go_ret2;rw[HR.out,KS _ _ _ _ d _ _ HG.out (by rw[HX.out];exact q1) (by rw[HU.out];exact q2) (by rw[HU.out,HY.out];exact q3)];exact⟨⟨rfl,_,hr⟩,iH hB hbl⟩
      ·go_wp2_with fail;refine HN.out.mono ?_;rw[HT.out];rintro e w' ⟨rfl,hr,hbl⟩;have HRr:=hid' hr;clear hr;go_wp2_with(go_at_call 287;refine(kg K b (by omega) (by omega) _).mono ?_;rw[HU.out];rintro e w1 ⟨rfl,rfl⟩)
       go_roundw
       case rel =>
        refine⟨I+X,Y,K+36,t',by first | rfl | go_num,by first | rfl | go_num,by go_num,by omega,by omega,by omega,by omega,?_,HRr,iH hB hbl⟩;show _=_;rw[HR.out,Rj _ _ _ _ d _ _ HG.out (by rw[HX.out];exact q1) (by rw[HU.out];exact q2) (by rw[HU.out,HY.out];exact q3),HX.out,HU.out,HY.out]
       case measure =>
        rw[iU HRr.out.s,HSZ.out];omega
theorem kA{w:World}{base g n cap:Nat}{f:Nat->Value}{xs:List Value}(h:w.rowIs g 21 cap f)(hn:n<=cap)(hc:cap<=maxLen)(hb:base<=g)(hl:xs.length=n)(hx:∀ j,j<n->xs[j]? = some (f j)):
  w.ownsRow base 21 1 (.slice (some ⟨g,0,none⟩) n cap) n xs:=by
 obtain⟨cur,h1,h2,h3⟩:=h;refine⟨by omega,.inr ⟨g,cap,cur,rfl,hb,h1,hn,hc,by omega,?_⟩⟩;rw[mul_one];apply List.ext_getElem?;intro j;rw[getElem?_take];by_cases hj:j<n
 ·rw[if_pos hj,Array.getElem?_toList,h3 j (by omega),hx j hj]
 ·rw[if_neg hj,List.getElem?_eq_none (by omega)]
theorem gl(g:Nat):∀(vs:List Value) (o:Nat) (w:World),w.grownBy (w.setCells g o vs) (some g)
 | [],_,w=>⟨rfl,rfl,rfl,le_refl _,fun _ _ _=>rfl⟩
 | v::r,o,w=>by have h:w.grownBy (w.setCell ⟨g,o,none⟩ v) (some g):=⟨rfl,rfl,rfl,(KeepsWalks.setCell w _ v).size,fun k _ hk=>Below.heap_setCell _ _ _ k (fun e=>hk (by rw[e]))⟩;have k:=gl g r (o+1) (w.setCell ⟨g,o,none⟩ v);exact⟨k.os.trans h.os,k.tape.trans h.tape,k.output.trans h.output,le_trans h.size k.size,fun i hi hr=>(k.block i (lt_of_lt_of_le hi h.size) hr).trans (h.block i hi hr)⟩
theorem pE{a b c:World}{row:Option Nat}(h:a.grownBy b row)(k:b.grownBy c row):a.grownBy c row :=
 ⟨k.os.trans h.os,k.tape.trans h.tape,k.output.trans h.output,le_trans h.size k.size,fun i hi hr=>(k.block i (lt_of_lt_of_le hi h.size) hr).trans (h.block i hi hr)⟩
theorem zT(cs:List Value)(x:Value)(i n j:Nat)(hl:cs.length=n)(hi:i<=n)(hj:j<n+1):
  (cs.take i++x::cs.drop i)[j]? = some (if j<i then cs[j]?.getD default else if j=i then x else cs[j - 1]?.getD default):=by
 have ht:(cs.take i).length=i:=by rw[length_take];omega
 by_cases h1:j<i
 ·rw[if_pos h1,List.getElem?_append_left (by omega),getElem?_take,if_pos h1,getElem?_eq_getElem (by omega)];rfl
 ·rw[if_neg h1,List.getElem?_append_right (by omega),ht];by_cases h2:j=i
  ·rw[if_pos h2,h2,sub_self];rfl
  ·rw[if_neg h2,show j - i=(j - i - 1)+1 by omega,List.getElem?_cons_succ,getElem?_drop,show i+(j - i - 1)=j - 1 by omega,getElem?_eq_getElem (by omega)];rfl
theorem yu(base:Nat)(a:Option Addr)(n c vb:Nat)(zs:List Int)(x:Int)(w:World)(hl:zs.length=n)(hn:n<=1000000)(aq:w.ownsRow base 21 1 (.slice a n c) n (zs.map (Value.int .i32)))(hb:base<=w.heap.size)(hx:Boxed w vb 21 (.int .i32 x)):
  Calls prog 283 #[.slice a n c,.int .i64 n,.slice (some ⟨vb,0,none⟩) 1 1] w fun e w'=>∃ v',e=.returned v'/\w'.ownsRow base 21 1 v' (n+1) ((zs++[x]).map (Value.int .i32))/\w.grownBy w' (Value.slice a n c).ownBlock:=by
 have hs:nt w (.slice (some ⟨vb,0,none⟩) 1 1) [x]:=.inr ⟨⟨vb,0,none⟩,1,rfl,fun j hj=>by
   obtain rfl:j=0:=by simp at hj;exact hj
   rw[Addr.add_lit];exact hx.cell⟩
 rcases aq.2 with⟨e,h0⟩ | ⟨g,cap,cur,e,hbg,hgb,hnc,hcm,_⟩
 ·cases e;have H:=hid' aq;go_enter func283,ntmps283;go_wp2_with(at_builtin;refine bH rfl _ _ rfl base _ 0 zs rfl H.out _ [x] rfl hs (by simp only[length_cons,length_nil];omega) hb ?_;intro v' w1 r1 g1);go_ret;exact⟨v',rfl,by simpa using r1,g1⟩
 ·cases e;unfold maxLen at hcm;have H:=hid' aq;clear aq hgb;go_enter func283,ntmps283;go_wp2_with(at_builtin;refine bH rfl _ _ rfl base _ n zs rfl H.out _ [x] rfl hs (by simp only[length_cons,length_nil];omega) hb ?_;intro v' w1 r1 g1);all_goals (go_ret;exact⟨_,rfl,by simpa using(by assumption:World.ownsRow _ _ _ _ _ _ ((zs++[x]).map (Value.int .i32))),by assumption⟩)
theorem yv(base:Nat)(v:Value)(zs:List Int)(i vb:Nat)(x:Int)(w:World)(hi:i<=zs.length)(hn:zs.length<=1000000)(aq:w.ownsRow base 21 1 v zs.length (zs.map (Value.int .i32)))(hb:base<=w.heap.size)
  (hx:Boxed w vb 21 (.int .i32 x)) (hvb:some vb≠v.ownBlock) :
  Calls prog 283 #[v,.int .i64 i,.slice (some ⟨vb,0,none⟩) 1 1] w fun e w'=>∃ v',e=.returned v'/\w'.ownsRow base 21 1 v' (zs.length+1) ((zs.take i++x::zs.drop i).map (Value.int .i32))/\w.grownBy w' v.ownBlock:=by
 by_cases hin:i=zs.length
 ·subst hin
  obtain⟨a,c,rfl⟩:∃ a c,v=.slice a zs.length c:=by
   rcases aq.2 with⟨rfl,h0⟩ | ⟨g,cap,cur,rfl,_⟩
   ·exact⟨none,0,by rw[h0]⟩
   ·exact⟨_,cap,rfl⟩
  rw[take_length,List.drop_length];exact yu base a _ c vb zs x w rfl hn aq hb hx
 ·have hlt:i<zs.length:=by omega
  have hrow0:=aq;rcases aq.2 with⟨rfl,h0⟩ | ⟨g,cap,cur,rfl,hbg,hgb,hnc,hcm,hcs,hct⟩
  ·omega
  ·rw[mul_one]at hcs hct;have hcur:∀ j,j<zs.length->cur[j]? = some (.int .i32 (zs[j]?.getD 0)):=fun j hj=>by have:=congrArg (fun l=>l[j]?) hct;simp only[getElem?_take,if_pos hj,List.getElem?_map,Array.getElem?_toList]at this;rw[this,getElem?_eq_getElem hj];rfl
   have R:w.rowIs g 21 cap (fun j=>cur[j]?.getD default):=⟨cur,hgb,hcs,fun j hj=>by show _=some (cur[j]?.getD default);rw[Array.getElem?_eq_getElem (by omega)];rfl⟩;have hF:∀ j v,(zs.map (Value.int .i32))[j]? = some v->cur[j]?.getD default=v:=fun j v hj=>by have hjl:=(List.getElem?_eq_some_iff.1 hj).1;rw[length_map]at hjl;rw[hcur j hjl];rw[List.getElem?_map,getElem?_eq_getElem hjl]at hj;rw[getElem?_eq_getElem hjl];simpa using hj
   have bW:∀ v∈zs.map (Value.int .i32),v.oneCell'=true:=fun v hv=>by obtain⟨z,_,rfl⟩:=List.mem_map.1 hv;rfl
   have hml:(zs.map (Value.int .i32)).length=zs.length:=length_map ..;have hmap:(zs.take i++x::zs.drop i).map (Value.int .i32)=(zs.map (Value.int .i32)).take i++.int .i32 x::(zs.map (Value.int .i32)).drop i:=by simp[List.map_take,List.map_drop]
   have hgv:vb≠g:=fun e=>hvb (by rw[e];rfl);unfold maxLen at hcm;by_cases hroom:zs.length+1<=cap
   ·refine(vW g zs.length cap i vb (zs.map (Value.int .i32)) (.int .i32 x) _ w hlt hroom (by omega) hgv hml R hF hx bW rfl).mono ?_;rintro e w' ⟨rfl,rfl⟩;refine⟨_,rfl,?_,?_⟩
    ·have R2:=rowIs_setCells [.int .i32 x] i _ _ (rowIs_setCells ((zs.map (Value.int .i32)).drop i) (i+1) w.drew _ R.drew);rw[hmap];refine kA R2 hroom (by unfold maxLen;omega) hbg (by simp;omega) (fun j hj=>?_);rw[zT _ _ i zs.length j hml (by omega) hj];congr 1;by_cases h1:j<i
     ·rw[if_pos h1,if_neg (by omega),if_neg (by omega)];exact(hF j _ (by rw[getElem?_eq_getElem (by omega)];rfl)).symm
     ·rw[if_neg h1];by_cases h2:j=i
      ·rw[if_pos h2,if_pos (by simp;omega),h2,sub_self];rfl
      ·rw[if_neg h2,if_neg (by simp;omega),if_pos (by simp;omega),getElem?_drop,show i+(j - (i+1))=j - 1 by omega]
    ·exact pE (pE (b:=w.drew) ⟨rfl,rfl,rfl,le_refl _,fun _ _ _=>rfl⟩ (gl g _ _ w.drew)) (gl g _ _ _)
   ·refine(vX g zs.length cap i vb (zs.map (Value.int .i32)) (.int .i32 x) _ w hlt hnc (by omega) hn hml R hF hx bW rfl).mono ?_;rintro e w' ⟨G,ROW,hG,hG63,hRs,hRt,rfl,rfl⟩;refine⟨_,rfl,?_,?_⟩
    ·have R1:(w.alloc (.cells ROW 21)).drew.rowIs w.heap.size 21 G (fun j=>ROW[j]?.getD default):=by have:=World.rowIs_alloc w ROW 21 (fun j=>ROW[j]?.getD default) (fun j hj=>by rw[Array.getElem?_eq_getElem hj];rfl);rw[hRs]at this;exact this.drew
     have R2:=rowIs_setCells ((zs.map (Value.int .i32)).drop i) (i+1) _ _ (rowIs_setCells [.int .i32 x] i _ _ R1).drew;rw[hmap];refine kA R2 hG (by unfold maxLen;omega) (by omega) (by simp;omega) (fun j hj=>?_);rw[zT _ _ i zs.length j hml (by omega) hj];congr 1;by_cases h1:j<i
     ·rw[if_pos h1,if_neg (by omega),if_neg (by omega)];have:=congrArg (fun l=>l[j]?) hRt;simp only[getElem?_take,if_pos h1,Array.getElem?_toList]at this;rw[this]
     ·rw[if_neg h1];by_cases h2:j=i
      ·rw[if_pos h2,if_neg (by omega),if_pos (by simp;omega),h2,sub_self];rfl
      ·rw[if_neg h2,if_pos (by simp;omega),getElem?_drop,show i+(j - (i+1))=j - 1 by omega]
    ·have g0:=World.grownBy_alloc w (.cells ROW 21) none;have g1:w.grownBy (w.alloc (.cells ROW 21)).drew none:=⟨g0.os,g0.tape,g0.output,g0.size,g0.block⟩;have s1:=gl w.heap.size [.int .i32 x] i (w.alloc (.cells ROW 21)).drew;have s2:=gl w.heap.size ((zs.map (Value.int .i32)).drop i) (i+1) ((w.alloc (.cells ROW 21)).drew.setCells w.heap.size i [.int .i32 x]).drew;refine⟨s2.os.trans (s1.os.trans g1.os),s2.tape.trans (s1.tape.trans g1.tape),s2.output.trans (s1.output.trans g1.output),le_trans g1.size (le_trans s1.size s2.size),fun k hk hr=>?_⟩;have hne:some k≠some w.heap.size:=by intro e;cases e;omega
     exact(s2.block k (lt_of_lt_of_le hk (le_trans g1.size s1.size)) hne).trans ((s1.block k (lt_of_lt_of_le hk g1.size) hne).trans (g1.block k hk (by simp)))
theorem Fb(n:Int)(h:1114111<n):ar n=false:=by unfold ar;simp;omega
theorem pg(n:Int)(h0:0<=n)(h1:n<=1099511627776)(w:World):
  Calls prog 282 #[.int .i64 n] w fun e W'=>e=.returned (.bool (ar n))/\Below w.heap.size w W':=by
 go_enter func282,ntmps282;by_cases hb:1114111<n
 ·have HS:=hid' (Fb n hb);go_wp2;go_ret;rw[HS.out];exact⟨rfl,Below.refl _ _⟩
 ·have hI:aB (w.alloc (.cells #[.int .i32 n] 21)) (.slice (some ⟨w.heap.size,0,none⟩) 1 1) [n]:=by
   refine .inr ⟨by simp,_,_,_,rfl,fun j hj=>?_⟩;obtain rfl:j=0:=by simp at hj;exact hj
   exact(Boxed.new w 21 (.int .i32 n)).cell
  have HI:=hid' hI;clear hI;go_wp2_with(go_at_call 203;refine(gU _ [n] (by simp) _ HI.out).mono ?_;rintro e w1 ⟨⟨t,r,rfl,hr⟩,B1⟩);have B2:Below w.heap.size w w1:=((Below.refl _ w).alloc (le_refl _) (.cells #[.int .i32 n] 21)).trans (B1.mono (by simp));rcases hr with⟨q1,rfl,q3⟩ | ⟨q1,rfl,q3⟩
  ·have HQ:Hid (ar n=true):=by show _=_;simpa using q1
   clear q1 q3;go_wp2;go_ret;rw[HQ.out];exact⟨rfl,B2⟩
  ·have HQ:Hid (ar n=false):=by show _=_;simpa using q1
   clear q1 q3;go_wp2;go_ret;rw[HQ.out];exact⟨rfl,B2⟩
theorem step_eq(s:St)(j:Nat)(h:s.i<=j):s.step (j - s.i)=⟨s.n+((j / (s.pts.length+1):Nat):Int),j % (s.pts.length+1)+1,s.pts.take (j % (s.pts.length+1))++(s.n+((j / (s.pts.length+1):Nat):Int))::s.pts.drop (j % (s.pts.length+1))⟩:=by unfold St.step;rw[show s.i+(j - s.i)=j by omega]
def RY(o:Option (List Int))(e:Ending)(base:Nat)(w':World):Prop :=
 match o with
 | none=>e=.returned (.tuple #[.slice none 0 0,.bool false])
 | some pts=>∃ v',e=.returned (.tuple #[v',.bool true])/\w'.ownsRow base 21 1 v' pts.length (pts.map (Value.int .i32))
structure Rs(base:Nat)(w wr:World)(Bs Bl:Nat)(o:Option (List Int))(v:Value)(n:Int)(i p b:Nat)(pts:List Int)(t:ByteArray):Prop where
 row:wr.ownsRow base 21 1 v p (pts.map (Value.int .i32))
 len:pts.length=p
 rdr:Rdr base wr Bs Bl t
 eq:o=RD ⟨n,i,pts⟩ b (bn t)
 be:Below base w wr
theorem bU{base n:Nat}{v:Value}{X:List Value}{W:World}(h:W.ownsRow base 21 1 v n X):∃ a cap,v=.slice a n cap:=by
 rcases h.2 with⟨rfl,h0⟩ | ⟨g,cap,cur,rfl,_⟩
 ·exact⟨none,0,by rw[h0]⟩
 ·exact⟨_,cap,rfl⟩
theorem qi{base Bs:Nat}{w wr w2:World}(hB:Below base w wr)(hg:wr.grownBy w2 (some Bs))(hs:base<=Bs)(hz:base<=wr.heap.size):Below base w w2 :=
 hB.grown hg hz (fun j ej=>by cases ej;exact hs)
theorem Rdr.kept{base base':Nat}{w w':World}{Bs Bl:Nat}{s:ByteArray}{v:Value}{n:Nat}{X:List Value}(h:Rdr base w Bs Bl s)(aq:w.ownsRow base' 21 1 v n X)(hg:w.grownBy w' v.ownBlock):Rdr base w' Bs Bl s :=
 ⟨h.s.kept hg (h.s.not_row (by decide) aq),h.l.kept hg (h.l.not_row (by decide) aq),h.hs⟩
theorem lN{w w':World}{base:Nat}(h:Below base w w')(hb:base<=w.heap.size):base<=w'.heap.size:=le_trans hb h.size
theorem Ff(base:Nat)(a0:Option Addr)(c0 p0:Nat)(zs:List Int)(s:ByteArray)(w:World)(hl:zs.length=p0)(hp:p0<=1024)(hs:s.size<=1024)(aq:w.ownsRow base 21 1 (.slice a0 p0 c0) p0 (zs.map (Value.int .i32)))(hb:base<=w.heap.size):
  Calls prog 241 #[.slice a0 p0 c0,.string s] w fun e W'=>RY (RD (run zs []) 72 (bn s)) e base W'/\Below base w W':=by
 have HR:=hid' aq;have HL:=hid' hl;obtain⟨o,ho⟩:=Ex' (RD (run zs []) 72 (bn s));have HO0:=hid' ho;rw[ho];clear aq hl ho;go_enter func241,ntmps241;go_wp2_with fail;refine(jL s w).mono ?_;rintro e w1 ⟨Bs,Bl,rfl,R1,B1⟩
 have HR1:Hid (Rs base w w1 Bs Bl o (.slice a0 p0 c0) 128 0 p0 72 zs s) :=
  ⟨ax HR.out B1 (le_refl _),HL.out,⟨R1.s,R1.l,le_trans hb R1.hs⟩,HO0.out.symm,B1.mono hb⟩
 clear R1 B1;unfold vM oQ;go_wp2_with fail
 go_loopw [0,5,8,9,10] (fun v0 v5 v8 v9 v10 wr=>∃(a:Option Addr) (c:Nat) (ok:Bool) (n:Int) (i p b:Nat) (pts:List Int) (t:ByteArray),v0=.slice a p c/\v5=.bool ok/\v8=.int .i64 n/\v9=.int .i64 i/\v10=.int .i64 b /\
     128<=n/\n<=1114111/\i<=p/\t.size<=s.size/\p+t.size<=p0+s.size/\b<=100000000000/\Hid (Rs base w wr Bs Bl o (.slice a p c) n i p b pts t))
  (fun _ _ _ _ _ wr=>sk wr Bs)
 case atStart=>exact⟨a0,c0,false,128,0,p0,72,zs,s,rfl,rfl,rfl,rfl,rfl,by omega,by omega,zero_le _,le_refl _,le_refl _,by omega,HR1⟩
 case round =>
  obtain⟨a,c,ok,n,i,p,b,pts,t,rfl,rfl,rfl,rfl,rfl,h1,h2,h3,h3',h4,h5,H⟩:=hrel;by_cases ht:t.size=0
  ·have hd:decide (0<t.size)=false:=by rw[ht];rfl
   have HO:Hid (o=some pts):=by show _=_;rw[H.out.eq,show bn t=[] from eq_nil_of_length_eq_zero (by rw[aa];exact ht)];rfl
   go_wp2_with(go_at_call 300;refine(dv base _ Bs Bl t H.out.rdr).mono ?_;rw[hd];rintro e w' ⟨rfl,rfl⟩);go_ret2;rw[HO.out];exact⟨⟨_,rfl,by rw[H.out.len];exact H.out.row⟩,H.out.be⟩
  ·have ht0:0<t.size:=by omega
   have hd:decide (0<t.size)=true:=by simpa using ht0
   have HN:=hid' (cC base wr Bs Bl i b t (by omega) (by omega) (by omega) H.out.rdr);have HSZ:=hid' (iU H.out.rdr.s);have HNE:Hid (bn t≠[]):=by show _≠_;intro e;have:=aa t;rw[e]at this;simp at this;omega
   unfold oQ at HN;cases hr:rn b 36 i 1 (bn t) with
   | none =>
    have HRn:=hid' hr;rw[hr]at HN;clear hr;have HO:Hid (o=none):=by show _=_;rw[H.out.eq,AI _ _ _ HNE.out HRn.out]
    go_wp2_with(first
      | (go_at_call 300;refine(dv base _ Bs Bl t H.out.rdr).mono ?_;rw[hd];rintro e w' ⟨rfl,hw'⟩;obtain rfl:=hw'.symm)
      | (go_at_call 280;refine HN.out.mono ?_;rintro e w2 ⟨⟨rfl,-⟩,B2⟩))
    go_ret2;rw[HO.out];exact⟨rfl,qi H.out.be B2 H.out.rdr.hs (lN H.out.be hb)⟩
   | some jr =>
    obtain⟨j,rest⟩:=jr;have HRn:=hid' hr;rw[hr]at HN;obtain⟨j1,j2,⟨q,j3,_⟩,_⟩:=oo _ _ _ _ _ _ _ hr;clear hr;have hij:i<=j:=by omega
    rw[aa]at j2;clear j3;obtain⟨P,hP⟩:=Ex' (p+1);have hP1:1<=P:=by omega
    have hP2:P<=3000:=by omega
    have q1:=div_le_self j P;have r1:=mod_lt j (show 0<P by omega);have HST:Hid ((⟨n,i,pts⟩:St).step (j - i)=⟨n+((j / P:Nat):Int),j % P+1,pts.take (j % P)++(n+((j / P:Nat):Int))::pts.drop (j % P)⟩):=by show _=_;have:=step_eq ⟨n,i,pts⟩ j hij;rw[show(⟨n,i,pts⟩:St).pts.length+1=P by show pts.length+1=P;rw[H.out.len];exact hP]at this;exact this
    obtain⟨Q,hQ⟩:=Ex' (j / P);obtain⟨R,hR⟩:=Ex' (j % P);have eQ:(j:Int) / ((p:Int)+1)=(Q:Int):=by rw[<-hQ,<-hP];push_cast;rfl
    have eR:(j:Int) % ((p:Int)+1)=(R:Int):=by rw[<-hR,<-hP];push_cast;rfl
    rw[hQ,hR]at HST;rw[hQ]at q1;rw[hR]at r1;have rp:R<=p:=by omega
    have HP:=hid' hP;clear hQ hR hP;obtain⟨d,hd'⟩:=Ex' (j - i);have ed:(j:Int) - (i:Int)=(d:Int):=by omega
    have d1:d<=2147483647:=by omega
    rw[hd']at HST;have HD:=hid' hd';clear hd';have HAL:=hid' (xu d (p+1));have HA:=hid' (fun(f:Bool) (w:World)=>(show Calls prog 281 #[.int .i64 d,.int .i64 ((p:Int)+1),.bool f] w _ from rT d (p+1) f (by omega) (by omega) (by omega) w));cases hsc:ar (n+(Q:Int)) with
    | false =>
     have HO:Hid (o=none):=by show _=_;rw[H.out.eq];exact JK _ _ _ _ _ HRn.out (by show ar ((⟨n,i,pts⟩:St).step (j - i)).n=false;rw[HD.out,HST.out];exact hsc)
     have HSC:=hid' hsc;clear hsc
     go_wp2_with(first
       | (go_at_call 300;refine(dv base _ Bs Bl t H.out.rdr).mono ?_;rw[hd];rintro e w' ⟨rfl,hw'⟩;obtain rfl:=hw'.symm)
       | (go_at_call 280;refine HN.out.mono ?_;rintro e w2 ⟨⟨rfl,-⟩,B2⟩)
       | (go_at_call 281;refine(HA.out _ _).mono ?_;rintro e w' ⟨rfl,hw'⟩;obtain rfl:=hw'.symm)
       | (go_at_call 282;refine(pg _ (by omega) (by omega) _).mono ?_;rw[HSC.out];rintro e w3 ⟨rfl,B3⟩))
     go_ret2;rw[HO.out];have b2:=qi H.out.be B2 H.out.rdr.hs (lN H.out.be hb);exact⟨rfl,b2.trans (B3.mono (lN b2 hb))⟩
    | true =>
     have hsl:=mO hsc;have HO:Hid (o=RD ⟨n+(Q:Int),R+1,pts.take R++(n+(Q:Int))::pts.drop R⟩ (adapt d (p+1) (i==0)) rest):=by show _=_;have e:=tU _ _ _ _ _ HRn.out (by show ar ((⟨n,i,pts⟩:St).step (j - i)).n=true;rw[HD.out,HST.out];exact hsc);rw[H.out.eq,e];show RD ((⟨n,i,pts⟩:St).step (j - i)) (adapt (j - i) (pts.length+1) (i==0)) rest=_;rw[HD.out,HST.out,H.out.len]
     have HSC:=hid' hsc;clear hsc
     go_wp2_with(first
       | (go_at_call 300;refine(dv base _ Bs Bl t H.out.rdr).mono ?_;rw[hd];rintro e w' ⟨rfl,hw'⟩;obtain rfl:=hw'.symm)
       | (go_at_call 280;refine HN.out.mono ?_;rintro e w2 ⟨⟨rfl,hex⟩,B2⟩)
       | (go_at_call 281;refine(HA.out _ _).mono ?_;rintro e w' ⟨rfl,hw'⟩;obtain rfl:=hw'.symm)
       | (go_at_call 282;refine(pg _ (by omega) (by omega) _).mono ?_;rw[HSC.out];rintro e w3 ⟨rfl,B3⟩))
     obtain⟨t',RD2,HRt,ht'⟩:=hex;have HRt':=hid' HRt;have htl:t'.size<t.size:=by rw[<-aa t',HRt];exact j2
     clear HRt;have r2:=H.out.row.kept B2 (.inr (H.out.rdr.s.not_row (by decide) H.out.row).symm);have b2:=qi H.out.be B2 H.out.rdr.hs (lN H.out.be hb);have r3:=ax r2 B3 (le_refl _);have RD3:=RD2.below B3 (le_refl _);have b3:=b2.trans (B3.mono (lN b2 hb));have z3:=lN b3 hb;have r4:=r3.alloc (.cells #[.int .i32 (n+(Q:Int))] 21);have RD4:Rdr base (w3.alloc (.cells #[.int .i32 (n+(Q:Int))] 21)) Bs Bl t':=⟨RD3.s.alloc _,RD3.l.alloc _,RD3.hs⟩
     have HI:=yv base (.slice a p c) pts R w3.heap.size (n+(Q:Int)) (w3.alloc (.cells #[.int .i32 (n+(Q:Int))] 21)) (by rw[H.out.len];exact rp) (by rw[H.out.len];omega) (by rw[H.out.len];exact r4) (by simp;omega)
      (Boxed.new w3 21 _) (fun e=>absurd (r3.lt _ e.symm).2 (Nat.lt_irrefl _))
     rw[H.out.len]at HI;refine HI.mono ?_;rintro e w5 ⟨v5,rfl,r5,g5⟩;obtain⟨a5,c5,rfl⟩:=bU r5;have be5:Below base w w5:=(b3.alloc z3 (.cells #[.int .i32 (n+(Q:Int))] 21)).grown g5 (by simp;omega) (fun k ek=>(r3.lt _ ek).1);have RD5:=hid' (RD4.kept r4 g5);have R5:=hid' r5;have BE5:=hid' be5
     have HBB:Hid ((((i:Int)==0):Bool)=(i==0)):=by
      show _=_;cases i with
      | zero=>rfl
      | succ k=>simp;omega
     have hal:=HAL.out ((i:Int)==0) (by omega);clear HI r5 g5 be5 r4 RD4 r3 RD3 b3 b2 r2 RD2 B2 B3;go_wp2
     go_roundw
     case rel =>
      refine⟨a5,c5,true,n+(Q:Int),R+1,p+1,adapt d (p+1) ((i:Int)==0),pts.take R++(n+(Q:Int))::pts.drop R,t',rfl,rfl,rfl,by go_num,by first | rfl | go_num,by omega,by omega,by omega,by omega,by omega,by omega,⟨R5.out,?_,RD5.out,?_,BE5.out⟩⟩
      ·have:=H.out.len;simp;omega
      ·rw[HO.out,HBB.out,HRt'.out]
     case measure =>
      rw[iU RD5.out.s,HSZ.out];exact htl
theorem nh:∀(l:List Int),Bytes l->asc l=true->dec l=l
 | [],_,_=>rfl
 | a::t,hb,ha=>by
  simp only[asc,List.all_cons,Bool.and_eq_true]at ha;have h1:a<128:=by simpa using ha.1
  rw[bg (a::t) (by simp) hb,mu a t h1];show a::dec ((a::t).drop 1)=_;rw[List.drop_one,List.tail_cons,nh t (fun b hb'=>hb b (by simp[hb'])) ha.2]
theorem Jm(l:List Int)(k:Nat)(h:asc l=true):asc (l.take k)=true:=by unfold asc at *;rw[all_eq_true]at *;exact fun x hx=>h x (mem_of_mem_take hx)
theorem oG{base b:Nat}{v:Value}{n:Nat}{X:List Value}{W:World}(h:W.ownsRow base 21 1 v n X)(hb:b<=base):W.ownsRow b 21 1 v n X:=by
 rcases h with⟨h1,h2 | ⟨g,cap,cur,rfl,hbg,h3⟩⟩
 ·exact⟨h1,.inl h2⟩
 ·exact⟨h1,.inr ⟨g,cap,cur,rfl,le_trans hb hbg,h3⟩⟩
def tW(l:List Int):Option (List Int):=RD (run (eu l) []) 72 (aft l)
def zn(l:List Int)(w':World)(base:Nat)(v:Value)(e:Int):Prop :=
 (63<l.length/\v=.slice none 0 0/\e=4)\/(l.length<=63/\(asc l=false\/tW l=none)/\v=.slice none 0 0/\e=8) \/
  (l.length<=63/\asc l=true/\∃ pts,tW l=some pts/\e=0/\w'.ownsRow base 21 1 v pts.length (pts.map (Value.int .i32)))
theorem iA(s:ByteArray)(w:World):
  Calls prog 212 #[.string s] w fun e W'=>(∃ v r,e=.returned (.tuple #[v,.int .i64 r])/\zn (bn s) W' w.heap.size v r)/\Below w.heap.size w W':=by
 go_enter func212,ntmps212;by_cases h1:63<s.size
 ·go_wp2;go_ret2;exact⟨⟨_,_,rfl,.inl ⟨by rw[aa];exact h1,rfl,rfl⟩⟩,Below.refl _ _⟩
 ·have HL:Hid ((bn s).length<=63):=by show _<=_;rw[aa];omega
  cases ha:asc (bn s) with
  | false =>
   have HA:=hid' ha;clear ha;go_wp2_with(go_at_call 239;refine(mB s (by omega) _).mono ?_;rw[HA.out];rintro e w' ⟨rfl,rfl⟩);go_ret2;exact⟨⟨_,_,rfl,.inr (.inl ⟨HL.out,.inl HA.out,rfl,rfl⟩)⟩,Below.refl _ _⟩
  | true =>
   have HA:=hid' ha;clear ha
   go_wp2_with(first
     | (go_at_call 239;refine(mB s (by omega) _).mono ?_;rw[HA.out];rintro e w' ⟨rfl,hw'⟩;obtain rfl:=hw'.symm)
     | (go_at_call 240;refine(yB s (by omega) _).mono ?_;rintro e w1 ⟨x,y,rfl,e1,e2,s1,s2,B1⟩))
   have HD:Hid (dec (bn x)=eu (bn s)):=by show _=_;rw[nh (bn x) (aL x) (by rw[e1];exact Jm _ _ HA.out),e1]
   have HE2:=hid' e2;clear e1 e2;refine(pX x (by omega) _).mono ?_;rintro e w2 ⟨v2,rfl,r2,B2⟩;rw[HD.out]at r2;obtain⟨a2,c2,rfl⟩:=bU r2;have hfl:(eu (bn s)).length<=s.size:=by unfold eu;rw[length_take,aa];omega
   obtain⟨p,hp⟩:=Ex' ((eu (bn s)).length);rw[hp]at r2 hfl ⊢;have HP:=hid' hp;have R2:=hid' r2;have s12:=B1.size;clear hp r2;go_wp2_with fail;refine(Ff w1.heap.size a2 c2 p (eu (bn s)) y w2 HP.out (by omega) (by omega) R2.out B2.size).mono ?_;rw[HE2.out];rintro e w3 ⟨hr,B3⟩;have BB:Below w.heap.size w w3:=(B1.trans (B2.mono B1.size)).trans (B3.mono s12);cases ho:RD (run (eu (bn s)) []) 72 (aft (bn s)) with
   | none =>
    rw[ho]at hr;obtain rfl:=hr;have HO:=hid' ho;clear ho;go_wp2;go_ret2;exact⟨⟨_,_,rfl,.inr (.inl ⟨HL.out,.inr HO.out,rfl,rfl⟩)⟩,BB⟩
   | some pts =>
    rw[ho]at hr;obtain⟨v3,rfl,r3⟩:=hr;obtain⟨a3,c3,rfl⟩:=bU r3;have HO:=hid' ho;have R3:=hid' r3;clear ho r3;go_wp2;go_ret2;exact⟨⟨_,_,rfl,.inr (.inr ⟨HL.out,HA.out,pts,HO.out,rfl,oG R3.out s12⟩)⟩,BB⟩
theorem rL(l:List Int)(h:∀ c∈l,c≠45):∀ k,k<=l.length->iO l k=0
 | 0,_=>rfl
 | k+1,hk=>by rw[iO,if_neg,rL l h k (by omega)];rw[getElem?_eq_getElem (by omega)];exact h _ (getElem_mem _)
theorem rK(l:List Int)(m:Nat)(h:∀ k,m<=k->k<l.length->l[k]?.getD 0≠45):∀ k,m<=k->k<=l.length->iO l k=iO l m
 | 0,h1,_=>by rw[show m=0 by omega]
 | k+1,h1,h2=>by
  by_cases e:m=k+1
  ·rw[e]
  ·rw[iO,if_neg (h k (by omega) (by omega)),rK l m h k (by omega) (by omega)]
theorem Qo(p t:List Int)(hp:0<p.length)(ht:∀ c∈t,45<c):cutAt (p++[45]++t)=p.length:=by
 have hl:(p++[45]++t).length=p.length+1+t.length:=by simp;omega
 unfold cutAt;rw[rK _ (p.length+1) ?_ _ (by omega) (le_refl _)]
 ·rw[iO,if_pos];rw[append_assoc,List.getElem?_append_right (le_refl _),sub_self];rfl
 ·intro k h1 h2;rw[hl]at h2;rw[List.getElem?_append_right (by simp;omega)];have hk:k - (p++[45]).length<t.length:=by simp;omega
  rw[getElem?_eq_getElem hk];have:=ht _ (getElem_mem hk);show t[k - (p++[45]).length]≠45;omega
theorem Gh(p t:List Int)(ht:∀ c∈t,45<c):eu (hd p++t)=p/\aft (hd p++t)=t:=by
 by_cases hp:p.length=0
 ·have e:p=[]:=eq_nil_of_length_eq_zero hp;subst e;have hc:cutAt t=0:=rL t (fun c hc=>by have:=ht c hc;omega) _ (le_refl _);simp only[hd,length_nil,if_true,nil_append];exact⟨by rw[eu,hc];rfl,by rw[aft,if_pos hc]⟩
 ·have e:hd p++t=p++[45]++t:=by unfold hd;rw[if_neg hp]
  rw[e];have hc:=Qo p t (by omega) ht;constructor
  ·rw[eu,hc,append_assoc,List.take_left]
  ·rw[aft,hc,if_neg hp];have:p.length+1=(p++[45]).length:=by simp
   rw[this,drop_left]
theorem tB{l T:List Int}(h:Enc l T)(hs:l.all ar=true)(hl:l.length<=63):tW T=some l/\asc T=true:=by
 have hsc:∀ x∈l,ar x=true:=List.all_eq_true.1 hs;have h0:∀ x∈l,0<=x:=fun x hx=>(mO (hsc x hx)).1;constructor
 ·obtain⟨ds,rfl,hr⟩:=h;obtain⟨e1,e2⟩:=Gh (plain l) (tx (plain l).length ds) (fun c hc=>(nP _ ds c hc).1);unfold tW;rw[e1,e2];have hlen:=dF (plain l) ds;rw[hr]at hlen;have:=Oc (plain l) (oD l) [] ds (by rw[hr];exact hsc) (by omega) [];rw[append_nil]at this;exact this.trans (by rw[QH,hr])
 ·unfold asc;rw[all_eq_true];intro c hc;have:=h.ascii h0 c hc;simp;omega
def lower(L:List Int):List Int:=if cutAt L=0 then L.map low else L.take (cutAt L+1)++(L.drop (cutAt L+1)).map low
theorem nf{L pts:List Int}(h:tW L=some pts)(ha:asc L=true)(hb:Bytes L)(hl:L.length<=63):Enc pts (lower L)/\pts.all ar=true/\pts.length<=63:=by
 have hf:∀ x∈eu L,0<=x/\x<128:=fun x hx=>by have hm:=mem_of_mem_take hx;have h1:=List.all_eq_true.1 ha x hm;exact⟨(hb x hm).1,by simpa using h1⟩
 obtain⟨es,h1,h2,h3⟩:=AH (eu L) hf (aft L).length (aft L) [] pts (le_refl _) (fun x hx=>Fa (hf x hx).1 (hf x hx).2) h;have hpl:plain pts=eu L:=by rw[<-h1];exact zN (eu L) (fun x hx=>(hf x hx).2) es
 have hlow:lower L=hd (eu L)++(aft L).map low:=by
  unfold lower hd aft eu;by_cases hc:cutAt L=0
  ·rw[if_pos hc,hc,if_pos (by simp),if_pos rfl];rfl
  ·have hk:=tG L L.length hc;change L[cutAt L]?.getD 0=45/\cutAt L<L.length at hk;rw[if_neg hc,if_neg hc,if_neg (by rw[length_take];omega),bT L _ hk.2,hk.1]
 have htx:tx (eu L).length es=(aft L).map low:=by rw[h2];simp[tx]
 have hE:Enc pts (lower L):=⟨es,by rw[hpl,hlow,htx],by rw[hpl];exact h1⟩;refine⟨hE,List.all_eq_true.2 h3,?_⟩;have l1:=dF (eu L) es;rw[h1]at l1;have l2:=Ee (eu L).length es;rw[htx,length_map]at l2
 have l3:(eu L).length+(aft L).length<=L.length:=by
  unfold eu aft;split
  ·rename_i hc;rw[hc];simp
  ·rw[length_take,length_drop];omega
 omega
end P
namespace I
def rdx(T:List Int):Option (List Int):=if 63<T.length then none else if P.asc T=false then none else P.tW T
def one(l:List Int)(hy:Bool):List Int×Int :=
 if L.dr l=false then (l,L.flt l hy) else if plain l=false then (l,512) else match rdx (l.drop 4) with
  | none=>(l,512)
  | some m=>if plain m=true then (l,512) else (m,L.flt m hy)
def il(xs:List (List Int×Int)):Bool:=xs.any fun x=>L.kR x.1
def dV(x:List Int×Int):List Int×Int:=(x.1,if L.dU x.1 then x.2 else x.2+256)
def prc(X:List Int)(hy:Bool):List (List Int×Int) :=
 if il ((spl X).map fun l=>one l hy)=true then ((spl X).map fun l=>one l hy).map dV else (spl X).map fun l=>one l hy
def noF(xs:List (List Int×Int)):Bool:=xs.all fun x=>decide (x.2=0)
theorem one_nonneg(l:List Int)(hy:Bool):0<=(one l hy).2:=by
 unfold one;split
 ·exact gS l hy
 ·split
  ·show(0:Int)<=512;omega
  ·split
   ·show(0:Int)<=512;omega
   ·split
    ·show(0:Int)<=512;omega
    ·exact gS _ hy
theorem vm{l:List Int}{hy:Bool}(h:(one l hy).2=0):L.flt (one l hy).1 hy=0:=by
 unfold one at h ⊢;split
 ·rename_i h1;rw[if_pos h1]at h;exact h
 ·rename_i h1;rw[if_neg h1]at h;split
  ·rename_i h2;rw[if_pos h2]at h;exact absurd h (show ¬ (512:Int)=0 by omega)
  ·rename_i h2;rw[if_neg h2]at h;cases hr:rdx (l.drop 4) with
   | none =>
    rw[hr]at h;exact absurd h (show ¬ (512:Int)=0 by omega)
   | some m =>
    rw[hr]at h;simp only at h ⊢;split
    ·rename_i h3;rw[if_pos h3]at h;exact absurd h (show ¬ (512:Int)=0 by omega)
    ·rename_i h3;rw[if_neg h3]at h;exact h
structure Ok(hy:Bool)(ls:List (List Int)):Prop where
 ne:ls≠[]
 flt:∀ l∈ls,L.flt l hy=0
 bidi:ls.any L.kR=true->∀ l∈ls,L.dU l=true
theorem any_map{α β:Type}(f:α->β)(p:β->Bool):∀ l:List α,(l.map f).any p=l.any (fun x=>p (f x))
 | []=>rfl
 | a::l=>by rw[map_cons,List.any_cons,List.any_cons,any_map f p l]
theorem rf:∀(ys:List (List Int×Int)),(∀ x∈ys,x.2=0)->ys=(ys.map (·.1)).map (fun l=>(l,0))
 | [],_=>rfl
 | y::ys,h=>by have h1:=rf ys (fun x hx=>h x (by simp[hx]));have h2:=h y (by simp);rw[map_cons,map_cons,<-h1];congr 1;exact Prod.ext rfl h2
theorem oY{p:Int->Prop}(h46:p 46):∀(xs:List (List Int)),(∀ l∈xs,∀ r∈l,p r)->∀ r∈join xs,p r
 | [],_,r,hr=>by simp[join]at hr
 | [a],hx,r,hr=>hx a (by simp) r hr
 | a::b::l,hx,r,hr=>by
  rw[join]at hr;rcases List.mem_append.1 hr with hr | hr
  ·exact hx a (by simp) r hr
  ·rcases List.mem_cons.1 hr with rfl | hr
   ·exact h46
   ·exact oY h46 (b::l) (fun x hx'=>hx x (by simp at hx' ⊢;exact .inr hx')) r hr
theorem OT{X:List Int}{hy:Bool}(h:noF (prc X hy)=true):Ok hy ((prc X hy).map (·.1))/\prc X hy=((prc X hy).map (·.1)).map (fun l=>(l,0)):=by
 have hz:∀ x∈prc X hy,x.2=0:=fun x hx=>by simpa using List.all_eq_true.1 h x hx
 obtain⟨a,t,hs⟩:=aV X;have h2:prc X hy=((prc X hy).map (·.1)).map (fun l=>(l,0)):=by exact rf _ hz
 refine⟨?_,h2⟩;by_cases hr:il ((spl X).map fun l=>one l hy)=true
 ·have e:prc X hy=((spl X).map fun l=>one l hy).map dV:=by unfold prc;rw[if_pos hr]
  rw[e]at hz ⊢
  have hb:∀ x∈(spl X).map (fun l=>one l hy),x.2=0/\L.dU x.1=true:=fun x hx=>by
   have h1:=hz (dV x) (mem_map_of_mem hx);obtain⟨l,_,rfl⟩:=List.mem_map.1 hx;have h3:=one_nonneg l hy;unfold dV at h1;by_cases hk:L.dU (one l hy).1=true
   ·simp only[hk,if_true]at h1;exact⟨h1,hk⟩
   ·simp only[hk]at h1;simp at h1;omega
  have em:(((spl X).map fun l=>one l hy).map dV).map (·.1)=(spl X).map fun l=>(one l hy).1:=by rw[map_map,map_map];rfl
  rw[em];refine⟨by rw[hs];simp,?_,?_⟩
  ·intro l hl;obtain⟨y,hy',rfl⟩:=List.mem_map.1 hl;exact vm (hb _ (mem_map_of_mem hy')).1
  ·intro _ l hl;obtain⟨y,hy',rfl⟩:=List.mem_map.1 hl;exact(hb _ (mem_map_of_mem hy')).2
 ·have e:prc X hy=(spl X).map fun l=>one l hy:=by unfold prc;rw[if_neg hr]
  rw[e]at hz ⊢;have em:((spl X).map fun l=>one l hy).map (·.1)=(spl X).map fun l=>(one l hy).1:=by rw[map_map];rfl
  rw[em];refine⟨by rw[hs];simp,?_,?_⟩
  ·intro l hl;obtain⟨y,hy',rfl⟩:=List.mem_map.1 hl;exact vm (hz _ (mem_map_of_mem hy'))
  ·intro hg;unfold il at hr;rw[any_map]at hr hg;exact absurd hg hr
theorem OU{hy:Bool}{ls:List (List Int)}(hok:Ok hy ls)(f:List Int->List Int)(hd:∀ l∈ls,46∉f l)(h1:∀ l∈ls,one (f l) hy=(l,0)):prc (join (ls.map f)) hy=ls.map fun l=>(l,0):=by
 have hs:spl (join (ls.map f))=ls.map f:=dM _ (by simpa using hok.ne) (fun a ha=>by
   obtain⟨l,hl,rfl⟩:=List.mem_map.1 ha
   exact hd l hl)
 have hm:(ls.map f).map (fun l=>one l hy)=ls.map fun l=>(l,0):=by rw[map_map];exact List.map_congr_left (fun l hl=>h1 l hl)
 unfold prc;rw[hs,hm];split
 ·rename_i hr;unfold il at hr;rw[any_map]at hr;have hb:=hok.bidi hr;rw[map_map];apply List.map_congr_left;intro l hl;simp[dV,hb l hl]
 ·rfl
theorem vq{l:List Int}{hy:Bool}(h:L.flt l hy=0):one l hy=(l,0):=by unfold one;rw[if_pos (Ar h).pre,h]
def Part(l p:List Int):Prop:=(plain l=true/\p=l)\/(plain l=false/\∃ T,P.Enc l T/\T.length<=63/\l.length<=63/\l.all U.ar=true/\p=[120,110,45,45]++T)
theorem De{l T:List Int}(h:P.Enc l T):∀ c∈T,(c∈l/\c<128)\/97<=c/\c<=122\/48<=c/\c<=57\/c=45:=by
 obtain⟨ds,rfl,hr⟩:=h
 have hsg:∀ d,d<36->97<=P.sgn d/\P.sgn d<=122\/48<=P.sgn d/\P.sgn d<=57\/P.sgn d=45:=fun d hd=>by
  unfold P.sgn;split
  ·exact .inl (by omega)
  ·exact .inr (.inl (by omega))
 have hwn:∀(q b k:Nat),∀ c∈P.wn b k q,97<=c/\c<=122\/48<=c/\c<=57\/c=45:=by
  intro q
  induction q using Nat.strongRecOn with
  | ind q ih =>
   intro b k c hc;have h1:=P.fH k b;have h2:=P.jD k b;rw[P.kd]at hc;split at hc
   ·simp at hc;subst hc;exact hsg _ (by omega)
   ·rename_i hq;rcases List.mem_cons.1 hc with rfl | hc
    ·exact hsg _ (P.nM b k q hq)
    ·have:=div_le_self (q - P.thr k b) (36 - P.thr k b);exact ih _ (by omega) b (k+36) c hc
 have htx:∀(ds:List Nat) (p:Nat),∀ c∈P.tx p ds,97<=c/\c<=122\/48<=c/\c<=57\/c=45:=by
  intro ds
  induction ds with
  | nil=>intro p c hc;simp[P.tx]at hc
  | cons d ds ih =>
   intro p c hc;rw[P.tx]at hc;rcases List.mem_append.1 hc with hc | hc
   ·exact ih p c hc
   ·exact hwn _ _ _ c hc
 intro c hc;rcases List.mem_append.1 hc with hc | hc
 ·unfold P.hd at hc;split at hc
  ·simp at hc
  ·rcases List.mem_append.1 hc with hc | hc
   ·left;unfold P.plain at hc;have:=List.mem_filter.1 hc;exact⟨this.1,by simpa using this.2⟩
   ·simp at hc;exact .inr (.inr (.inr hc))
 ·exact .inr (htx ds _ c hc)
theorem Lc(T:List Int):L.dr ([120,110,45,45]++T)=true:=by unfold L.dr;exact decide_eq_true rfl
theorem aR{hy:Bool}{l p:List Int}(h:L.flt l hy=0)(hp:Part l p):one p hy=(l,0)/\46∉p/\(∀ c∈p,(0<=c/\c<128)/\(L.sts c=1\/L.sts c=4)):=by
 have hf:=Ar h;rcases hp with⟨h1,rfl⟩ | ⟨h1,T,hE,hT,hl,hs,rfl⟩
 ·exact⟨vq h,hf.dot,fun c hc=>⟨cH.1 h1 c hc,hf.val c hc⟩⟩
 ·have hsc:=fun c hc=>P.mO (List.all_eq_true.1 hs c hc);have hch:=De hE
  have hall:∀ c∈[120,110,45,45]++T,(0<=c/\c<128)/\(L.sts c=1\/L.sts c=4)/\c≠46:=by
   intro c hc;have key:∀ c:Int,(97<=c/\c<=122\/48<=c/\c<=57\/c=45)->(0<=c/\c<128)/\(L.sts c=1\/L.sts c=4)/\c≠46:=fun c h=>⟨by omega,.inl (eG c (by omega)),by omega⟩;rcases List.mem_append.1 hc with hc | hc
   ·apply key;simp at hc;omega
   ·rcases hch c hc with⟨hm,h128⟩ | hk
    ·exact⟨⟨(hsc c hm).1,h128⟩,hf.val c hm,fun e=>hf.dot (e ▸ hm)⟩
    ·exact key c hk
  refine⟨?_,fun hm=>(hall 46 hm).2.2 rfl,fun c hc=>⟨(hall c hc).1,(hall c hc).2.1⟩⟩;obtain⟨hd,ha⟩:=P.tB hE hs hl;have hpl:plain ([120,110,45,45]++T)=true:=cH.2 (fun c hc=>(hall c hc).1);have hdr:([120,110,45,45]++T:List Int).drop 4=T:=rfl;unfold one;rw[if_neg (by rw[Lc];decide),if_neg (by rw[hpl];decide),hdr];have hr:rdx T=some l:=by unfold rdx;rw[if_neg (by omega),if_neg (by rw[ha];decide),hd]
  rw[hr];simp only;rw[if_neg (by rw[h1];decide),h]
theorem OF{hy:Bool}{ls:List (List Int)}(hok:Ok hy ls)(f:List Int->List Int)(hp:∀ l∈ls,Part l (f l)):prc (Mp (join (ls.map f))) hy=ls.map fun l=>(l,0):=by
 have h1:∀ l∈ls,_:=fun l hl=>aR (hok.flt l hl) (hp l hl);have hc:∀ c∈join (ls.map f),(0<=c/\c<128)/\(L.sts c=1\/L.sts c=4):=by refine oY (p:=fun c=>(0<=c/\c<128)/\(L.sts c=1\/L.sts c=4)) ⟨by omega,.inl (eG 46 (by omega))⟩ _ (fun a ha=>?_);obtain⟨l,hl,rfl⟩:=List.mem_map.1 ha;exact(h1 l hl).2.2
 have hM:Mp (join (ls.map f))=join (ls.map f):=by unfold Mp;rw[lS _ (fun r hr=>(hc r hr).2)];exact(jn _ (fun c h=>(hc c h).1)).1
 rw[hM];exact OU hok f (fun l hl=>(h1 l hl).2.1) (fun l hl=>(h1 l hl).1)
theorem Rm(b:Int):(N.pr 46 b).2=false:=by
 unfold N.pr D.prf
 have h:D.prs.find? (fun x=>x.2.1==46&&x.2.2==b)=none:=by
  rw[List.find?_eq_none];intro x hx;have:∀ x∈D.prs,(x.2.1==46)=false:=by decide +kernel
  simp[this x hx]
 rw[h]
theorem Lo(p:N.Pt)(y:List N.Pt)(hp:p.2=0):N.ord (p::y)=p::N.ord y:=by
 unfold N.ord N.st;rw[foldl_cons];have e2:N.stp ([],[]) p=([p]++[],[]):=by simp[N.stp,hp,N.cV]
 rw[e2,N.lF];rfl
theorem Ka(z:List N.Pt):∀(B:List N.Pt),N.bw (z.foldl N.bj (some ([],(46,0)),B))=(46,0)::N.bw (z.foldl N.bj (none,B)):=by
 induction z with
 | nil=>intro B;rfl
 | cons c z ih =>
  intro B;rw[foldl_cons,foldl_cons];have e1:N.bj (some ([],(46,0)),B) c=if c.2=0 then (some ([]++(46,0)::B,c),[]) else (some ([],(46,0)),B++[c]):=by show(if N.rch B c=true/\(N.pr 46 c.1).2=true then _ else _)=_;rw[if_neg (by rw[Rm];simp)]
  have e2:N.bj (none,B) c=if c.2=0 then (some (B,c),[]) else (none,B++[c]):=rfl;rw[e1,e2];by_cases h:c.2=0
  ·rw[if_pos h,if_pos h];have:=N.qM z [(46,0)] B [] c;exact this
  ·rw[if_neg h,if_neg h];exact ih (B++[c])
theorem RO:N.fd 46=[46]:=by decide +kernel
theorem LQ(B:List Int):N.cI (46::B)=46::N.cI B:=by
 unfold N.cI
 have e:((46::B).flatMap N.fd).map N.pt=(46,0)::(B.flatMap N.fd).map N.pt:=by
  rw[flatMap_cons,RO,map_append];have:N.pt 46=(46,0):=by show(46,N.cl 46)=_;rw[NY]
  show [N.pt 46]++_=_;rw[this];rfl
 rw[e,Lo _ _ rfl];unfold N.comp N.tst;rw[foldl_cons];have e2:N.bj (none,[]) (46,0)=(some ([],(46,0)),[]):=rfl;rw[e2,Ka];rfl
theorem LP(A B:List Int):N.cI (A++46::B)=N.cI A++46::N.cI B:=by rw[N.vD A (46::B) (.inr ⟨46,B,rfl,NY⟩),LQ]
theorem QJ(x y:List Int):Mp (x++46::y)=Mp x++46::Mp y:=by unfold Mp;rw[List.flatMap_append,flatMap_cons,lO 46 (.inl (eG 46 (by omega)))];exact LP _ _
theorem Ac(c:Int)(b:List Int)(hc:c<128):∀(f:Nat) (t:List Int) (n:Nat) (r lo hi:Int),128<=lo->U.nxl f (t++c::b) n r lo hi=U.nxl f t n r lo hi
 | 0,t,n,r,lo,hi,_=>by simp[U.nxl]
 | f+1,[],n,r,lo,hi,h=>by
  show(if c<lo\/hi<c then ((65533:Int),n,false) else U.nxl f b (n+1) (r * 64+c % 64) 128 191)=(65533,n,false);rw[if_pos (.inl (by omega))]
 | f+1,a::t,n,r,lo,hi,h=>by
  show U.nxl (f+1) (a::(t++c::b)) n r lo hi=_;rw[U.nxl,U.nxl];split
  ·rfl
  ·exact Ac c b hc f t _ _ _ _ (by omega)
theorem Pq(c:Int)(b a:List Int)(hc:c<128)(h:a≠[]):U.nx (a++c::b)=U.nx a:=by
 cases a with
 | nil=>exact absurd rfl h
 | cons x t =>
  show U.nx (x::(t++c::b))=_;rw[U.nx,U.nx];split
  ·rfl
  ·split
   ·rfl
   ·exact Ac c b hc _ t _ _ _ _ (U.jP x)
theorem ng(c:Int)(b:List Int)(h0:0<=c)(hc:c<128)(hb:U.Bytes b):∀(n:Nat) (a:List Int),a.length<=n->U.Bytes a->U.dec (a++c::b)=U.dec a++c::U.dec b
 | n,[],_,_=>by
  have hB:U.Bytes (c::b):=fun x hx=>by
   rcases List.mem_cons.1 hx with rfl | hx
   ·omega
   ·exact hb x hx
  rw[nil_append,U.bg (c::b) (by simp) hB,U.mu c b hc,U.eC];rfl
 | 0,x::t,h,_=>by simp at h
 | n+1,x::t,h,hB=>by
  have hB2:U.Bytes ((x::t)++c::b):=fun y hy=>by
   rcases List.mem_append.1 hy with hy | hy
   ·exact hB y hy
   ·rcases List.mem_cons.1 hy with rfl | hy
    ·omega
    ·exact hb y hy
  have hn:=U.oJ (x::t) (by simp)
  rw[U.bg _ (by simp) hB2,Pq c b (x::t) hc (by simp),U.bg (x::t) (by simp) hB,List.drop_append_of_le_length hn.2,
    ng c b h0 hc hb n _ (by rw[length_drop];simp at h ⊢;omega) (hB.drop _)]
  rfl
def Alt(c:Int)(g:List Int):Prop:=g=[c]\/((97<=c/\c<=122)/\g=[c - 32])\/((97<=c/\c<=122\/48<=c/\c<=57)/\g=U.enc (c+65248))
theorem Alt.same(c:Int):Alt c [c]:=.inl rfl
theorem Alt.cap(c:Int)(h:97<=c/\c<=122):Alt c [c - 32]:=.inr (.inl ⟨h,rfl⟩)
theorem Alt.wide(c:Int)(h:97<=c/\c<=122\/48<=c/\c<=57):Alt c (U.enc (c+65248)):=.inr (.inr ⟨h,rfl⟩)
theorem Alt.cut{c:Int}{motive:(g:List Int)->Alt c g->Prop}(same:motive [c] (Alt.same c))(cap:∀ h,motive [c - 32] (Alt.cap c h))
  (wide:∀ h,motive (U.enc (c+65248)) (Alt.wide c h)) {g:List Int} (h:Alt c g):motive g h:=by
 rcases h with rfl | ⟨h,rfl⟩ | ⟨h,rfl⟩
 ·exact same
 ·exact cap h
 ·exact wide h
def bL:List Int->List Int->Prop
 | [],t=>t=[]
 | c::s,t=>∃ g u,Alt c g/\bL s u/\t=g++u
theorem bL.nil:bL [] []:=rfl
theorem bL.cons{c:Int}{g s t:List Int}(h:Alt c g)(hs:bL s t):bL (c::s) (g++t):=⟨g,t,h,hs,rfl⟩
theorem bL.cut{motive:(s t:List Int)->bL s t->Prop}(nil:motive [] [] bL.nil)
  (cons:∀ {c:Int} {g s t:List Int} (h:Alt c g) (hs:bL s t),motive s t hs->motive (c::s) (g++t) (bL.cons h hs)) :
  ∀ {s t:List Int} (h:bL s t),motive s t h
 | [],t,h=>by
  obtain rfl:t=[]:=h;exact nil
 | c::s,t,h=>by obtain⟨g,u,h1,h2,rfl⟩:=h;exact cons h1 h2 (bL.cut nil cons h2)
theorem nN:∀ c:Fin 128,(97<=c.val/\c.val<=122\/48<=c.val/\c.val<=57)->U.ar ((c.val:Int)+65248)=true/\(∃ x y z,U.enc ((c.val:Int)+65248)=[x,y,z]/\191<x)/\mpx ((c.val:Int)+65248)=[(c.val:Int)]:=by
 have:∀ c:Fin 128,(97<=c.val/\c.val<=122\/48<=c.val/\c.val<=57)->U.ar ((c.val:Int)+65248)=true/\(U.enc ((c.val:Int)+65248)).length=3/\191<(U.enc ((c.val:Int)+65248)).headD 0/\mpx ((c.val:Int)+65248)=[(c.val:Int)]:=by decide +kernel
 intro c h;obtain⟨h1,h2,h3,h4⟩:=this c h;refine⟨h1,?_,h4⟩;generalize U.enc ((c.val:Int)+65248)=e at h2 h3;match e,h2 with
 | [x,y,z],_=>exact⟨x,y,z,rfl,h3⟩
theorem Ni:∀ c:Fin 128,(97<=c.val/\c.val<=122)->mpx ((c.val:Int) - 32)=[(c.val:Int)]:=by decide +kernel
theorem Aj(c:Int)(h:97<=c/\c<=122\/48<=c/\c<=57):mpx c=[c]:=lO c (.inl (eG c (by omega)))
theorem Gv:∀ {s t:List Int},bL s t->∀(f n:Nat) (r lo hi:Int),128<=lo->hi<=191->U.nxl f t n r lo hi=U.nxl f s n r lo hi:=by
 intro s t h
 induction h using bL.cut with
 | nil=>intro f n r lo hi _ _;rfl
 | @cons c g s t ha hs ih =>
  intro f n r lo hi h1 h2;cases f with
  | zero=>simp[U.nxl]
  | succ f =>
   cases ha using Alt.cut with
   | same =>
    show U.nxl (f+1) (c::t) n r lo hi=_;rw[U.nxl,U.nxl];split
    ·rfl
    ·exact ih f _ _ _ _ (by omega) (by omega)
   | cap hc =>
    show U.nxl (f+1) ((c - 32)::t) n r lo hi=_;rw[U.nxl,U.nxl,if_pos (.inl (by omega)),if_pos (.inl (by omega))]
   | wide hc =>
    obtain⟨k,rfl⟩:∃ k:Nat,c=k:=⟨c.toNat,by omega⟩;obtain⟨_,⟨x,y,z,he,hx⟩,_⟩:=nN ⟨k,by omega⟩ (by simp only;omega);simp only at he;rw[he];show U.nxl (f+1) (x::([y,z]++t)) n r lo hi=_;rw[U.nxl,U.nxl,if_pos (.inr (by omega)),if_pos (.inl (by omega))]
theorem rS:∀(n:Nat) {s t:List Int},bL s t->(∀ c∈s.take n,128<=c)->bL (s.drop n) (t.drop n)
 | 0,s,t,h,_=>h
 | n+1,[],t,h,_=>by
  obtain rfl:t=[]:=h;simp;exact .nil
 | n+1,c::s,_,⟨g,t,ha,hs,rfl⟩,hc=>by
  have h1:128<=c:=hc c (by simp)
  have h2:g=[c]:=by
   cases ha using Alt.cut with
   | same=>rfl
   | cap h=>omega
   | wide h=>omega
  subst h2;show bL (s.drop n) (t.drop n);exact rS n hs (fun x hx=>hc x (by simp[hx]))
theorem vB:∀(f:Nat) (t:List Int) (n:Nat) (r lo hi:Int),128<=lo->∀ c∈t.take ((U.nxl f t n r lo hi).2.1 - n),128<=c
 | 0,t,n,r,lo,hi,_,c,hc=>by simp[U.nxl]at hc
 | f+1,[],n,r,lo,hi,_,c,hc=>by simp at hc
 | f+1,a::t,n,r,lo,hi,h,c,hc=>by
  rw[U.nxl]at hc;split at hc
  ·simp at hc
  ·rename_i hno;have hm:=(U.Ab f t (n+1) (r * 64+a % 64) 128 191).1;obtain⟨m,hm2⟩:∃ m,(U.nxl f t (n+1) (r * 64+a % 64) 128 191).2.1 - n=m+1:=⟨(U.nxl f t (n+1) (r * 64+a % 64) 128 191).2.1 - n - 1,by omega⟩;rw[hm2]at hc;rcases List.mem_cons.1 hc with rfl | hc
   ·omega
   ·exact vB f t (n+1) _ 128 191 (by omega) c (by rw[show(U.nxl f t (n+1) (r * 64+a % 64) 128 191).2.1 - (n+1)=m by omega];exact hc)
theorem Ls(a:Int)(t:List Int)(h:128<=a):∀ c∈(a::t).take (U.nx (a::t)).2.1,128<=c:=by
 intro c hc;rw[U.nx,if_neg (by omega)]at hc;split at hc
 ·simp at hc;omega
 ·have hm:=(U.Ab (U.follow a).toNat t 1 (if U.follow a=1 then a % 32 else if U.follow a=2 then a % 16 else a % 8) (U.aU a) (U.aQ a)).1;have ht:=vB (U.follow a).toNat t 1 (if U.follow a=1 then a % 32 else if U.follow a=2 then a % 16 else a % 8) (U.aU a) (U.aQ a) (U.jP a);generalize (U.nxl (U.follow a).toNat t 1 (if U.follow a=1 then a % 32 else if U.follow a=2 then a % 16 else a % 8) (U.aU a) (U.aQ a)).2.1=m at hc hm ht;obtain⟨k,rfl⟩:∃ k,m=k+1:=⟨m - 1,by omega⟩;rcases List.mem_cons.1 hc with rfl | hc
  ·exact h
  ·exact ht c (by simpa using hc)
theorem qt:∀ {s t:List Int},bL s t->U.Bytes s->U.Bytes t:=by
 intro s t h
 induction h using bL.cut with
 | nil=>intro h;exact h
 | @cons c g s t ha hs ih =>
  intro hB x hx;have hc:=hB c (by simp);rcases List.mem_append.1 hx with hx | hx
  ·cases ha using Alt.cut with
   | same=>simp at hx;subst hx;exact hc
   | cap h=>simp at hx;omega
   | wide h =>
    obtain⟨k,rfl⟩:∃ k:Nat,c=k:=⟨c.toNat,by omega⟩;have:∀ c:Fin 128,(97<=c.val/\c.val<=122\/48<=c.val/\c.val<=57)->∀ x∈U.enc ((c.val:Int)+65248),0<=x/\x<=255:=by decide +kernel
    exact this ⟨k,by omega⟩ (by simp only;omega) x hx
  ·exact ih (fun y hy=>hB y (by simp[hy])) x hx
theorem lv:∀(n:Nat) (s t:List Int),s.length<=n->U.Bytes s->bL s t->(U.dec t).flatMap mpx=(U.dec s).flatMap mpx
 | 0,s,t,h,hB,ha=>by
  obtain rfl:s=[]:=eq_nil_of_length_eq_zero (by omega);obtain rfl:t=[]:=ha;rfl
 | n+1,s,t,h,hB,ha=>by
  have hBt:=qt ha hB;cases ha using bL.cut with
  | nil=>rfl
  | @cons c g s t hg hs _ =>
   have hBs:U.Bytes s:=fun y hy=>hB y (by simp[hy]);have hBt':U.Bytes t:=qt hs hBs;by_cases hc:c<128
   ·have e1:(U.dec (c::s)).flatMap mpx=mpx c++(U.dec s).flatMap mpx:=by rw[U.bg (c::s) (by simp) hB,U.mu c s hc];rfl
    have ih:=lv n s t (by simp at h;omega) hBs hs;rw[e1,<-ih];cases hg using Alt.cut with
    | same =>
     show(U.dec (c::t)).flatMap mpx=_;rw[U.bg (c::t) (by simp) hBt,U.mu c t hc];rfl
    | cap hk =>
     show(U.dec ((c - 32)::t)).flatMap mpx=_;rw[U.bg ((c - 32)::t) (by simp) hBt,U.mu (c - 32) t (by omega)];obtain⟨k,rfl⟩:∃ k:Nat,c=k:=⟨c.toNat,by omega⟩;have hm:=Ni ⟨k,by omega⟩ (by simp only;omega);simp only at hm;rw[flatMap_cons];show mpx ((k:Int) - 32)++_=_;rw[hm,Aj _ (.inl hk)];rfl
    | wide hk =>
     obtain⟨k,rfl⟩:∃ k:Nat,c=k:=⟨c.toNat,by omega⟩;obtain⟨w1,⟨x,y,z,he,hx⟩,w3⟩:=nN ⟨k,by omega⟩ (by simp only;omega);simp only at w1 w3;have hne:U.enc ((k:Int)+65248)++t≠[]:=by simp only at he;rw[he];simp
     rw[U.bg _ hne hBt,U.sN _ w1 t,drop_left,flatMap_cons,w3,Aj _ hk]
   ·have h2:g=[c]:=by
     cases hg using Alt.cut with
     | same=>rfl
     | cap h=>omega
     | wide h=>omega
    subst h2
    have hx:U.nx (c::t)=U.nx (c::s):=by
     rw[U.nx,U.nx,if_neg hc,if_neg hc];split
     ·rfl
     ·exact Gv hs _ _ _ _ _ (U.jP c) (U.kM c)
    have hn:=U.oJ (c::s) (by simp);show(U.dec (c::t)).flatMap mpx=_;rw[U.bg (c::t) (by simp) hBt,U.bg (c::s) (by simp) hB,hx,flatMap_cons,flatMap_cons];congr 1;have hd:=rS (U.nx (c::s)).2.1 (bL.cons (Alt.same c) hs) (Ls c s (by omega));exact lv n _ _ (by rw[length_drop];simp at h ⊢;omega) (hB.drop _) hd
def ld(c:Int):Prop:=97<=c/\c<=122\/48<=c/\c<=57
theorem RE:∀ c:Fin 128,(97<=c.val/\c.val<=122\/48<=c.val/\c.val<=57)->L.mrk (c.val:Int)=false/\L.bid (c.val:Int)≠2/\L.bid (c.val:Int)≠3/\L.bid (c.val:Int)≠7:=by decide +kernel
theorem NT(c:Int)(h:ld c):L.mrk c=false/\L.bid c≠2/\L.bid c≠3/\L.bid c≠7:=by unfold ld at h;obtain⟨k,rfl⟩:∃ k:Nat,c=k:=⟨c.toNat,by omega⟩;exact RE ⟨k,by omega⟩ (by simp only;omega)
theorem get_mem{l:List Int}{i:Nat}(h:i<l.length):l[i]?.getD 0∈l:=by rw[getElem?_eq_getElem h];exact getElem_mem h
theorem PJ(l:List Int)(hy:Bool)(h:∀ c∈l,ld c):L.flt l hy=0:=by
 by_cases h0:l.length=0
 ·unfold L.flt;rw[if_pos h0]
 ·have hasc:∀ c∈l,0<=c/\c<128:=fun c hc=>by have:=h c hc;unfold ld at this;omega
  have n45:∀ i,i<l.length->l[i]?.getD 0≠45:=fun i hi e=>by have:=h _ (get_mem hi);unfold ld at this;omega
  have e1:(!decide (N.cI l=l))=false:=by rw[decide_eq_true (jn l hasc).1];rfl
  have e2:(hy&&decide (4<=l.length)&&decide (l[2]?.getD 0=45)&&decide (l[3]?.getD 0=45))=false:=by
   by_cases h4:4<=l.length
   ·rw[decide_eq_false (n45 2 (by omega))];simp
   ·rw[decide_eq_false h4];simp
  have e3:(hy&&(decide (l[0]?.getD 0=45)||decide (l[l.length - 1]?.getD 0=45)))=false:=by rw[decide_eq_false (n45 0 (by omega)),decide_eq_false (n45 (l.length - 1) (by omega))];simp
  have e4:L.dr l=false:=by
   unfold L.dr;apply decide_eq_false;intro e;have hm:(45:Int)∈l.take 4:=by rw[e];simp
   have:=h 45 (mem_of_mem_take hm);unfold ld at this;omega
  have e5:l.any (fun r=>decide (r=46))=false:=by rw[List.any_eq_false];intro r hr;have:=h r hr;unfold ld at this;simp;omega
  have e6:L.mrk (l[0]?.getD 0)=false:=(NT _ (h _ (get_mem (by omega)))).1;have e7:l.any L.eP=false:=by rw[List.any_eq_false];intro r hr;have h2:=h r hr;unfold ld at h2;simp[L.eP,eG r (by omega)]
  have e8:L.jok l=true:=by unfold L.jok;rw[all_eq_true];intro i hi;have hi':i<l.length:=List.mem_range.1 hi;have h2:=h _ (get_mem hi');unfold ld at h2;unfold L.jat;rw[decide_eq_false (by omega),decide_eq_false (by omega)];rfl
  rw[nd l hy h0,e1,e2,e3,e4,e5,e6,e7,e8];rfl
theorem Hj(l:List Int)(h:∀ c∈l,ld c):L.kR l=false:=by
 unfold L.kR L.has;have k:∀ b,(b=2\/b=3\/b=7)->(l.any fun r=>decide (L.bid r=b))=false:=fun b hb=>by rw[List.any_eq_false];intro r hr;have:=NT r (h r hr);rcases hb with rfl | rfl | rfl <;> simp[this]
 rw[k 2 (by simp),k 3 (by simp),k 7 (by simp)];rfl
def nu(c:Int):Nat:=if c<128 then 4 else if c<2048 then 2 else if c<65536 then 3 else 4
def nus(l:List Int):Nat:=(l.map nu).sum
theorem Lu:nus []=0:=rfl
theorem oL(c:Int)(l:List Int):nus (c::l)=nu c+nus l:=by simp[nus]
theorem oM(a b:List Int):nus (a++b)=nus a+nus b:=by simp[nus]
theorem GC{a b:List Int}(h:a.Perm b):nus a=nus b:=(h.map nu).sum_nat
theorem NR(c:Int):2<=nu c/\nu c<=4:=by unfold nu;(repeat' split) <;> omega
def bs(c:Int):Nat:=if c<128 then 1 else if c<2048 then 2 else if c<65536 then 3 else 4
theorem Mi:∀ k∈N.keys,nus (N.fd k)<=8/\128<=k:=by decide +kernel
theorem Iv(c:Int):nus (N.fd c)<=8/\(c<128->nus (N.fd c)<=4)/\(N.fd c=[c]\/c∈N.keys):=by
 by_cases h:D.dcp c=[]
 ·have:=NR c;rw[N.lY h];have e:nus [c]=nu c:=by rw[oL,Lu,Nat.add_zero]
  exact⟨by omega,fun _=>by omega,.inl rfl⟩
 ·have hk:=N.gO (r:=c) (by simpa using h);have:=Mi c hk;exact⟨this.1,fun h=>by omega,.inr hk⟩
theorem PG:∀ c:Fin 128,nus ((mpx (c.val:Int)).flatMap N.fd)<=4:=by decide +kernel
theorem Mq:∀ p∈D.mC,nus (p.2.flatMap N.fd)<=8:=by decide +kernel
theorem pL(c:Int):[c].flatMap N.fd=N.fd c:=by simp
theorem RB(r:Int)(h0:0<=r):nus ((mpx r).flatMap N.fd)<=4 * bs r:=by
 by_cases hr:r<128
 ·obtain⟨k,rfl⟩:∃ k:Nat,r=k:=⟨r.toNat,by omega⟩;have:=PG ⟨k,by omega⟩;have e:bs (k:Int)=1:=by unfold bs;rw[if_pos hr]
  rw[e];exact this
 ·have hb:2<=bs r:=by unfold bs;rw[if_neg hr];(repeat' split) <;> omega
  have key:nus ((mpx r).flatMap N.fd)<=8:=by
   unfold mpx;split
   ·rw[pL];exact(Iv r).1
   ·unfold D.mp;split
    ·simp[nus]
    ·split
     ·unfold D.mpd;split
      ·rw[pL];exact(Iv _).1
      ·unfold D.inst;cases h:D.mC.lookup r with
       | none=>simp[nus]
       | some v=>exact Mq _ (D.eU h)
     ·rw[pL];exact(Iv r).1
  omega
theorem RA(l:List Int)(h:l≠[])(hl:U.Bytes l):(0<=(U.nx l).1/\bs (U.nx l).1<=(U.nx l).2.1)\/((U.nx l).1=65533/\1<=(U.nx l).2.1):=by
 by_cases hw:(U.nx l).2.2=true
 ·left;have h2:=(U.Gw l h hl hw).2.1;have h3:=U.NQ l hl;have h4:=congrArg List.length h2;have h5:=U.oJ l h;rw[length_take]at h4;have e:(U.enc (U.nx l).1).length=bs (U.nx l).1:=by unfold U.enc bs;(repeat' split) <;> rfl
  exact⟨h3.1,by omega⟩
 ·right;rcases U.oK l h hl with⟨a,t,rfl,_,_,e⟩ | ⟨a,b,t,rfl,_,_,_,_,e⟩ | ⟨a,b,c,t,rfl,_,_,_,_,_,_,e⟩ | ⟨a,b,c,d,t,rfl,_,_,_,_,_,_,_,_,e⟩ | ⟨n,h1,_,e⟩
  ·rw[e]at hw;exact absurd rfl hw
  ·rw[e]at hw;exact absurd rfl hw
  ·rw[e]at hw;exact absurd rfl hw
  ·rw[e]at hw;exact absurd rfl hw
  ·rw[e];exact⟨rfl,h1⟩
theorem MH:nus ((mpx 65533).flatMap N.fd)<=4:=by decide +kernel
theorem yS:∀(n:Nat) (l:List Int),l.length<=n->U.Bytes l->nus (((U.dec l).flatMap mpx).flatMap N.fd)<=4 * l.length
 | n,[],_,_=>by rw[U.eC];simp[nus]
 | 0,a::t,h,_=>by simp at h
 | n+1,a::t,h,hB=>by
  have hn:=U.oJ (a::t) (by simp);have ih:=yS n ((a::t).drop (U.nx (a::t)).2.1) (by rw[length_drop];simp at h ⊢;omega) (hB.drop _);rw[U.bg (a::t) (by simp) hB,flatMap_cons,List.flatMap_append,oM];rw[length_drop]at ih
  have hf:nus ((mpx (U.nx (a::t)).1).flatMap N.fd)<=4 * (U.nx (a::t)).2.1:=by
   rcases RA (a::t) (by simp) hB with⟨h0,h1⟩ | ⟨h0,h1⟩
   ·have:=RB _ h0;omega
   ·rw[h0];have:=MH;omega
  omega
theorem OR:∀ p∈D.prs,nu p.1<=nu p.2.1+nu p.2.2:=by decide +kernel
def nup(l:List N.Pt):Nat:=nus (l.map (·.1))
theorem oO(a b:List N.Pt):nup (a++b)=nup a+nup b:=by unfold nup;rw[map_append,oM]
theorem oN(a:N.Pt)(b:List N.Pt):nup (a::b)=nu a.1+nup b:=by unfold nup;rw[map_cons,oL]
theorem Rl{a b q:Int}(h:N.pr a b=(q,true)):nu q<=nu a+nu b:=by
 unfold N.pr D.prf at h;cases hf:D.prs.find? (fun x=>x.2.1==a&&x.2.2==b) with
 | none=>rw[hf]at h;cases h
 | some p =>
  rw[hf]at h;have hm:=List.mem_of_find?_eq_some hf;have hp:=List.find?_some hf;simp at hp;have:=OR p hm;obtain⟨rfl,_⟩:=Prod.mk.inj h;rw[hp.1,hp.2]at this;exact this
theorem Eh(t:N.TS)(c:N.Pt):nup (N.bw (N.bj t c))<=nup (N.bw t)+nu c.1:=by
 rcases N.ir t c with h | ⟨A,s,B,q,ht,hr,hq,h⟩
 ·rw[h,N.tS,oO,oN];simp[nup,nus]
 ·rw[h,ht];have:=Rl hq;simp only[N.bw,oO,oN];omega
theorem uu:∀(l:List N.Pt) (t:N.TS),nup (N.bw (l.foldl N.bj t))<=nup (N.bw t)+nup l
 | [],t=>by simp[nup,nus]
 | c::l,t=>by have h1:=uu l (N.bj t c);have h2:=Eh t c;rw[foldl_cons,oN];omega
theorem Pw(l:List Int):nus (N.cI l)<=nus (l.flatMap N.fd):=by
 unfold N.cI N.comp N.tst;have h1:=uu (N.ord ((l.flatMap N.fd).map N.pt)) (none,[]);have h2:nup (N.ord ((l.flatMap N.fd).map N.pt))=nus (l.flatMap N.fd):=by unfold nup;rw[GC ((N.vg _).map _),map_map];congr 1;exact List.map_id _
 have h3:nup (N.bw ((none,[]):N.TS))=0:=rfl;show nup _<=_;omega
theorem Sa(l:List Int)(hB:U.Bytes l):nus (Mp (U.dec l))<=4 * l.length:=by have h1:=Pw ((U.dec l).flatMap mpx);have h2:=yS l.length l (le_refl _) hB;unfold Mp;omega
end I
namespace U
end U
namespace P
open Go.RowKit U
section
variable {l : List Int} {base : Nat} {w wr : World} {v : Value} {k h dl bias : Nat} {n : Int} {j : Nat}
end
theorem bC{a b:ByteArray}(h:bn a=bn b):a=b:=by
 have h1:a.data.toList=b.data.toList:=by unfold bn at h;have:Function.Injective fun c:UInt8=>(c.toNat:Int):=fun x y hxy=>UInt8.toNat_inj.mp (by have h:(x.toNat:Int)=(y.toNat:Int):=hxy;omega);exact(List.map_inj_right (fun x y hxy=>this hxy)).1 h
 cases a;cases b;simp at h1;rw[h1]
def ik(l:List Int):List Int×Int :=
 if 63<l.length then ([],4) else if asc l=false then ([],8) else match tW l with
  | none=>([],8)
  | some pts=>(pts,0)
theorem zn.one{l:List Int}{W:World}{base:Nat}{v:Value}{e:Int}(h:zn l W base v e)(hb:Bytes l):aB W v (ik l).1/\e=(ik l).2/\(ik l).1.length<=63:=by
 unfold ik;rcases h with⟨h1,rfl,rfl⟩ | ⟨h1,h2,rfl,rfl⟩ | ⟨h1,h2,pts,h3,rfl,h4⟩
 ·rw[if_pos h1];exact⟨.inl ⟨rfl,_,_,rfl⟩,rfl,zero_le _⟩
 ·rw[if_neg (by omega)];split
  ·exact⟨.inl ⟨rfl,_,_,rfl⟩,rfl,zero_le _⟩
  ·rename_i h3;rcases h2 with h2 | h2
   ·exact absurd h2 h3
   ·rw[h2];exact⟨.inl ⟨rfl,_,_,rfl⟩,rfl,zero_le _⟩
 ·rw[if_neg (by omega),if_neg (by rw[h2];exact Bool.noConfusion),h3];exact⟨aB.own rfl h4,rfl,(nf h3 h2 hb h1).2.2⟩
end P
namespace I
theorem Qe(c:Int):1<=(N.fd c).length:=by
 by_cases h:D.dcp c=[]
 ·rw[N.lY h];simp
 ·have:=(N.kH (N.gO (r:=c) (by simpa using h))).2.2.2.2.2.2;exact Nat.pos_of_ne_zero (fun e=>this (List.length_eq_zero_iff.1 e))
theorem wE:∀ l:List Int,l.length<=(l.flatMap N.fd).length
 | []=>by simp
 | c::l=>by have h1:=Qe c;have h2:=wE l;rw[flatMap_cons,length_append,length_cons];omega
theorem sO:∀ l:List Int,2 * l.length<=nus l
 | []=>by simp[nus]
 | c::l=>by have:=NR c;have h2:=sO l;rw[oL,length_cons];omega
theorem LU(l:List Int)(hB:U.Bytes l):((U.dec l).flatMap mpx).length<=2 * l.length:=by have h1:=wE ((U.dec l).flatMap mpx);have h2:=sO (((U.dec l).flatMap mpx).flatMap N.fd);have h3:=yS l.length l (le_refl _) hB;omega
theorem ny(l:List Int)(hB:U.Bytes l):(Mp (U.dec l)).length<=2 * l.length:=by have h1:=Sa l hB;have h2:=sO (Mp (U.dec l));omega
theorem eK:∀ l:List Int,(spl l).length<=l.length+1
 | []=>by simp[spl]
 | c::l=>by
  obtain⟨a,t,h⟩:=aV l;have ih:=eK l;rw[spl];split
  ·rw[length_cons,length_cons];omega
  ·rw[h]at ih ⊢;simp only[length_cons]at ih ⊢;omega
def Scs(l:List Int):Prop:=∀ c∈l,U.ar c=true
theorem kr{l:List Int}:Scs l↔l.all U.ar=true:=by unfold Scs;rw[all_eq_true]
theorem jh(l:List Int)(hB:U.Bytes l):Scs (U.dec l):=kr.2 (U.dm l.length l (le_refl _) hB)
theorem Ez:∀ x∈D.tab,x.2.2.1=3->D.kZ x.1≠0->0<=x.1+D.kZ x.1/\(x.2.1+D.kZ x.1<55296\/57343<x.1+D.kZ x.1)/\x.2.1+D.kZ x.1<=1114111:=by decide +kernel
theorem Cl:∀ p∈D.mC,∀ c∈p.2,U.ar c=true:=by decide +kernel
theorem GZ(r:Int)(h:U.ar r=true):Scs (mpx r):=by
 intro c hc;unfold mpx at hc;split at hc
 ·simp at hc;rw[hc];exact h
 ·unfold D.mp at hc;split at hc
  ·simp at hc
  ·split at hc
   ·rename_i h3;unfold D.mpd at hc;split at hc
    ·rename_i hd;simp at hc;rcases D.ti r with e | ⟨hm,h1,h2⟩
     ·rw[e]at h3;exact absurd h3 (by decide)
     ·have:=Ez _ hm h3 hd;rw[hc];unfold U.ar;exact decide_eq_true (by omega)
    ·unfold D.inst at hc;cases hl:D.mC.lookup r with
     | none=>rw[hl]at hc;simp at hc
     | some v =>
      rw[hl]at hc;exact Cl _ (D.eU hl) c hc
   ·simp at hc;rw[hc];exact h
theorem Cj:∀ k∈N.keys,∀ c∈N.fd k,U.ar c=true:=by decide +kernel
theorem MJ(r:Int)(h:U.ar r=true):Scs (N.fd r):=by
 by_cases hd:D.dcp r=[]
 ·rw[N.lY hd];intro c hc;simp at hc;rw[hc];exact h
 ·exact Cj r (N.gO (r:=r) (by simpa using hd))
theorem Fp:∀ p∈D.prs,U.ar p.1=true:=by decide +kernel
theorem Lf{a b q:Int}(h:N.pr a b=(q,true)):U.ar q=true:=by
 unfold N.pr D.prf at h;cases hf:D.prs.find? (fun x=>x.2.1==a&&x.2.2==b) with
 | none=>rw[hf]at h;cases h
 | some p =>
  rw[hf]at h;obtain⟨rfl,_⟩:=Prod.mk.inj h;exact Fp p (List.mem_of_find?_eq_some hf)
def Scp(l:List N.Pt):Prop:=∀ p∈l,U.ar p.1=true
theorem xy(t:N.TS)(c:N.Pt)(ht:Scp (N.bw t))(hc:U.ar c.1=true):Scp (N.bw (N.bj t c)):=by
 rcases N.ir t c with h | ⟨A,s,B,q,ht',hr,hq,h⟩
 ·rw[h,N.tS];intro p hp;rcases List.mem_append.1 hp with hp | hp
  ·exact ht p hp
  ·simp at hp;rw[hp];exact hc
 ·rw[h];rw[ht']at ht;intro p hp;simp only[N.bw]at hp ht;rcases List.mem_append.1 hp with hp | hp
  ·exact ht p (List.mem_append.2 (.inl hp))
  ·rcases List.mem_cons.1 hp with rfl | hp
   ·exact Lf hq
   ·exact ht p (List.mem_append.2 (.inr (List.mem_cons.2 (.inr hp))))
theorem nT:∀(l:List N.Pt) (t:N.TS),Scp (N.bw t)->Scp l->Scp (N.bw (l.foldl N.bj t))
 | [],t,h,_=>h
 | c::l,t,h,hl=>by rw[foldl_cons];exact nT l _ (xy t c h (hl c (by simp))) (fun p hp=>hl p (by simp[hp]))
theorem GN(l:List Int)(h:Scs l):Scs (N.cI l):=by
 have hp:Scp (N.ord ((l.flatMap N.fd).map N.pt)):=by intro p hp;have hm:=(N.vg _).mem_iff.1 hp;obtain⟨c,hc,rfl⟩:=List.mem_map.1 hm;obtain⟨r,hr,hcr⟩:=List.mem_flatMap.1 hc;exact MJ r (h r hr) c hcr
 have:=nT _ (none,[]) (fun p hp=>by simp[N.bw]at hp) hp;intro c hc;unfold N.cI N.comp N.tst at hc;obtain⟨p,hp,rfl⟩:=List.mem_map.1 hc;exact this p hp
theorem nw(l:List Int)(h:Scs l):Scs (Mp l):=by apply GN;intro c hc;obtain⟨r,hr,hcr⟩:=List.mem_flatMap.1 hc;exact GZ r (h r hr) c hcr
theorem ES:∀(l:List Int),Scs l->∀ a∈spl l,Scs a
 | l,h,a,ha=>fun c hc=>by
  have hj:=iC l
  have key:∀(ls:List (List Int)),a∈ls->c∈join ls:=by
   intro ls
   induction ls with
   | nil=>intro h;simp at h
   | cons b t ih =>
    intro hm;cases t with
    | nil=>simp at hm;rw[<-hm];exact hc
    | cons d t =>
     rw[join];rcases List.mem_cons.1 hm with rfl | hm
     ·simp[hc]
     ·have:=ih hm;simp[this]
  exact h c (by rw[<-hj];exact key _ ha)
theorem Dj{T:List Int}(hB:U.Bytes T):Scs (P.ik T).1:=by
 unfold P.ik;split
 ·intro c hc;simp at hc
 ·rename_i h1;split
  ·intro c hc;simp at hc
  ·rename_i h2;cases hd:P.tW T with
   | none=>intro c hc;simp at hc
   | some m=>exact kr.2 (P.nf hd (by simpa using h2) hB (by omega)).2.1
theorem Gt{l:List Int}(hy:Bool)(h:Scs l):Scs (one l hy).1:=by
 unfold one;split
 ·exact h
 ·split
  ·exact h
  ·rename_i h2;cases hr:rdx (l.drop 4) with
   | none=>exact h
   | some m =>
    simp only;split
    ·exact h
    ·unfold rdx at hr;split at hr
     ·cases hr
     ·split at hr
      ·cases hr
      ·rename_i h3 h4;have hp:=cH.1 (show plain l=true by simpa using h2);have hB:U.Bytes (l.drop 4):=fun c hc=>by have:=hp c (mem_of_mem_drop hc);omega
       exact kr.2 (P.nf hr (by simpa using h4) hB (by omega)).2.1
theorem Le(X:List Int)(hy:Bool):(prc X hy).map (·.1)=(spl X).map fun y=>(one y hy).1:=by
 unfold prc;split
 ·rw[map_map,map_map];rfl
 ·rw[map_map];rfl
theorem Ft{X:List Int}(hy:Bool)(h:Scs X):∀ x∈prc X hy,Scs x.1:=by intro x hx;have hm:x.1∈(prc X hy).map (·.1):=mem_map_of_mem hx;rw[Le]at hm;obtain⟨y,hy',e⟩:=List.mem_map.1 hm;rw[<-e];exact Gt hy (ES X h y hy')
theorem zL{c:Int}(h:U.ar c=true):0<=c/\c<=1114111:=by unfold U.ar at h;have:=of_decide_eq_true h;omega
theorem dk(c:Int)(h:c<128):U.enc c=[c]:=by unfold U.enc;rw[if_pos h]
theorem wQ(c:Int)(h:¬ c<128):∃ x y t,U.enc c=x::y::t/\128<=x:=by
 unfold U.enc;rw[if_neg h];split
 ·exact⟨_,_,_,rfl,by omega⟩
 ·split
  ·exact⟨_,_,_,rfl,by omega⟩
  ·exact⟨_,_,_,rfl,by omega⟩
theorem bD(c:Int)(l:List Int):U.aj (c::l)=U.enc c++U.aj l:=by unfold U.aj;rw[flatMap_cons]
theorem jf{l:List Int}{a:Int}{t:List Int}(ha:a<128)(h:U.aj l=a::t):∃ l',l=a::l'/\U.aj l'=t:=by
 cases l with
 | nil=>simp[U.aj]at h
 | cons c l =>
  rw[bD]at h;by_cases hc:c<128
  ·rw[dk c hc]at h;simp at h;exact⟨l,by rw[h.1],h.2⟩
  ·obtain⟨x,y,u,e,hx⟩:=wQ c hc;rw[e]at h;simp at h;omega
theorem Db{l:List Int}{a b c d:Int}{t:List Int}(ha:a<128)(hb:b<128)(hc:c<128)(hd:d<128)(h:U.aj l=a::b::c::d::t):∃ l',l=a::b::c::d::l'/\U.aj l'=t:=by obtain⟨l1,rfl,h1⟩:=jf ha h;obtain⟨l2,rfl,h2⟩:=jf hb h1;obtain⟨l3,rfl,h3⟩:=jf hc h2;obtain⟨l4,rfl,h4⟩:=jf hd h3;exact⟨l4,rfl,h4⟩
theorem oA(l:List Int):L.dr l=true↔∃ l',l=120::110::45::45::l':=by
 unfold L.dr;rw[decide_eq_true_eq];constructor
 ·intro h;refine⟨l.drop 4,?_⟩;have:=take_append_drop 4 l;rw[h]at this;exact this.symm
 ·rintro⟨l',rfl⟩;rfl
theorem qU(l:List Int):L.dr l=true↔∃ t,U.aj l=120::110::45::45::t:=by
 rw[oA];constructor
 ·rintro⟨l',rfl⟩;refine⟨U.aj l',?_⟩;rw[bD,bD,bD,bD];rfl
 ·rintro⟨t,h⟩;obtain⟨l',e,_⟩:=Db (by omega) (by omega) (by omega) (by omega) h;exact⟨l',e⟩
theorem yI{l:List Int}(h:L.dr l=true):(U.aj l).drop 4=U.aj (l.drop 4):=by obtain⟨l',rfl⟩:=(oA l).1 h;rw[bD,bD,bD,bD];rfl
theorem bI:∀ {l:List Int},(∀ c∈l,c<128)->U.aj l=l
 | [],_=>rfl
 | c::l,h=>by rw[bD,dk c (h c (by simp)),bI (fun x hx=>h x (by simp[hx]))];rfl
theorem xo:∀(l:List Int),Scs l->P.asc (U.aj l)=plain l
 | [],_=>rfl
 | c::l,h=>by
  have ih:=xo l (fun x hx=>h x (by simp[hx]));have hc:=zL (h c (by simp));rw[bD];have e1:P.asc (U.enc c++U.aj l)=(P.asc (U.enc c)&&P.asc (U.aj l)):=by unfold P.asc;rw[List.all_append]
  have e2:plain (c::l)=((decide (0<=c)&&decide (c<128))&&plain l):=by unfold plain;rw[List.all_cons]
  rw[e1,e2,ih];congr 1;by_cases hk:c<128
  ·rw[dk c hk];simp[P.asc,hk,hc.1]
  ·obtain⟨x,y,u,e,hx⟩:=wQ c hk;rw[e];simp[P.asc,hk];omega
theorem uO{l:List Int}(h:L.dr l=true):plain (l.drop 4)=plain l:=by obtain⟨l',rfl⟩:=(oA l).1 h;unfold plain;simp
theorem BJ{l:List Int}{hy:Bool}(hs:Scs l)(h:L.dr l=true):
  one l hy=if (P.ik (U.aj (l.drop 4))).2=0/\plain (P.ik (U.aj (l.drop 4))).1=false then ((P.ik (U.aj (l.drop 4))).1,L.flt (P.ik (U.aj (l.drop 4))).1 hy) else (l,512):=by
 have hs4:Scs (l.drop 4):=fun c hc=>hs c (mem_of_mem_drop hc);have ha:=xo _ hs4;rw[uO h]at ha;unfold one;rw[if_neg (by rw[h];decide)];by_cases hp:plain l=true
 ·have e:U.aj (l.drop 4)=l.drop 4:=bI (fun c hc=>(cH.1 hp c (mem_of_mem_drop hc)).2);rw[if_neg (by rw[hp];decide),e];obtain⟨D,hD⟩:=Ex' (l.drop 4);rw[hD];unfold rdx P.ik;by_cases h63:63<D.length
  ·simp[h63]
  ·by_cases has:P.asc D=false
   ·simp[h63,has]
   ·cases hd:P.tW D with
    | none=>simp[h63,has]
    | some m=>cases hm:plain m <;> simp[h63,has,hm]
 ·have hp':plain l=false:=by simpa using hp
  rw[if_pos hp'];rw[hp']at ha;unfold P.ik;rw[ha];by_cases h63:63<(U.aj (l.drop 4)).length
  ·simp[h63]
  ·simp[h63]
theorem yt(ts:List ByteArray):U.bn ⟨(Lib.join (ts.map (·.data.toList)) [46]).toArray⟩=join (ts.map U.bn):=by
 have key:∀(xs:List (List UInt8)),(Lib.join xs [46]).map (fun c=>(c.toNat:Int))=join (xs.map fun x=>x.map fun c=>(c.toNat:Int)):=by
  intro xs
  induction xs with
  | nil=>rfl
  | cons x r ih =>
   cases r with
   | nil=>rw[Lib.join_one];rfl
   | cons y r =>
    have e:Lib.join (x::y::r) [46]=x++46::Lib.join (y::r) [46]:=by rw[Lib.join_cons,Lib.join_cons];simp[Lib.joinTail]
    rw[e,map_append,map_cons,ih];rfl
 show((Lib.join (ts.map (·.data.toList)) [46]).toArray.toList.map _)=_;rw[List.toList_toArray,key,map_map];rfl
end I
end Go.Proofs.YtmkompnhefhngaaGreatDoor
namespace Go.Proofs
open Go.Shelf Go.RowKit
shelf_lay Lays.n156 Nm 156 at Tryz as Tryz.laysJoin
end Go.Proofs
namespace Go.Proofs.YtmkompnhefhngaaGreatDoor
open Tryz Go.RowKit
namespace I
open Go.RowKit Go.Shelf
theorem RF:Builder.Extra prog Tryz.laysJoin_ren where
 sizeBuilder:=by kernel_rfl
 liesBuilder:=by kernel_rfl
 t5:=by kernel_rfl
 a5:=fun w=>by kernel_rfl
 z5:=fun w=>by kernel_rfl
 v5:=fun w=>by kernel_rfl
 infoByte:=by kernel_rfl
 cellsByte:=by kernel_rfl
 sizeByte:=by kernel_rfl
 neB5:=by decide
theorem PL:Tryz.laysJoin_ren.f 156=115:=by kernel_rfl
theorem oX(bk c n:Nat)(ts:List ByteArray)(hn:ts.length=n)(w:World)(hc:∀ j,j<n->w.cell? ⟨bk,j,none⟩=some (.string (ts[j]?.getD ⟨#[]⟩)))(hp:0<n)(hnc:n<=c)(hN:n<=100000)(hlen:(join (ts.map U.bn)).length<=1000000000):
  Calls prog 115 #[.slice (some ⟨bk,0,none⟩) n c,.string ⟨#[46]⟩] w fun e W'=>(∃ t,e=.returned (.string t)/\U.bn t=join (ts.map U.bn))/\Below w.heap.size w W':=by
 subst hn;have hb:=yt ts
 have h:=Any.strings_Join Tryz.laysJoin RF bk 0 c ts ⟨#[46]⟩ w (fun j x hj=>by
   have hjl:=(List.getElem?_eq_some_iff.1 hj).1
   have:=hc j hjl
   rw[hj]at this
   rw[zero_add];exact this) (U.lt_of_cell (a:=⟨bk,0,none⟩) (hc 0 hp)) (by omega) hnc (by
     have h1:=congrArg List.length hb
     rw[U.aa]at h1
     have h2:(⟨(Lib.join (ts.map (·.data.toList)) [46]).toArray⟩:ByteArray).size=(Lib.join (ts.map (·.data.toList)) [46]).length:=by simp[ByteArray.size]
     rw[h2]at h1
     show(Lib.join (ts.map (·.data.toList)) [46]).length<=_
     omega)
 rw[PL]at h;refine h.mono ?_;rintro e W' ⟨rfl,hB⟩;exact⟨⟨_,rfl,hb⟩,hB⟩
end I
namespace N
theorem xx{W:World}{v:Value}{zs:List Int}(h:bR W v zs):U.aB W v zs:=by
 obtain⟨a,cap,rfl,hf⟩:=h;by_cases h0:zs.length=0
 ·exact .inl ⟨List.length_eq_zero_iff.1 h0,a,cap,by rw[h0]⟩
 ·obtain⟨b,off,cur,rfl,hg,hc⟩:=hf (by omega);exact .inr ⟨by omega,b,off,cap,rfl,fun j hj=>by simp[World.cell?,hg,hc j hj]⟩
end N
namespace L
theorem aJ{w:World}{v:Value}{L:List Int}(h:U.aB w v L):∃ a c,v=.slice a L.length c/\(0<L.length->∃ b off,a=some ⟨b,off,none⟩/\∀ j,j<L.length->w.cell? ⟨b,off+j,none⟩=some (.int .i32 (L[j]?.getD 0))):=by
 rcases h with⟨rfl,x,c,rfl⟩ | ⟨hp,b,off,c,rfl,h⟩
 ·exact⟨x,c,rfl,fun h=>by simp at h⟩
 ·exact⟨_,c,rfl,fun _=>⟨b,off,rfl,h⟩⟩
theorem jk{w wr:World}{a:Option Addr}{n:Nat}{L:List Int}(hf:0<n->∃ b off,a=some ⟨b,off,none⟩/\∀ j,j<n->w.cell? ⟨b,off+j,none⟩=some (.int .i32 (L[j]?.getD 0)))(hB:Below w.heap.size w wr)(k:Nat)(hk:k<n):
  ∃ b off,a=some ⟨b,off,none⟩/\wr.cell? ⟨b,off+k,none⟩=some (.int .i32 (L[k]?.getD 0)):=by
 obtain⟨b,off,e,hc⟩:=hf (by omega);exact⟨b,off,e,(hB.cell (p:=⟨b,off+k,none⟩) (U.lt_of_cell (hc k hk))).trans (hc k hk)⟩
theorem take_one(L:List Int)(k:Nat)(h:k<L.length):L.take (k+1)=L.take k++[L[k]?.getD 0]:=by rw[List.take_succ_eq_append_getElem h,getElem?_eq_getElem h];rfl
theorem Kx(r:Int):IntKind.wrap .u16 (2 ^ (bid r).toNat)=(dir r:Int):=by
 have h:=pV r;have e:((dir r:Nat):Int)=2 ^ (bid r).toNat:=by unfold dir;push_cast;rfl
 rw[<-e];rw[IntKind.wrap_u16];omega
theorem fR(r:Int)(w:World):
  Calls prog 242 #[.int .i32 r] w fun e W'=>e=.returned (.int .u16 (dir r))/\Below w.heap.size w W':=by
 have hb:=qh r;have HD:=hid (Kx r);have hc:Calls prog 284 #[.int .i32 r] w fun e W'=>e=.returned (.int .u8 (bid r))/\Below w.heap.size w W':=D.qg r w;have HC:=hid hc;obtain⟨b,hbb⟩:=Ex' (bid r);rw[hbb]at HC HD hb;clear hc hbb;go_enter func242,ntmps242;go_wp2_with fail;refine HC.out.mono ?_;rintro e w1 ⟨rfl,B1⟩;go_wp2;go_ret;exact⟨by rw[<-HD.out];rfl,B1⟩
theorem iN(v:Value)(L:List Int)(w:World)(hlen:L.length<=100000)(hv:U.aB w v L):
  Calls prog 213 #[v] w fun e W'=>e=.returned (.int .u16 (gW L))/\Below w.heap.size w W':=by
 obtain⟨a,c,rfl,hf⟩:=aJ hv;have HF:=hid hf;obtain⟨n,hn⟩:=Ex' L.length;rw[hn]at hlen HF ⊢;have HN:=hid hn;clear hv hf hn;go_enter func213,ntmps213;go_wp2_with fail
 go_loopw [3,8] (fun v3 v8 wr=>∃ k:Nat,k<=n/\v3=.int .u16 (gW (L.take k))/\v8=.int .i64 k/\Hid (Below w.heap.size w wr)) (fun _ v8 _=>n - (intOf v8).toNat)
 case atStart=>exact⟨0,zero_le _,rfl,rfl,Below.refl _ _⟩
 case round =>
  obtain⟨k,hk,rfl,rfl,HB⟩:=hrel;by_cases hlt:k<n
  ·obtain⟨b,off,rfl,hck⟩:=jk HF.out HB.out k hlt;have HT:=hid (take_one L k (by rw[HN.out];exact hlt));obtain⟨x,hx⟩:=Ex' (L[k]?.getD 0);rw[hx]at hck HT;clear hx;have HX:=hid (u16_or_nat (gW (L.take k)) (dir x) (by have:=lf (L.take k);omega) (by have:=pV x;omega));have HY:=hid (Dh (L.take k) x);obtain⟨D,hD⟩:=Ex' (gW (L.take k));rw[hD]at HX HY;rw[hD];have HDD:=hid (fR x wr);obtain⟨E,hE⟩:=Ex' (dir x);rw[hE]at HX HY HDD;clear hD hE;go_wp2_with(go_at_call 242;refine HDD.out.mono ?_;rintro e w1 ⟨rfl,B1⟩)
   go_roundw
   case rel=>exact⟨k+1,by omega,by rw[HT.out,HY.out,HX.out],by go_num,HB.out.trans (B1.mono HB.out.size)⟩
   case measure=>simp[intOf];omega
  ·have e:L.take k=L:=take_of_length_le (by rw[HN.out];omega);rw[e];clear e;go_wp2;go_ret;exact⟨rfl,HB.out⟩
theorem Bk(v:Value)(L:List Int)(w:World)(hlen:L.length<=100000)(hv:U.aB w v L):
  Calls prog 171 #[v] w fun e W'=>e=.returned (.bool (kR L))/\Below w.heap.size w W':=by
 have HD:=hid (iN v L w hlen hv);have HR:Hid ((bits .and .u16 (gW L:Int) 140 != 0)=kR L):=by show _=_;rw[QB ⟨gW L,lf L⟩];simp only[wU];rfl
 obtain⟨a,c,rfl,-⟩:=aJ hv;obtain⟨X,hX⟩:=Ex' (gW L);rw[hX]at HD HR;obtain⟨n,hn⟩:=Ex' L.length;rw[hn]at HD ⊢;clear hX hv hn;go_enter func171,ntmps171;go_wp2_with fail;refine HD.out.mono ?_;rintro e w1 ⟨rfl,B1⟩;go_wp2;go_ret;exact⟨by rw[<-HR.out];rfl,B1⟩
open Go.RowKit Go.Shelf
attribute [local go_sem] Oper.semAt_some
abbrev encR(x:Int):Array Value:=#[.int .i32 x]
structure Frm(Bi Bs Bl:Nat)(i st:Int)(v:Value)(W:World):Prop where
 i:Boxed W Bi 3 (.int .i64 i)
 s:Boxed W Bs 3 (.int .i64 st)
 l:Boxed W Bl 37 v
def Old(w W:World):Prop:=∀ b,b<w.heap.size->W.heap[b]? = w.heap[b]?
theorem Old.below{w W:World}(h:Below w.heap.size w W):Old w W:=fun b hb=>h.block b hb
theorem Old.ints{w W:World}{v:Value}{L:List Int}(h:Old w W)(hI:U.aB w v L):U.aB W v L:=by
 rcases hI with hI | ⟨hp,b,off,c,rfl,hc⟩
 ·exact .inl hI
 ·refine .inr ⟨hp,b,off,c,rfl,fun j hj=>?_⟩;have h1:=hc j hj;have h2:=h b (U.lt_of_cell (a:=⟨b,off+j,none⟩) h1);rw[<-h1];simp[World.cell?,h2]
def mg(w:World)(Bi Bs Bl:Nat)(i st:Int)(v:Value)(W W':World):Prop:=Frm Bi Bs Bl i st v W/\Old w W->Frm Bi Bs Bl i st v W'/\Old w W'
theorem MF(w0:World)(n:Nat)(hn:1<=n)(l Bi Bs Bl:Nat)(i st:Int)(v:Value)(L:List Int)(hst:st=1\/st=-1)(hi0:0<=i)(hi1:i+st<=L.length)(hi2:i<=L.length)(hlen:L.length<=100000)(J Jx:List Int->World->Prop)
  (hY:∀ pre x W,J pre W->pre.length<L.length+1->YieldAt Fence.wide (n - 1) prog l #[.int .i32 x] W fun e W' =>
    (e=.returned (.bool true)/\J (pre++[x]) W'/\mg w0 Bi Bs Bl i st v W W')\/(e=.returned (.bool false)/\Jx (pre++[x]) W'))
  (W:World) (hF:Frm Bi Bs Bl i st v W) (hI0:U.aB w0 v L) (hI:Old w0 W) (h0:J [] W) :
  CallsIn Fence.wide n prog 305 #[.func (.yield l) #[] #[],.pointer (some ⟨Bi,0,none⟩),.pointer (some ⟨Bs,0,none⟩),.pointer (some ⟨Bl,0,none⟩)] W fun e W'=>(∃ v,e=.returned v) /\
   ((∃ ys,ys=rem L st (i+st)/\J ys W')\/(∃ pre,pre <+: rem L st (i+st)/\Jx pre W')):=by
 have hci:=hF.i.cell;have hcs:=hF.s.cell;have hcl:=hF.l.cell;refine callsIn_of_wp func305 rfl trivial ?_ rfl;simp only[ntmps305,List.size_toArray,length_cons,length_nil,Nat.reduceAdd,Nat.reduceSub,Array.replicate_succ,Array.replicate_zero,List.push_toArray,List.append_toArray,nil_append,cons_append];have hb1:-1<=st:=by omega
 have hb2:st<=1:=by omega
 have hw:i+st<=100000:=by omega
 gi_wp2_with fail
 gi_loopw [5] (fun v5 wr=>∃(a:Int) (pre:List Int),-1<=a/\a<=L.length/\(st=1->0<=a)/\(st=-1->a<L.length)/\v5=.int .i64 a/\(Frm Bi Bs Bl i st v wr/\Old w0 wr)/\J pre wr/\Hid (pre.length+(rem L st a).length<=L.length)/\Hid (rem L st (i+st)=pre++rem L st a))
  (fun v5 _=>(rem L st (intOf v5)).length)
 case atStart =>
  exact⟨i+st,[],by omega,hi1,by omega,by omega,by first | rfl | go_num,⟨hF,hI⟩,h0,by
    show _<=_
    unfold rem
    split
    · simp
    · simp;omega,by show _=_;simp⟩
 case round =>
  obtain⟨a,pre,ha0,ha1,ha2,ha3,rfl,⟨hFr,hIr⟩,hJ,HPL,HE⟩:=hrel;have hcs:=hFr.s.cell;have hcl:=hFr.l.cell;obtain⟨va,vc,rfl,hf⟩:=aJ (hIr.ints hI0);by_cases hin:0<=a/\a<L.length
  ·obtain⟨k,rfl⟩:∃ k:Nat,a=k:=⟨a.toNat,by omega⟩;have hk:k<L.length:=by omega
   obtain⟨b,off,rfl,hc⟩:=hf (by omega);have hck:=hc k hk;have HR:=hid (OG L st k hst hin.1 hin.2);rw[Int.toNat_natCast]at HR;obtain⟨x,hx⟩:=Ex' (L[k]?.getD 0);rw[hx]at hck HR;have hpl:pre.length<L.length+1:=by have:=HPL.out;omega
   have hyy:=hY pre x wr hJ hpl;obtain⟨fn,tmps,assign,body,hy,hR⟩:=hyy;have hk2:(k:Int)<(L.length:Int):=by omega
   have hk3:(0:Int)<=(k:Int):=by omega
   clear hx hf hc hin;gi_wp2;refine hR.mono ?_;rintro e W3 (⟨rfl,hJ3,hk3'⟩ | ⟨rfl,hJx3⟩)
   ·obtain⟨hF3,hI3⟩:=hk3' ⟨hFr,hIr⟩;have hcs3:=hF3.s.cell;gi_wp2
    go_roundw
    case rel =>
     refine⟨(k:Int)+st,pre++[x],by omega,by omega,by omega,by omega,by first | rfl | go_num,⟨hF3,hI3⟩,hJ3,?_,?_⟩
     ·show _<=_;have h1:=HPL.out;rw[HR.out,length_cons]at h1;rw[length_append,length_cons,length_nil];omega
     ·show _=_;rw[HE.out,HR.out];simp
    case measure =>
     simp only[intOf];rw[HR.out,length_cons];first | omega | (simp;done) | skip
   ·gi_wp2;refine bodyPost_ret (results_none rfl _ _ _) rfl ?_;exact⟨⟨_,rfl⟩,.inr ⟨pre++[x],⟨rem L st ((k:Int)+st),by rw[HE.out,HR.out];simp⟩,hJx3⟩⟩
  ·have HO:Hid (rem L st a=[]):=KU L st a (by
     rcases hst with h | h
     · have:=ha2 h
       exact .inl ⟨h,by omega⟩
     · by_cases h2:a<0
       · exact .inr ⟨h,h2⟩
       · exact absurd ⟨by omega,ha3 h⟩ hin)
   have HJ:Hid (J (rem L st (i+st)) wr):=by show J _ _;rw[HE.out,HO.out,append_nil];exact hJ
   by_cases h2:0<=a
   ·have h3:¬ a<(L.length:Int):=by omega
    clear hin;gi_wp2
    go_end0
    exact⟨⟨_,rfl⟩,.inl HJ.out⟩
   ·clear hin;gi_wp2
    go_end0
    exact⟨⟨_,rfl⟩,.inl HJ.out⟩
theorem ri(n:Nat)(v:Value)(i st:Int)(w:World)(hv:∃ a m c,v=.slice a m c):
  CallsIn Fence.wide n prog 285 #[v,.int .i64 i,.int .i64 st] w fun e w'=>e=.returned (.func (.func 305) #[] #[.pointer (some ⟨w.heap.size+1,0,none⟩),.pointer (some ⟨w.heap.size+2,0,none⟩),.pointer (some ⟨w.heap.size,0,none⟩)]) /\
   w'=((w.alloc (.cells #[v] 37)).alloc (.cells #[.int .i64 i] 3)).alloc (.cells #[.int .i64 st] 3):=by
 obtain⟨a,m,c,rfl⟩:=hv;refine callsIn_of_wp func285 rfl trivial ?_ rfl;simp only[ntmps285,List.size_toArray,length_cons,length_nil,Nat.reduceAdd,Nat.reduceSub,Array.replicate_succ,Array.replicate_zero,List.push_toArray,List.append_toArray,nil_append,cons_append];gi_wp2;go_ret;exact⟨rfl,rfl⟩
theorem Frm.new(w:World)(v:Value)(i st:Int):Frm (w.heap.size+1) (w.heap.size+2) w.heap.size i st v (((w.alloc (.cells #[v] 37)).alloc (.cells #[.int .i64 i] 3)).alloc (.cells #[.int .i64 st] 3)):=by have b1:=Boxed.new w 37 v;have b2:=Boxed.new (w.alloc (.cells #[v] 37)) 3 (.int .i64 i);have b3:=Boxed.new ((w.alloc (.cells #[v] 37)).alloc (.cells #[.int .i64 i] 3)) 3 (.int .i64 st);simp only[World.size_alloc]at b2 b3;exact⟨b2.alloc _,b3,(b1.alloc _).alloc _⟩
theorem pK(w0:World)(n:Nat)(hn:1<=n)(Bi Bs Bl:Nat)(i st:Int)(v:Value)(L:List Int)(hst:st=1\/st=-1)(hi0:0<=i)(hi1:i+st<=L.length)(hi2:i<=L.length)(hlen:L.length<=100000)(w:World)(hF:Frm Bi Bs Bl i st v w)(hI0:U.aB w0 v L)(hI:Old w0 w)(hw:w0.heap.size<=w.heap.size):
  SeqStopsK Fence.wide n prog 305 #[.pointer (some ⟨Bi,0,none⟩),.pointer (some ⟨Bs,0,none⟩),.pointer (some ⟨Bl,0,none⟩)] encR (mg w0 Bi Bs Bl i st v) (fun ys=>ys=rem L st (i+st)) (fun pre=>pre <+: rem L st (i+st)) (L.length+1) w:=fun l J Jx W hW hJ _ hY h0 =>
 MF w0 n hn l Bi Bs Bl i st v L hst hi0 hi1 hi2 hlen J Jx hY W ⟨(hW.block Bi hF.i.lt).trans hF.i,(hW.block Bs hF.s.lt).trans hF.s,(hW.block Bl hF.l.lt).trans hF.l⟩ hI0 (fun b hb=>(hW.block b (by omega)).trans (hI b hb)) h0
theorem vS{w0:World}{Bi Bs Bl:Nat}{i st:Int}{v:Value}{A B C:World}(h:mg w0 Bi Bs Bl i st v A B)(k:mg w0 Bi Bs Bl i st v B C):mg w0 Bi Bs Bl i st v A C:=fun x=>k (h x)
theorem vT{w0:World}{Bi Bs Bl:Nat}{i st:Int}{v:Value}{w:World}(h1:Bi<w.heap.size)(h2:Bs<w.heap.size)(h3:Bl<w.heap.size)(h4:w0.heap.size<=w.heap.size)(W:World)(l:Nat)(o o':Obj)(hl:w.heap.size<=l)(_:W.heap[l]? = some o)(_:o.isCells=false)(_:o.isWalk=false):mg w0 Bi Bs Bl i st v W (W.putObj l o') :=
 fun x=>⟨⟨(putObj_heap_other (by omega)).trans x.1.i,(putObj_heap_other (by omega)).trans x.1.s,(putObj_heap_other (by omega)).trans x.1.l⟩,fun b hb=>(putObj_heap_other (by omega)).trans (x.2 b hb)⟩
theorem Ap{β:Type}(Bi Bs Bl:Nat)(i st:Int)(v:Value):Own (fun(_:β) W=>Frm Bi Bs Bl i st v W):=fun s X Y row hs hg hr =>
 ⟨boxed_own Bi 3 (fun _=>.int .i64 i) s X Y row hs.i hg hr,boxed_own Bs 3 (fun _=>.int .i64 st) s X Y row hs.s hg hr,boxed_own Bl 37 (fun _=>v) s X Y row hs.l hg hr⟩
theorem cd{W W':World}(h:Below W.heap.size W W'):KeepsOthers W W':=⟨h.size,fun k o hk _=>(h.block k (Array.getElem?_eq_some_iff.1 hk).1).trans hk⟩
theorem jc{Bi Bs Bl:Nat}{i st:Int}{v:Value}{W W':World}(h:Below W.heap.size W W')(hF:Frm Bi Bs Bl i st v W):Frm Bi Bs Bl i st v W' :=
 ⟨(h.block Bi hF.i.lt).trans hF.i,(h.block Bs hF.s.lt).trans hF.s,(h.block Bl hF.l.lt).trans hF.l⟩
end L
end Go.Proofs.YtmkompnhefhngaaGreatDoor
