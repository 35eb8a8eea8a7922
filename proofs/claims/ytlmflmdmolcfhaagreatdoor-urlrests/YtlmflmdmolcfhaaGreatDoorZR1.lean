/- Contracts and plain facts. -/
import Derived.Test.YtlmflmdmolcfhaaGreatDoorZ11
set_option maxRecDepth 100000
set_option maxHeartbeats 16000000
set_option linter.unusedVariables false
set_option linter.unnecessarySimpa false
open Nat (le_refl)
open List (mem_of_mem_drop map_cons append_assoc nil_append getLast?_append all_cons mem_of_getLast? map_nil zip_cons_cons zip_nil_right mem_cons length_drop mem_append append_nil)
open Bool (and_eq_true false_eq_true)
namespace Go.Proofs.YtlmflmdmolcfhaaGreatDoor
open Go.Proofs.Tryz Go.RowKit
namespace U
open Go.RowKit Go.Shelf
attribute [local go_sem] Oper.semAt_some
def val(l:List Int):Bool:=(scl l).all fun x=>x.1.2
theorem mX(l:List Int)(h:l≠[])(hl:Bytes l):val l=((nx l).2.2&&val (l.drop (nx l).2.1)):=by unfold val;rw[km l h,all_cons,ml l hl]
theorem back:∀(zs:List Int),zs.all ab=true->dec (aj zs)=zs/\val (aj zs)=true
 | [],_=>⟨rfl,rfl⟩
 | c::t,h=>by
  rw[all_cons,and_eq_true]at h;have ih:=back t h.2;have e:aj (c::t)=enc c++aj t:=by simp[aj]
  have hx:=nY c h.1 (aj t);have hlen:=eG c;have hne:enc c++aj t≠[]:=fun hh=>by have:=congrArg List.length hh;rw[List.length_append,List.length_nil]at this;omega
  have hb:Bytes (enc c++aj t):=fun b hb=>(List.mem_append.1 hb).elim (cR c (by have:=h.1;unfold ab at this;rw[decide_eq_true_eq]at this;omega) (by have:=h.1;unfold ab at this;rw[decide_eq_true_eq]at this;omega) b) (dI t (fun c hc=>by have:=List.all_eq_true.1 h.2 c hc;unfold ab at this;rw[decide_eq_true_eq]at this;omega) b);have hd:(enc c++aj t).drop (enc c).length=aj t:=by simp
  rw[e,aO _ hne hb,mX _ hne hb,hx];simp only[hd,ih.1,ih.2];exact⟨trivial,rfl⟩
end U
namespace E
theorem Il{c:Int}{t:List Int}(h:c≠37):de (c::t)=c::de t:=NY (fun hh=>h hh.1)
theorem PY:∀ k:Fin 7,inS 37 k.val=decide (k.val=6):=by decide
theorem bj:∀ {l:List Int},(∀ c∈l,c<128)->U.aj l=l
 | [],_=>rfl
 | c::l,h=>by have e:U.aj (c::l)=U.enc c++U.aj l:=List.flatMap_cons;rw[e,bR (h c (by simp)),bj (fun x hx=>h x (by simp[hx]))];rfl
theorem Cf{l:List Int}(h:∀ c∈l,U.ab c=true):U.dec (U.aj l)=l:=(U.back l (List.all_eq_true.2 h)).1
theorem qS{l:List Int}(h:∀ c∈l,0<=c/\c<128):U.dec l=l:=by
 have e:=bj (l:=l) (fun c hc=>(h c hc).2);have s:∀ c∈l,U.ab c=true:=fun c hc=>by have:=h c hc;unfold U.ab;simp;omega
 have:=Cf s
 rwa [e]at this
theorem mG{k:Nat}:∀ {l:List Int},(∀ c∈l,c<128/\inS c k=false)->en k l=l
 | [],_=>rfl
 | c::l,h=>by have hc:=h c (by simp);rw[kK,mG (fun x hx=>h x (by simp[hx]))];unfold tok;rw[hc.2,if_neg (by decide),bR hc.1];rfl
theorem vL{k:Nat}(hk:k<=5){l:List Int}(h:∀ c∈l,U.ab c=true):en k (U.dec (en k l))=en k l:=by
 have hs:=kJ (k:=k) (by omega) h;rw[qS (fun c hc=>by have:=hs c hc;omega)]
 exact mG (fun c hc=>by
   have:=hs c hc
   refine⟨by omega,?_⟩
   cases hi:inS c k with
   | false=>rfl
   | true =>
     have e:=this.2.2 hi
     rw[e]at hi
     have:=PY ⟨k,by omega⟩
     simp only at this
     rw[this]at hi
     exact absurd (of_decide_eq_true hi) (by omega))
end E
namespace F
theorem aS{a b:ByteArray}(h:bn a=bn b):(a.toList==b.toList)=true:=by rw[gC];exact decide_eq_true h
theorem GF{n:Nat}(h:n<16):hx (dg n)=n:=by unfold hx dg;(repeat' split) <;> omega
theorem CT{b:Nat}(h2:2<=b)(h16:b<=16):∀(f n:Nat),n<b ^ (f+1)->ok b (wrF b f n)=true/\vl b (wrF b f n)=n
 | 0,n,h=>by
  have hn:n<b:=by simpa using h
  have hm:n % b=n:=Nat.mod_eq_of_lt hn;have hd:=GF (n:=n) (by omega);rw[wrF,hm];refine⟨?_,?_⟩
  ·unfold ok lB;simp[hd];omega
  ·unfold vl;simp[hd]
 | f+1,n,h=>by
  rw[wrF];split
  ·rename_i hn;have hd:=GF (n:=n) (by omega);refine⟨?_,?_⟩
   ·unfold ok lB;simp[hd];omega
   ·unfold vl;simp[hd]
  ·rename_i hn
   have hq:n / b<b ^ (f+1):=by
    rw[Nat.div_lt_iff_lt_mul (by omega)]
    rwa [Nat.pow_succ]at h
   obtain⟨i1,i2⟩:=CT h2 h16 f (n / b) hq;have hm:n % b<b:=Nat.mod_lt _ (by omega);have hd:=GF (n:=n % b) (by omega);refine⟨?_,?_⟩
   ·rw[zp,i1];unfold lB;simp[hd];omega
   ·rw[mi,i2,hd];have:=Nat.div_add_mod n b;simp only[Int.toNat_natCast];rw[Nat.mul_comm];exact this
theorem zk{b:Nat}(h2:2<=b):2 ^ 64<=b ^ 65:=Nat.le_trans (Nat.pow_le_pow_right (by decide) (by decide:64<=65)) (Nat.pow_le_pow_left h2 65)
theorem js{b n:Nat}(h2:2<=b)(h16:b<=16)(hn:n<2 ^ 64):ok b (wr b n)=true/\vl b (wr b n)=n:=CT h2 h16 64 n (Nat.lt_of_lt_of_le hn (zk h2))
theorem CU(b f n:Nat):wrF b f n≠[]:=by
 cases f with
 | zero=>simp[wrF]
 | succ f=>rw[wrF];split <;> simp
theorem CR(b n:Nat):wr b n≠[]:=CU b 64 n
theorem pT{b:Nat}(h2:2<=b)(h16:b<=16):∀(f n:Nat),n<b ^ (f+1)->0<n->(wrF b f n)[0]?.getD 0≠48
 | 0,n,h,h0=>by
  have hn:n<b:=by simpa using h
  rw[wrF,Nat.mod_eq_of_lt hn];simp;unfold dg;split <;> omega
 | f+1,n,h,h0=>by
  rw[wrF];split
  ·simp;unfold dg;split <;> omega
  ·rename_i hn
   have hq:n / b<b ^ (f+1):=by
    rw[Nat.div_lt_iff_lt_mul (by omega)]
    rwa [Nat.pow_succ]at h
   have hp:0<n / b:=Nat.div_pos (by omega) (by omega);have ih:=pT h2 h16 f (n / b) hq hp;have hl:0<(wrF b f (n / b)).length:=List.length_pos_iff.2 (CU b f _)
   rwa [List.getElem?_append_left hl]
theorem Js{b:Nat}(h:0<b):wr b 0=[48]:=by unfold wr;rw[wrF,if_pos h];rfl
theorem xt{l:List Int}{b:Nat}{r:List Int}{n:Nat}(hl:l≠[])(hb:base l=b)(hr:rest l=r)(hok:ok b r=true)(hv:vl b r=n):num l=if 4294967296<=n then (0,4) else (n,0):=by unfold num;rw[if_neg hl,hb,hr,hok,if_neg (by simp),hv]
theorem RV{r:List Int}{n:Nat}(hok:ok 16 r=true)(hv:vl 16 r=n):num (48::120::r)=if 4294967296<=n then (0,4) else (n,0):=by
 have hx:isX (48::120::r)=true:=by unfold isX;simp
 exact xt (by simp) (by unfold base;rw[if_pos hx]) (by unfold rest;rw[if_pos hx];rfl) hok hv
theorem Qh{b:Nat}{r:List Int}(hr:r≠[])(hok:ok b r=true):¬ (r[0]?.getD 0=120\/r[0]?.getD 0=88):=by
 cases r with
 | nil=>exact absurd rfl hr
 | cons c r =>
  unfold ok at hok;rw[all_cons,and_eq_true]at hok;have:=of_decide_eq_true hok.1;intro h;simp at h;rcases h with rfl | rfl
  ·exact absurd this.1 (by decide)
  ·exact absurd this.1 (by decide)
theorem RX{r:List Int}{n:Nat}(hr:r≠[])(hok:ok 8 r=true)(hv:vl 8 r=n):num (48::r)=if 4294967296<=n then (0,4) else (n,0):=by
 have hg:=Qh hr hok;have hl:0<r.length:=List.length_pos_iff.2 hr;have hx:isX (48::r)=false:=by unfold isX;refine decide_eq_false (fun h=>hg ?_);have:=h.2.2;simpa using this
 have ho:isO (48::r)=true:=by unfold isO;simp;omega
 exact xt (by simp) (by unfold base;rw[hx,if_neg (by simp),if_pos ho]) (by unfold rest;rw[hx,if_neg (by simp),if_pos ho];rfl) hok hv
theorem RW{r:List Int}{n:Nat}(hr:r≠[])(h0:r.length=1\/r[0]?.getD 0≠48)(hok:ok 10 r=true)(hv:vl 10 r=n):num r=if 4294967296<=n then (0,4) else (n,0):=by
 have ho:isO r=false:=by
  unfold isO;refine decide_eq_false (fun h=>?_);rcases h0 with h1 | h1
  ·omega
  ·exact h1 h.2
 have hx:isX r=false:=by unfold isX;unfold isO at ho;have:=of_decide_eq_false ho;exact decide_eq_false (fun h=>this ⟨h.1,h.2.1⟩)
 exact xt hr (by unfold base;rw[hx,ho];rfl) (by unfold rest;rw[hx,ho];rfl) hok hv
theorem zy{k n:Nat}(hn:n<2 ^ 64):num (wrt k n)=if 4294967296<=n then (0,4) else (n,0):=by
 unfold wrt;split
 ·obtain⟨h1,h2⟩:=js (b:=16) (by decide) (by decide) hn;exact RV h1 h2
 ·split
  ·obtain⟨h1,h2⟩:=js (b:=8) (by decide) (by decide) hn;exact RX (CR 8 n) h1 h2
  ·obtain⟨h1,h2⟩:=js (b:=10) (by decide) (by decide) hn;refine RW (CR 10 n) ?_ h1 h2;by_cases h0:n=0
   ·left;rw[h0,Js (by decide)];rfl
   ·right;exact pT (by decide) (by decide) 64 n (Nat.lt_of_lt_of_le hn (zk (by decide))) (by omega)
theorem dp:∀(ps:List (List Int)),ps≠[]->(∀ p∈ps,¬ 46∈p)->spl (join ps)=ps
 | [],h,_=>absurd rfl h
 | [p],_,h=>cu p (h p (by simp))
 | p::q::r,_,h=>by rw[join,fW p _ (h p (by simp)),dp (q::r) (by simp) (fun x hx=>h x (by simp at hx ⊢;right;exact hx))]
theorem ki:∀(ps:List (List Int)),ps≠[]->(∀ p∈ps,¬ 46∈p)->spl (join ps++[46])=ps++[[]]
 | [],h,_=>absurd rfl h
 | [p],_,h=>by
  show spl (p++46::[])=_;rw[fW p _ (h p (by simp))];rfl
 | p::q::r,_,h=>by rw[join,append_assoc];show spl (p++46::(join (q::r)++[46]))=_;rw[fW p _ (h p (by simp)),ki (q::r) (by simp) (fun x hx=>h x (by simp at hx ⊢;right;exact hx))];rfl
theorem tT{ps:List (List Int)}(hne:ps≠[])(hd:∀ p∈ps,¬ 46∈p)(hl:ps.getLast? ≠ some []):prt (join ps)=ps:=by unfold prt;rw[dp ps hne hd,if_neg (fun h=>hl h.2)]
theorem KG{ps:List (List Int)}(hne:ps≠[])(hd:∀ p∈ps,¬ 46∈p):prt (join ps++[46])=ps:=by have hl:0<ps.length:=List.length_pos_iff.2 hne;unfold prt;rw[ki ps hne hd,if_pos ⟨by simp;omega,by simp⟩];simp
theorem GY{b:Nat}{c:Int}(hb:b<=10)(h:lB b c=true):ten c=true:=by
 have:=of_decide_eq_true h;unfold ten;refine decide_eq_true ?_;unfold hx at this;split at this
 ·assumption
 ·split at this
  ·omega
  ·split at this <;> omega
theorem GZ{b:Nat}{c:Int}(h:lB b c=true):c≠46:=fun e=>by rw[e]at h;have:=of_decide_eq_true h;exact absurd this.1 (by decide)
theorem xo{b:Nat}{l:List Int}(h:ok b l=true):¬ 46∈l:=fun hm=>GZ (List.all_eq_true.1 h 46 hm) rfl
theorem Jr{k n:Nat}(hn:n<2 ^ 64):¬ 46∈wrt k n:=by
 unfold wrt;split
 ·have:=xo (js (b:=16) (by decide) (by decide) hn).1;simp[this]
 ·split
  ·have:=xo (js (b:=8) (by decide) (by decide) hn).1;simp[this]
  ·exact xo (js (b:=10) (by decide) (by decide) hn).1
theorem CQ(k n:Nat):wrt k n≠[]:=by
 unfold wrt;split
 ·simp
 ·split
  ·simp
  ·exact CR 10 n
theorem mK{b:Nat}{l:List Int}(hb:b<=10)(h:ok b l=true):l.all ten=true:=List.all_eq_true.2 (fun c hc=>GY hb (List.all_eq_true.1 h c hc))
theorem MJ{k n:Nat}(hn:n<2 ^ 64):sD (wrt k n)=true:=by
 unfold sD;by_cases h0:k=0
 ·have hx:isX (wrt k n)=true:=by unfold wrt isX;rw[if_pos h0];simp
  have he:(num (wrt k n)).2≠8:=by rw[zy hn];split <;> simp
  rw[hx,decide_eq_true he];simp
 ·have:(wrt k n).all ten=true:=by
   unfold wrt;rw[if_neg h0];split
   ·rw[all_cons,mK (b:=8) (by decide) (js (by decide) (by decide) hn).1];rfl
   ·exact mK (b:=10) (by decide) (js (by decide) (by decide) hn).1
  rw[this,decide_eq_true (CQ k n)];rfl
def il(vs:List (Nat×Nat)):List (Nat×Int):=vs.map fun v=>if 4294967296<=v.2 then (0,4) else (v.2,0)
theorem CO{vs:List (Nat×Nat)}(h:∀ v∈vs,v.2<2 ^ 64):(ij vs).map num=il vs:=by unfold ij il;rw[List.map_map];apply List.map_congr_left;intro v hv;exact zy (h v hv)
theorem Ap(vs:List (Nat×Nat)):(il vs).any (fun x=>decide (x.2=8))=false:=by rw[List.any_eq_false];intro x hx;obtain⟨v,_,rfl⟩:=List.mem_map.1 hx;split <;> simp
theorem wD{vs:List (Nat×Nat)}(h4:vs.length<=4)(h:∀ v∈vs,v.2<2 ^ 64):adr (ij vs)=if lg vs.length (il vs)=true then (0,4) else (sm 0 (il vs),0):=by
 unfold adr;have hl:(ij vs).length=vs.length:=by unfold ij;simp
 rw[hl,if_neg (by omega),CO h,Ap,if_neg (by simp)]
theorem mQ{vs:List (Nat×Nat)}(h:∀ v∈vs,v.2<2 ^ 64):∀ p∈ij vs,¬ 46∈p:=by intro p hp;obtain⟨v,hv,rfl⟩:=List.mem_map.1 hp;exact Jr (h v hv)
theorem pS{vs:List (Nat×Nat)}:(ij vs).getLast? ≠ some []:=by intro e;obtain⟨v,_,hv⟩:=List.mem_map.1 (mem_of_getLast? e);exact CQ _ _ hv
theorem Ey{vs:List (Nat×Nat)}(hne:vs≠[])(h4:vs.length<=4)(h:∀ v∈vs,v.2<2 ^ 64):prs (join (ij vs))=(if lg vs.length (il vs)=true then (0,4) else (sm 0 (il vs),0))/\prs (join (ij vs)++[46])=(if lg vs.length (il vs)=true then (0,4) else (sm 0 (il vs),0)):=by
 have hw:ij vs≠[]:=by unfold ij;simpa using hne
 unfold prs;rw[tT hw (mQ h) pS,KG hw (mQ h)];exact⟨wD h4 h,wD h4 h⟩
theorem qM{vs:List (Nat×Nat)}(hne:vs≠[])(h:∀ v∈vs,v.2<2 ^ 64):ends (join (ij vs))=true:=by
 have hw:ij vs≠[]:=by unfold ij;simpa using hne
 unfold ends;rw[tT hw (mQ h) pS];cases hl:(ij vs).getLast? with
 | none=>exact absurd (List.getLast?_eq_none_iff.1 hl) hw
 | some p =>
  obtain⟨v,hv,rfl⟩:=List.mem_map.1 (mem_of_getLast? hl);exact MJ (h v hv)
theorem MV{a n:Nat}(ha:a<4294967296)(h1:1<=n)(h4:n<=4){ks:List Nat}(hk:ks.length=n):lg n (il (ks.zip (cut a n)))=false/\sm 0 (il (ks.zip (cut a n)))=a:=by
 have g:∀ x:Nat,x<4294967296->(if 4294967296<=x then ((0:Nat),(4:Int)) else (x,0))=(x,0):=fun x hx=>if_neg (by omega);obtain rfl | rfl | rfl | rfl:n=1\/n=2\/n=3\/n=4:=by omega
 ·match ks,hk with
  | [k1],_ =>
   simp only[cut,zip_cons_cons,zip_nil_right,il,map_cons,map_nil,g a ha];exact⟨by simp[lg];omega,rfl⟩
 ·match ks,hk with
  | [k1,k2],_ =>
   simp only[cut,zip_cons_cons,zip_nil_right,il,map_cons,map_nil,g (a / 16777216) (by omega),g (a % 16777216) (by omega)];exact⟨by simp[lg];omega,by simp[sm];omega⟩
 ·match ks,hk with
  | [k1,k2,k3],_ =>
   simp only[cut,zip_cons_cons,zip_nil_right,il,map_cons,map_nil,g (a / 16777216) (by omega),g (a / 65536 % 256) (by omega),g (a % 65536) (by omega)];exact⟨by simp[lg];omega,by simp[sm];omega⟩
 ·match ks,hk with
  | [k1,k2,k3,k4],_ =>
   simp only[cut,zip_cons_cons,zip_nil_right,il,map_cons,map_nil,g (a / 16777216) (by omega),g (a / 65536 % 256) (by omega),g (a / 256 % 256) (by omega),g (a % 256) (by omega)];exact⟨by simp[lg];omega,by simp[sm];omega⟩
end F
namespace X
open F (hx)
theorem yS(b:Int):∀(ps:List (List Int)),ps≠[]->(∀ p∈ps,¬ b∈p)->spB b (aB b ps)=ps
 | [],h,_=>absurd rfl h
 | [p],_,h=>fK b p (h p (by simp))
 | p::q::r,_,h=>by rw[aB,nA b p _ (h p (by simp)),yS b (q::r) (by simp) (fun x hx=>h x (by simp at hx ⊢;right;exact hx))]
theorem gj:∀(ps:List (List Int)),ps≠[]->(∀ p∈ps,Txt p)->aB 58 ps≠[]/\(aB 58 ps).getLast? ≠ some 58/\(aB 58 ps).head? ≠ some 58/\cc (aB 58 ps)=0
 | [],h,_=>absurd rfl h
 | [p],_,h=>by
  have hp:=h p (by simp);exact⟨hp.1,sk hp,head_ne hp,jj p hp.2⟩
 | p::q::r,_,h=>by
  have hp:=h p (by simp);obtain⟨i1,i2,i3,i4⟩:=gj (q::r) (by simp) (fun x hx=>h x (by simp at hx ⊢;right;exact hx));rw[aB];refine⟨by simp,?_,?_,?_⟩
  ·obtain⟨z,hz⟩:=Ex' (aB 58 (q::r));rw[hz]at i1 i2 ⊢;cases z with
   | nil=>exact absurd rfl i1
   | cons c t=>simpa using i2
  ·cases p with
   | nil=>exact absurd rfl hp.1
   | cons c t =>
    have:=head_ne hp;simpa using this
  ·rw[ff,jj p hp.2];have e:(58::aB 58 (q::r))=[58]++aB 58 (q::r):=rfl;rw[e,ff,i4];have e1:cc [58]=0:=rfl;rw[e1,if_neg (fun hh=>i3 hh.2),if_neg (fun hh=>sk hp hh.1)]
theorem iw{last:Bool}{ps:List (List Int)}(h:∀ p∈ps,Txt p):pieces last (aB 58 ps)=pcs last ps:=by
 cases hps:ps with
 | nil=>rfl
 | cons p r =>
  rw[<-hps];have hne:ps≠[]:=by rw[hps];simp
  unfold pieces;rw[if_neg (gj ps hne h).1,yS 58 ps hne (fun p hp=>(h p hp).2)]
theorem KP{ps:List (List Int)}(h:∀ p∈ps,Txt p):prs (aB 58 ps)=full (pcs true ps):=by
 have hc:cc (aB 58 ps)=0:=by
  cases hps:ps with
  | nil=>rfl
  | cons p r=>rw[<-hps];exact(gj ps (by rw[hps];simp) h).2.2.2
 unfold prs;rw[if_pos hc,iw h]
theorem KQ{fs bs:List (List Int)}(hf:∀ p∈fs,Txt p)(hb:∀ p∈bs,Txt p):prs (aB 58 fs++58::58::aB 58 bs)=both (pcs false fs) (pcs true bs):=by
 have f0:cc (aB 58 fs)=0/\(aB 58 fs).getLast? ≠ some 58:=by
  cases hps:fs with
  | nil=>exact⟨rfl,by simp[aB]⟩
  | cons p r=>rw[<-hps];have:=gj fs (by rw[hps];simp) hf;exact⟨this.2.2.2,this.2.1⟩
 have b0:cc (aB 58 bs)=0/\(aB 58 bs).head? ≠ some 58:=by
  cases hps:bs with
  | nil=>exact⟨rfl,by simp[aB]⟩
  | cons p r=>rw[<-hps];have:=gj bs (by rw[hps];simp) hb;exact⟨this.2.2.2,this.2.2.1⟩
 have c1:cc (aB 58 fs++[58])=0:=by rw[ff,f0.1,if_neg (fun hh=>f0.2 hh.1)];rfl
 have c2:cc (aB 58 fs++58::58::aB 58 bs)=1:=by
  have e:aB 58 fs++58::58::aB 58 bs=(aB 58 fs++[58])++([58]++aB 58 bs):=by simp
  rw[e,ff,c1,ff,b0.1,if_neg (fun hh=>b0.2 hh.2),if_pos ⟨by simp,by simp⟩];rfl
 have p1:=zX (aB 58 fs) (aB 58 bs) c1;unfold prs;rw[c2,if_neg (by decide),if_pos rfl,p1];have t1:(aB 58 fs++58::58::aB 58 bs).take (aB 58 fs).length=aB 58 fs:=List.take_left;have t2:(aB 58 fs++58::58::aB 58 bs).drop ((aB 58 fs).length+2)=aB 58 bs:=by rw[<-List.drop_drop,List.drop_left];rfl
 rw[t1,t2,iw hf,iw hb]
open F (hx)
theorem GN{cap nts:Bool}{n:Nat}(h:n<65536):dt (aU cap nts n)=none:=by unfold dt;rw[fK 46 _ (fun hm=>by have:=oF h hm;omega)];show ma [dn (aU cap nts n)]=none;cases dn (aU cap nts n) <;> rfl
theorem LS{last cap nts:Bool}{n:Nat}(h:n<65536):lst last (aU cap nts n)=some [n]:=by unfold lst;rw[GN h,mD h];cases last <;> rfl
theorem mx{last cap nts:Bool}:∀(vs:List Nat),(∀ v∈vs,v<65536)->pcs last (vs.map (aU cap nts))=some vs
 | [],_=>rfl
 | [v],h=>LS (h v (by simp))
 | v::u::r,h=>by have ih:=mx (last:=last) (cap:=cap) (nts:=nts) (u::r) (fun x hx=>h x (by simp at hx ⊢;right;exact hx));show put (pc (aU cap nts v)) (pcs last ((u::r).map (aU cap nts)))=_;rw[ih,mD (h v (by simp))];rfl
theorem Small.take{a:List Nat}(h:Small a)(i:Nat):Small (a.take i):=fun v hv=>h v (List.mem_of_mem_take hv)
theorem Small.drop{a:List Nat}(h:Small a)(i:Nat):Small (a.drop i):=fun v hv=>h v (mem_of_mem_drop hv)
theorem sg{cap nts:Bool}{a:List Nat}(h:Small a):∀ p∈a.map (aU cap nts),Txt p:=fun p hp=>by obtain⟨v,hv,rfl⟩:=List.mem_map.1 hp;exact oE (h v hv)
theorem Eo{cap nts:Bool}{a:List Nat}(h:Small a):prs (aB 58 (a.map (aU cap nts)))=if a.length=8 then some a else none:=by rw[KP (sg h),mx a h];rfl
theorem Ep{cap nts:Bool}{f b:List Nat}(hf:Small f)(hb:Small b):prs (aB 58 (f.map (aU cap nts))++58::58::aB 58 (b.map (aU cap nts)))=if f.length+b.length<=7 then some (f++List.replicate (8 - b.length - f.length) 0++b) else none:=by rw[KQ (sg hf) (sg hb),mx f hf,mx b hb];rfl
theorem CL{a:List Nat}{i k:Nat}(hl:a.length=8)(hik:i<=k)(hk:k<=8)(hz:∀ j,i<=j->j<k->a[j]?.getD 1=0):a.take i++List.replicate (k - i) 0++a.drop k=a:=by
 apply List.ext_getElem?;intro j;by_cases h1:j<i
 ·rw[append_assoc,List.getElem?_append_left (by simp;omega),List.getElem?_take,if_pos h1]
 ·by_cases h2:j<k
  ·rw[append_assoc,List.getElem?_append_right (by simp;omega),List.getElem?_append_left (by simp;omega)];have h3:j<a.length:=by omega
   have:=hz j (by omega) h2;rw[List.getElem?_eq_getElem h3]at this ⊢;simp at this;rw[this,List.getElem?_replicate,if_pos (by simp;omega)]
  ·rw[List.getElem?_append_right (by simp;omega),List.getElem?_drop];congr 1;simp;omega
theorem KO{a:List Nat}(hl:a.length=8)(hs:Small a):prs (txt a)=some a:=by
 rcases mj hl with⟨_,h,_⟩ | ⟨p,m,_,_,h2,h8,hz,h⟩
 ·rw[h,Eo hs,if_pos hl]
 ·rw[h,Ep (hs.take p) (hs.drop (p+m))];rw[List.length_take,length_drop,if_pos (by omega)];have:=CL (a:=a) (i:=p) (k:=p+m) hl (by omega) h8 (fun j h3 h4=>hz j h3 h4);rw[show 8 - (a.length - (p+m)) - min p a.length=p+m - p by omega,this]
end X
namespace H
theorem HP.one{A:List Int->List Int->Int->Prop}(hA:Asc A){s:List Int}{sp:Bool}{h k:Hst}(x:HP A s sp h)(y:HP A s sp k):h=k:=by
 unfold HP at x y;split at x
 ·rename_i c;rw[if_pos c]at y;rw[x,y]
 ·rename_i c;rw[if_neg c]at y;split at x
  ·rename_i c;rw[if_pos c]at y;rw[x,y]
  ·rename_i c;rw[if_neg c]at y;split at x
   ·rename_i c;rw[if_pos c]at y;rw[x,y]
   ·rename_i c;rw[if_neg c]at y;obtain⟨d,r,h1,rfl⟩:=x;obtain⟨d',r',h2,rfl⟩:=y;obtain⟨rfl,rfl⟩:=hA.one h1 h2;rfl
theorem oS:∀(n:Nat) (l:List Int),l.length<=n->(∀ c∈l,c≠37)->E.de l=l
 | 0,[],_,_=>rfl
 | n+1,[],_,_=>rfl
 | n+1,c::l,h,hc=>by rw[E.Il (hc c (by simp)),oS n l (by simpa using h) (fun x hx=>hc x (by simp[hx]))]
theorem Hj{c:Int}(h:fd c=false):fb c=false/\32<=c/\c≠37/\c≠127:=by unfold fd at h;simp only[Bool.or_eq_false_iff,decide_eq_false_iff_not]at h;exact⟨h.1,by omega,h.2.2.1,h.2.2.2⟩
theorem lF{p:Int->Bool}{l:List Int}(h:¬ l.any p=true):∀ c∈l,p c=false:=by intro c hc;rw[Bool.not_eq_true,List.any_eq_false]at h;simpa using h c hc
theorem Dy:∀ n:Fin 128,(48<=n.val/\n.val<=57\/n.val=46)->fd (n.val:Int)=false/\fb (n.val:Int)=false:=by decide
theorem wO{c:Int}(h:48<=c/\c<=57\/c=46):fd c=false/\fb c=false:=by obtain⟨k,rfl⟩:∃ k:Nat,c=k:=⟨c.toNat,by omega⟩;exact Dy ⟨k,by omega⟩ (by simp only;omega)
theorem uP:∀(ls:List (List Int)) (c:Int),c∈F.join ls->c=46\/∃ l∈ls,c∈l
 | [],c,h=>by simp[F.join]at h
 | [a],c,h=>.inr ⟨a,by simp,by simpa[F.join]using h⟩
 | a::b::l,c,h=>by
  rw[F.join,mem_append,mem_cons]at h;rcases h with h | rfl | h
  ·exact .inr ⟨a,by simp,h⟩
  ·exact .inl rfl
  ·rcases uP (b::l) c h with rfl | ⟨x,hx,hc⟩
   ·exact .inl rfl
   ·exact .inr ⟨x,by simp at hx ⊢;exact .inr hx,hc⟩
theorem mW{a:Nat}(ha:a<4294967296):∀ v∈F.tw (F.cut a 4),v.2<2 ^ 64:=by intro v hv;unfold F.tw F.cut at hv;simp at hv;rcases hv with rfl | rfl | rfl | rfl <;> simp only <;> omega
theorem De{a:Nat}(ha:a<4294967296):∀ c∈F.txt a,48<=c/\c<=57\/c=46:=by
 intro c hc;rcases uP _ c hc with rfl | ⟨l,hl,hcl⟩
 ·exact .inr rfl
 ·left;unfold F.ij at hl;obtain⟨v,hv,rfl⟩:=List.mem_map.1 hl;have h2:v.1=2:=by unfold F.tw at hv;obtain⟨n,_,rfl⟩:=List.mem_map.1 hv;rfl
  have hw:F.wrt v.1 v.2=F.wr 10 v.2:=by unfold F.wrt;rw[h2];rfl
  rw[hw]at hcl;have h3:=F.mK (b:=10) (by decide) (F.js (b:=10) (by decide) (by decide) (mW ha v hv)).1;exact of_decide_eq_true (List.all_eq_true.1 h3 c hcl)
theorem Ar{a:Nat}(ha:a<4294967296):F.prs (F.txt a)=(a,0)/\F.ends (F.txt a)=true/\F.txt a≠[]:=by
 have hv:=mW ha;have hne:F.tw (F.cut a 4)≠[]:=by unfold F.tw F.cut;simp
 have hz:F.tw (F.cut a 4)=[2,2,2,2].zip (F.cut a 4):=rfl;have hc:=F.MV ha (n:=4) (by decide) (by decide) (ks:=[2,2,2,2]) rfl;refine⟨?_,F.qM hne hv,?_⟩
 ·have h:=(F.Ey hne (show 4<=4 from le_refl _) hv).1;unfold F.txt;rw[h];have hl:(F.tw (F.cut a 4)).length=4:=rfl;rw[hl,hz,hc.1,hc.2];rfl
 ·intro e;have h:=F.qM hne hv;unfold F.txt at e;rw[e]at h;exact absurd h (by decide)
theorem da:∀(n:Nat) (l:List Int),l.length<=n->U.Bytes l->∀ c∈U.dec l,c<128->c∈l
 | 0,[],_,_,c,h,_=>by simp[U.bL]at h
 | n+1,[],_,_,c,h,_=>by simp[U.bL]at h
 | n+1,a::l,hn,hl,c,h,hc=>by
  rw[U.aO (a::l) (by simp) hl]at h;rcases List.mem_cons.1 h with rfl | h
  ·rcases U.iz (a::l) (by simp) hl with⟨a',t,e,h0,h1,e2⟩ | ⟨a',b,t,e,h1,h2,h3,h4,e2⟩ | ⟨a',b,d,t,e,h1,h2,h3,h4,h5,h6,e2⟩ | ⟨a',b,d,f,t,e,h1,h2,h3,h4,h5,h6,h7,h8,e2⟩ | ⟨m,_,_,e2⟩
   ·rw[e2];cases e;simp
   ·rw[e2]at hc;simp only at hc;omega
   ·rw[e2]at hc;simp only at hc;have hlo:a'=224->160<=b:=fun h=>by unfold U.aF at h3;rw[h]at h3;simpa using h3
    have hl2:128<=b:=by unfold U.aF at h3;(repeat' split at h3) <;> omega
    by_cases h224:a'=224
    ·have:=hlo h224;omega
    ·omega
   ·rw[e2]at hc;simp only at hc;have hlo:a'=240->144<=b:=fun h=>by unfold U.aF at h3;rw[h]at h3;simpa using h3
    have hl2:128<=b:=by unfold U.aF at h3;(repeat' split at h3) <;> omega
    by_cases h240:a'=240
    ·have:=hlo h240;omega
    ·omega
   ·rw[e2]at hc;simp only at hc;omega
  ·have hnx:=(U.iy (a::l) (by simp)).1;have:=da n _ (by rw[length_drop];simp at hn ⊢;omega) (fun b hb=>hl b (mem_of_mem_drop hb)) c h hc;exact mem_of_mem_drop this
theorem GM:∀ n:Fin 128,(48<=n.val/\n.val<=57\/65<=n.val/\n.val<=70\/n.val=37)->fb (n.val:Int)=false:=by decide
theorem oD{c:Int}(h:48<=c/\c<=57\/65<=c/\c<=70\/c=37):fb c=false:=by obtain⟨k,rfl⟩:∃ k:Nat,c=k:=⟨c.toNat,by omega⟩;exact GM ⟨k,by omega⟩ (by simp only;omega)
theorem sI{n:Int}(h0:0<=n)(h1:n<=15):48<=E.dg n/\E.dg n<=57\/65<=E.dg n/\E.dg n<=70:=by unfold E.dg;split <;> omega
theorem mG{s:List Int}(hs:U.Bytes s)(h:∀ c∈s,fb c=false):∀ y∈E.en 0 (U.dec s),fb y=false:=by
 intro y hy;obtain⟨c,hc,hyc⟩:=List.mem_flatMap.1 hy;have hsc:U.ab c=true:=List.all_eq_true.1 (U.bJ s.length s (le_refl _) hs) c hc;unfold E.tok at hyc;split at hyc
 ·obtain⟨b,hb,hyb⟩:=List.mem_flatMap.1 hyc;have hbb:0<=b/\b<=255:=U.cR c (E.aN hsc).1 (E.aN hsc).2 b hb;unfold E.pe at hyb;simp at hyb;rcases hyb with rfl | rfl | rfl
  ·exact oD (.inr (.inr rfl))
  ·rcases sI (n:=b / 16) (by omega) (by omega) with h | h
   ·exact oD (.inl h)
   ·exact oD (.inr (.inl h))
  ·rcases sI (n:=b % 16) (by omega) (by omega) with h | h
   ·exact oD (.inl h)
   ·exact oD (.inr (.inl h))
 ·rename_i hin;have hbd:=E.lA (k:=0) (by decide) (by simpa using hin);rw[E.bR (by omega)]at hyc;obtain rfl:=List.mem_singleton.1 hyc;exact h y (da s.length s (le_refl _) hs y hc (by omega))
theorem Ij{s:List Int}(hs:U.Bytes s)(h:s≠[]):U.dec s≠[]:=by rw[U.aO s h hs];simp
theorem Dp(k:Nat)(c:Int)(hc:U.ab c=true):E.tok k c≠[]:=by
 have he:U.enc c≠[]:=by unfold U.enc;(repeat' split) <;> simp
 unfold E.tok;split
 ·intro e;have:=congrArg List.length e;rw[E.ku]at this;have h2:=List.length_pos_iff.2 he;simp at this;omega
 ·exact he
theorem Sk{k:Nat}{l:List Int}(hl:l≠[])(hs:∀ c∈l,U.ab c=true):E.en k l≠[]:=by
 cases l with
 | nil=>exact absurd rfl hl
 | cons c l =>
  rw[E.kK];intro e;exact Dp k c (hs c (by simp)) (List.append_eq_nil_iff.1 e).1
theorem su{l:List Int}(h:∀ c∈l,fb c=false):¬ l.head? = some 91:=by intro e;have:=h 91 (List.mem_of_mem_head? e);exact absurd this (by decide)
theorem IX{p:Int->Bool}{l:List Int}(h:∀ c∈l,p c=false):l.any p=false:=by rw[List.any_eq_false];intro c hc;rw[h c hc];simp
structure Of(A:List Int->List Int->Int->Prop)(sp:Bool)(h:Hst):Prop where
 same:HP A (txt h) sp h
 free:h.1≠3->∀ c∈txt h,fb c=false/\32<=c/\c<=126/\(h.1=1->fd c=false)
 none:h.1=0↔txt h=[]
 kind:h.1<=4/\(h.1=4->sp=false)/\(sp=true->h.1≠0)
theorem HP.Em{A:List Int->List Int->Int->Prop}(hA:Asc A){s:List Int}{sp:Bool}{h:Hst}(hs:U.Bytes s)(x:HP A s sp h)(h0:h.2.2.2.2=0)(hl:(txt h).length<=4096)
  (hX:∀ l a,X.prs l=some a->a.length=8/\X.Small a):Of A sp h:=by
 unfold HP at x;split at x
 ·rw[x]at h0;cases h0
 split at x
 ·unfold six at x;split at x
  ·cases hp:X.prs ((s.drop 1).dropLast) with
   | none=>rw[hp]at x;rw[x]at h0;cases h0
   | some a =>
    rw[hp]at x;obtain⟨h8,hsm⟩:=hX _ _ hp;have ht:txt h=91::(X.txt a++[93]):=by rw[x];rfl
    refine⟨?_,fun hk=>absurd (by rw[x]) hk,?_,?_⟩
    ·unfold HP;rw[if_neg (by omega),ht,if_pos (show(91::(X.txt a++[93])).head? = some 91 from rfl),x];unfold six;rw[if_pos ⟨by rw[List.length_cons,List.length_append,List.length_singleton];omega,List.getLast?_concat (l:=91::X.txt a) (a:=93)⟩];have:((91::(X.txt a++[93])).drop 1).dropLast=X.txt a:=by simp
     rw[this,X.KO h8 hsm]
    ·rw[ht,x];simp
    ·rw[x];simp
  ·rw[x]at h0;cases h0
 split at x
 ·rename_i hsp;unfold opq at x;split at x
  ·rw[x]at h0;cases h0
  ·rename_i hfb;have hfb':=lF hfb;split at x
   ·have ht:txt h=[]:=by rw[x];rfl
    refine⟨?_,(fun _ c hc=>by rw[ht]at hc;simp at hc),?_,?_⟩
    ·unfold HP;rw[ht,if_neg (by simp),if_neg (by simp),if_pos hsp,x];rfl
    ·rw[ht,x];simp[non]
    ·rw[x];simp[non,hsp]
   ·rename_i hne;have ht:txt h=E.en 0 (U.dec s):=by rw[x];rfl
    have hsc:∀ c∈U.dec s,U.ab c=true:=List.all_eq_true.1 (U.bJ s.length s (le_refl _) hs);have hfree:=mG hs hfb';have htn:=Sk (k:=0) (Ij hs hne) hsc;refine⟨?_,?_,?_,?_⟩
    ·unfold HP;rw[if_neg (by omega),ht,if_neg (su hfree),if_pos hsp,x];unfold opq;rw[IX hfree,if_neg (by simp),if_neg htn,E.vL (by decide) hsc]
    ·intro _ c hc;rw[ht]at hc;have h3:=E.kJ (k:=0) (by decide) hsc c hc;exact⟨hfree c hc,h3.1,h3.2.1,fun hk=>by rw[x]at hk;simp at hk⟩
    ·rw[ht,x];simp[htn]
    ·rw[x];simp[hsp]
 ·rename_i hsp;obtain⟨d,r,hAd,x⟩:=x;have hspt:sp=true:=by simpa using hsp
  unfold dom at x;split at x
  ·rw[x]at h0;cases h0
  ·rename_i hd
   have hr:r=0:=by
    by_cases h:r=0
    ·exact h
    ·exact absurd (.inl h) hd
   have hdn:d≠[]:=fun h=>hd (.inr (.inl h));have hdf:=lF (p:=fd) (l:=d) (fun h=>hd (.inr (.inr h)));subst hr;split at x
   ·split at x
    ·rename_i hend hp0;have hbd:=EC d hp0;obtain⟨a,ha⟩:=Ex' ((F.prs d).1);rw[ha]at x hbd;have ht:txt h=F.txt a:=by rw[x];rfl
     have htt:=De hbd;obtain⟨hb1,hb2,hb3⟩:=Ar hbd;refine⟨?_,?_,?_,?_⟩
     ·unfold HP;rw[if_neg (by omega),ht,if_neg (su (fun c hc=>(wO (htt c hc)).2)),if_neg hsp];refine⟨F.txt a,0,?_,?_⟩
      ·rw[oS _ _ (le_refl _) (fun c hc=>by have:=htt c hc;omega)];exact hA.num (fun c hc=>.inr (htt c hc))
      ·rw[x];unfold dom
       rw[if_neg (by
         rintro(h | h | h)
         · exact h rfl
         · exact hb3 h
         · rw[IX (fun c hc=>(wO (htt c hc)).1)]at h;cases h),if_pos hb2,hb1]
       rfl
     ·intro _ c hc;rw[ht]at hc;have h3:=htt c hc;exact⟨(wO h3).2,by omega,by omega,fun hk=>by rw[x]at hk;simp at hk⟩
     ·rw[ht,x];simp[hb3]
     ·rw[x];simp
    ·rw[x]at h0;cases h0
   ·rename_i hend;have ht:txt h=d:=by rw[x];rfl
    have hlow:=hA.low hAd;refine⟨?_,?_,?_,?_⟩
    ·unfold HP;rw[if_neg (by omega),ht,if_neg (su (fun c hc=>(Hj (hdf c hc)).1)),if_neg hsp];refine⟨d,0,?_,?_⟩
     ·rw[oS _ _ (le_refl _) (fun c hc=>(Hj (hdf c hc)).2.2.1)];exact hA.rest hAd
     ·rw[x];unfold dom;rw[if_neg hd,if_neg hend]
    ·intro _ c hc;rw[ht]at hc;have h3:=Hj (hdf c hc);have h4:=hlow c hc;exact⟨h3.1,h3.2.1,by omega,fun _=>hdf c hc⟩
    ·rw[ht,x];simp[hdn]
    ·rw[x];simp
theorem cD(xs:Array Value)(i:Nat)(x:Int)(h:xs[i]? = some (.int .u16 x))(w:World):(part 23 xs i).run prog w=.ok (.int .u16 x) w:=by unfold part;simp[h,go_sem]
theorem cG(d:Nat)(xs ys:Array Value)(f g:Nat->Int)(w:World):∀(L:List Nat),(∀ i∈L,xs[i]? = some (.int .u16 (f i)))->(∀ i∈L,ys[i]? = some (.int .u16 (g i))) ->
  Sem.run prog (forIn L ((none:Option Bool),()) fun i __s=>do
          let a <-part 23 xs (i * 1)
          let b <-part 23 ys (i * 1)
          let r <-Op.equalIn (d+1) 23 a b
          if (!r)=true then pure (ForInStep.done (some false,())) else pure (ForInStep.yield (none,()))) w=.ok ((if L.all (fun i=>f i==g i)=true then none else some false),()) w
 | [],_,_=>by simp
 | i::L,hx,hy=>by
  have ih:=cG d xs ys f g w L (fun j hj=>hx j (by simp[hj])) (fun j hj=>hy j (by simp[hj]));have e:i * 1=i:=Nat.mul_one i;simp only[List.forIn_cons,Sem.run_bind,e,cD xs i _ (hx i (by simp)),cD ys i _ (hy i (by simp)),Result.andThen_ok,run_equalIn_int w d 23 .u16 .u16 _ _ underlying23];cases h:(f i==g i) with
  | true=>simp only[Bool.not_true,false_eq_true,if_false,Sem.run_pure,Result.andThen_ok,all_cons,h,Bool.true_and];simpa using ih
  | false=>simp[h]
theorem xX(d:Nat)(xs ys:Array Value)(f g:Nat->Int)(hx:∀ i,i<8->xs[i]? = some (.int .u16 (f i)))(hy:∀ i,i<8->ys[i]? = some (.int .u16 (g i)))(w:World):(Op.equalIn (d+2) 24 (.agg xs) (.agg ys)).run prog w=.ok ((List.range 8).all (fun i=>f i==g i)) w:=by
 have hs:∀ w,(sizeOf 23).run prog w=.ok 1 w:=fun w=>by kernel_rfl
 rw[Op.equalIn];simp only[Sem.run_bind,run_underlying underlying24,Result.andThen_ok,hs];rw[Std.Legacy.Range.forIn_eq_forIn_range'];have e:List.range' ([:8]:Std.Legacy.Range).start ([:8]:Std.Legacy.Range).size ([:8]:Std.Legacy.Range).step=List.range 8:=by decide
 rw[e];have h:=cG d xs ys f g w (List.range 8) (fun i hi=>hx i (List.mem_range.1 hi)) (fun i hi=>hy i (List.mem_range.1 hi));rw[h];simp only[Result.andThen_ok];cases (List.range 8).all (fun i=>f i==g i) <;> simp
theorem aJ(t:TypeId)(ht:∀ w,(isAgg t).run prog w=.ok false w)(xs:Array Value)(i:Nat)(x:Value)(h:xs[i]? = some x)(w:World):(part t xs i).run prog w=.ok x w:=by unfold part;simp[h,ht w,Sem.run_bind]
theorem cE(xs:Array Value)(w:World):(part 24 xs 3).run prog w=.ok (.agg (xs.extract 3 11)) w:=by
 have h1:(isAgg 24).run prog w=.ok true w:=by kernel_rfl
 unfold part;simp[h1,Sem.run_bind]
theorem fields_host : ((Tryz.prog.fieldsOf 26).toList.map fun f => (f.type, f.offset, decide (f.name = "_"))) = [(5, 0, false), (9, 1, false), (22, 2, false), (24, 3, false)] := by kernel_rfl
def eqh(k:Int)(n:ByteArray)(f:Int)(a:List Int)(k':Int)(n':ByteArray)(f':Int)(b:List Int):Bool:=(k==k')&&((n.toList==n'.toList)&&((f==f')&&(List.range 8).all (fun i=>a[i]?.getD 0==b[i]?.getD 0)))
theorem gT(k:Int)(n:ByteArray)(f a0 a1 a2 a3 a4 a5 a6 a7 k':Int)(n':ByteArray)(f' b0 b1 b2 b3 b4 b5 b6 b7:Int)(w:World):
  (Op.equalIn 10000 26 (hv k n f a0 a1 a2 a3 a4 a5 a6 a7) (hv k' n' f' b0 b1 b2 b3 b4 b5 b6 b7)).run prog w=.ok (eqh k n f [a0,a1,a2,a3,a4,a5,a6,a7] k' n' f' [b0,b1,b2,b3,b4,b5,b6,b7]) w:=by
 rw[run_equalIn_struct w 9999 26 _ _ (by kernel_rfl) (by kernel_rfl)];have hf:=fields_host;generalize (prog.fieldsOf 26).toList=fs at hf ⊢;match fs,hf with
 | [],hf=>cases hf
 | [_],hf=>simp at hf
 | [_,_],hf=>simp at hf
 | [_,_,_],hf=>simp at hf
 | _::_::_::_::_::_,hf=>simp at hf
 | [f0,f1,f2,f3],hf =>
  simp only[map_cons,map_nil,List.cons.injEq,Prod.mk.injEq,decide_eq_false_iff_not,and_true]at hf;obtain⟨⟨t0,o0,n0⟩,⟨t1,o1,n1⟩,⟨t2,o2,n2⟩,⟨t3,o3,n3⟩⟩:=hf;have g8:∀ w,(isAgg 5).run prog w=.ok false w:=fun w=>by kernel_rfl
  have gs:∀ w,(isAgg 9).run prog w=.ok false w:=fun w=>by kernel_rfl
  have g32:∀ w,(isAgg 22).run prog w=.ok false w:=fun w=>by kernel_rfl
  simp only[Op.eqFields,ne_eq,n0,n1,n2,n3,not_false_eq_true,if_true,t0,t1,t2,t3,o0,o1,o2,o3,Sem.run_bind];rw[aJ _ g8 _ 0 (.int .u8 k) rfl,Result.andThen_ok,aJ _ g8 _ 0 (.int .u8 k') rfl,Result.andThen_ok,run_equalIn_int w 9998 5 .u8 .u8 _ _ underlying5,Result.andThen_ok];unfold eqh;cases hk:(k==k') with
  | false=>simp
  | true =>
   simp only[Bool.not_true,false_eq_true,if_false,Bool.true_and,Sem.run_bind];rw[aJ _ gs _ 1 (.string n) rfl,Result.andThen_ok,aJ _ gs _ 1 (.string n') rfl,Result.andThen_ok,run_equalIn_string w 9998 9 _ _ underlying9,Result.andThen_ok];cases hn:(n.toList==n'.toList) with
   | false=>simp
   | true =>
    simp only[Bool.not_true,false_eq_true,if_false,Bool.true_and,Sem.run_bind];rw[aJ _ g32 _ 2 (.int .u32 f) rfl,Result.andThen_ok,aJ _ g32 _ 2 (.int .u32 f') rfl,Result.andThen_ok,run_equalIn_int w 9998 22 .u32 .u32 _ _ underlying22,Result.andThen_ok];cases h4:(f==f') with
    | false=>simp
    | true =>
     simp only[Bool.not_true,false_eq_true,if_false,Bool.true_and,Sem.run_bind];rw[cE,Result.andThen_ok,cE,Result.andThen_ok]
     rw[xX 9997 _ _ (fun i=>([a0,a1,a2,a3,a4,a5,a6,a7])[i]?.getD 0) (fun i=>([b0,b1,b2,b3,b4,b5,b6,b7])[i]?.getD 0) (fun i hi=>by
       obtain rfl | rfl | rfl | rfl | rfl | rfl | rfl | rfl:i=0\/i=1\/i=2\/i=3\/i=4\/i=5\/i=6\/i=7:=by omega
       all_goals rfl) (fun i hi=>by
       obtain rfl | rfl | rfl | rfl | rfl | rfl | rfl | rfl:i=0\/i=1\/i=2\/i=3\/i=4\/i=5\/i=6\/i=7:=by omega
       all_goals rfl),Result.andThen_ok]
     cases ((List.range 8).all fun i=>([a0,a1,a2,a3,a4,a5,a6,a7])[i]?.getD 0==([b0,b1,b2,b3,b4,b5,b6,b7])[i]?.getD 0) <;> simp
theorem eZ(k:Int)(n:ByteArray)(f a0 a1 a2 a3 a4 a5 a6 a7 k':Int)(n':ByteArray)(f' b0 b1 b2 b3 b4 b5 b6 b7:Int)(w:World):
  (binOp .eql 26 (hv k n f a0 a1 a2 a3 a4 a5 a6 a7) (hv k' n' f' b0 b1 b2 b3 b4 b5 b6 b7)).run prog w=.ok (.bool (eqh k n f [a0,a1,a2,a3,a4,a5,a6,a7] k' n' f' [b0,b1,b2,b3,b4,b5,b6,b7])) w:=by
 rw[run_eql_struct,gT];rfl
theorem fa(k:Int)(n:ByteArray)(f:Int)(a:List Int):eqh k n f a k n f a=true:=by unfold eqh;simp
end H
namespace Y
open F (bn ak hid aS)
theorem At.below{w W:World}{a:Us}{u:Ur}(h:At w a u)(hb:Below w.heap.size w W):At W a u :=
 ⟨h.sc,h.us,h.pa,h.hh,h.ho,h.hp,h.pr,h.op,h.bo,h.hq,h.qu,h.hf,h.fg,h.pv.imp (fun _ h=>⟨h.1,h.2.below hb⟩)⟩
theorem At.same{w:World}{a b:Us}{u:Ur}(h:At w a u)(k:At w b u):b={ a with pv:=b.pv }:=by have ho:=h.ho.trans k.ho.symm;simp only[Prod.mk.injEq,List.cons.injEq,and_true]at ho;obtain⟨o1,o2,o3,o4,o5,o6,o7,o8,o9,o10,o11⟩:=ho;have e1:=ak (h.sc.trans k.sc.symm);have e2:=ak (h.us.trans k.us.symm);have e3:=ak (h.pa.trans k.pa.symm);have e4:=ak o2;have e5:=ak (h.bo.trans k.bo.symm);have e6:=ak (h.qu.trans k.qu.symm);have e7:=ak (h.fg.trans k.fg.symm);have f1:=h.hh.trans k.hh.symm;have f2:=h.hp.trans k.hp.symm;have f3:=h.pr.trans k.pr.symm;have f4:=h.op.trans k.op.symm;have f5:=h.hq.trans k.hq.symm;have f6:=h.hf.trans k.hf.symm;cases a;cases b;simp only at *;subst e1 e2 e3 e4 e5 e6 e7 f1 f2 f3 f4 f5 f6 o1 o3 o4 o5 o6 o7 o8 o9 o10 o11;rfl
theorem dD{w:World}{v v':Value}{ps qs:List ByteArray}(he:ps.map bn=qs.map bn):ps=qs:=by
 induction ps generalizing qs with
 | nil=>cases qs with
  | nil=>rfl
  | cons _ _=>cases he
 | cons p ps ih=>cases qs with
  | nil=>cases he
  | cons q qs =>
   simp only[map_cons,List.cons.injEq]at he;rw[ak he.1,ih he.2]
theorem kept{W W':World}{g:Nat}{o:Obj}(h:W.heap[g]? = some o)(hb:Below W.heap.size W W'):W'.heap[g]? = some o:=(hb.block g (Array.getElem?_eq_some_iff.1 h).1).trans h
theorem dW{W:World}{g:Nat}{o:Obj}(h:W.heap[g]? = some o)(o':Obj):(W.alloc o').heap[g]? = some o:=kept h ((Below.refl _ W).alloc (le_refl _) o')
theorem eN(a:Us)(pv:Value)(ps:List ByteArray)(w:World)(h1:Strs w a.pv ps)(h2:Strs w pv ps)(hl:ps.length<=1000000):Calls prog 15 #[.agg (Us.cs a),.agg (Us.cs { a with pv:=pv })] w fun e W'=>e=.returned (.bool true)/\Below w.heap.size w W':=by
 obtain⟨b,hb⟩:=Ex' ({ a with pv:=pv }:Us);rw[hb];have A0:((w.alloc (.cells (Us.cs a) 29)).alloc (.cells (Us.cs b) 29)).heap[w.heap.size]? = some (.cells (Us.cs a) 29 (0,0)):=dW (aA w _ _) _
 have A1:((w.alloc (.cells (Us.cs a) 29)).alloc (.cells (Us.cs b) 29)).heap[w.heap.size+1]? = some (.cells (Us.cs b) 29 (0,0)):=by
  have:=aA (w.alloc (.cells (Us.cs a) 29)) (Us.cs b) 29
  rwa [show(w.alloc (.cells (Us.cs a) 29)).heap.size=w.heap.size+1 by simp]at this
 have HB:Hid (Below w.heap.size w ((w.alloc (.cells (Us.cs a) 29)).alloc (.cells (Us.cs b) 29))):=((Below.refl _ w).alloc (le_refl _) _).alloc (by simp) _;obtain⟨ad1,c1,e1,hc1,q1⟩:=(h1.below HB.out).form;obtain⟨ad2,c2,e2,hc2,q2⟩:=(h2.below HB.out).form;have e2':b.pv=.slice ad2 ps.length c2:=by rw[<-hb];exact e2
 have ebs:b={ a with pv:=.slice ad2 ps.length c2 }:=by rw[<-hb,e2]
 have hcz1:(ps.length:Int)<=(c1:Int):=by omega
 have hcz2:(ps.length:Int)<=(c2:Int):=by omega
 obtain⟨v,hv⟩:=Ex' (((w.alloc (.cells (Us.cs a) 29)).alloc (.cells (Us.cs b) 29)));have R0:Hid (∀ wr:World,wr.heap=v.heap->wr.heap[w.heap.size]? = some (.cells (Us.cs a) 29 (0,0))):=fun wr h=>by rw[h,<-hv];exact A0
 have R1:Hid (∀ wr:World,wr.heap=v.heap->wr.heap[w.heap.size+1]? = some (.cells (Us.cs b) 29 (0,0))):=fun wr h=>by rw[h,<-hv];exact A1
 have RP:Hid (∀(wr:World) (i:Nat),wr.heap=v.heap->i<ps.length->∃ b1 o1 b2 o2 x,ad1=some ⟨b1,o1,none⟩/\ad2=some ⟨b2,o2,none⟩/\wr.cell? ⟨b1,o1+i,none⟩=some (.string x)/\wr.cell? ⟨b2,o2+i,none⟩=some (.string x)):=fun wr i h hi=>by
  have hc:∀ p,wr.cell? p=v.cell? p:=fun p=>by unfold World.cell?;rw[h]
  rcases q1 with q1 | ⟨b1,o1,k1,g1⟩
  ·rw[q1]at hi;simp at hi
  rcases q2 with q2 | ⟨b2,o2,k2,g2⟩
  ·rw[q2]at hi;simp at hi
  exact⟨b1,o1,b2,o2,_,k1,k2,(hc _).trans (by rw[<-hv];exact g1 i hi),(hc _).trans (by rw[<-hv];exact g2 i hi)⟩
 have HB2:Hid (Below w.heap.size w v):=by rw[<-hv];exact HB.out
 have F18:v.cell? ⟨w.heap.size,18,none⟩=some (.slice ad1 ps.length c1):=by rw[<-hv];exact(cell_of_row _ _ 18 _ _ _ A0).trans (by rw[<-e1];rfl)
 have D18:v.cell? ⟨w.heap.size+1,18,none⟩=some (.slice ad2 ps.length c2):=by rw[<-hv];exact(cell_of_row _ _ 18 _ _ _ A1).trans (by rw[<-e2'];rfl)
 have E1:=hid e1;have E2:=hid e2';have EB:=hid ebs;clear q1 q2 A0 A1 HB h1 h2 hb e2 e1 e2' ebs;go_enter func15,ntmps15;go_wp2_with fail;clear hv F18 D18
 go_loopw [5] (fun v5 wr=>∃ k:Nat,k<=ps.length/\v5=.int .i64 k/\Hid (wr.heap=v.heap/\Below w.heap.size w wr)) (fun v5 _=>ps.length - (intOf v5).toNat)
 case atStart=>exact⟨0,Nat.zero_le _,rfl,rfl,HB2.out⟩
 case round =>
  obtain⟨i,hi,rfl,HW⟩:=hrel;have G18:wr.cell? ⟨w.heap.size,18,none⟩=some (.slice ad1 ps.length c1):=(cell_of_row _ _ 18 _ _ _ (R0.out wr HW.out.1)).trans (by rw[<-E1.out];rfl);have E18:wr.cell? ⟨w.heap.size+1,18,none⟩=some (.slice ad2 ps.length c2):=(cell_of_row _ _ 18 _ _ _ (R1.out wr HW.out.1)).trans (by rw[<-E2.out];rfl);by_cases hlt:i<ps.length
  ·have hltz:(i:Int)<(ps.length:Int):=by omega
   obtain⟨b1,o1,b2,o2,x,rfl,rfl,hx1,hx2⟩:=RP.out wr i HW.out.1 hlt;have hxx:(x.toList==x.toList)=true:=aS rfl;go_wp2_with fail
   go_quiet (fail)
   go_wp2
   go_roundw
   case rel=>exact⟨i+1,by omega,by go_num,HW.out.1,(fun h=>⟨h.os,h.tape,h.output,h.size,h.block⟩) HW.out.2⟩
   case measure=>simp[intOf];omega
  ·have hltz:¬ (i:Int)<(ps.length:Int):=by omega
   have K0:=R0.out wr HW.out.1;have K1:=R1.out wr HW.out.1;rw[EB.out]at K1;have F0:wr.cell? ⟨w.heap.size,0,none⟩=some (.string a.sc):=cell_of_row _ _ 0 _ _ _ K0;have F1:wr.cell? ⟨w.heap.size,1,none⟩=some (.string a.us):=cell_of_row _ _ 1 _ _ _ K0;have F2:wr.cell? ⟨w.heap.size,2,none⟩=some (.string a.pa):=cell_of_row _ _ 2 _ _ _ K0;have F3:wr.cell? ⟨w.heap.size,3,none⟩=some (.bool a.hh):=cell_of_row _ _ 3 _ _ _ K0;have F4:wr.cell? ⟨w.heap.size,4,none⟩=some (.int .u8 (a.k:Nat)):=cell_of_row _ _ 4 _ _ _ K0;have F5:wr.cell? ⟨w.heap.size,5,none⟩=some (.string a.nm):=cell_of_row _ _ 5 _ _ _ K0;have F6:wr.cell? ⟨w.heap.size,6,none⟩=some (.int .u32 (a.f:Nat)):=cell_of_row _ _ 6 _ _ _ K0;have F7:wr.cell? ⟨w.heap.size,7,none⟩=some (.int .u16 (a.x0:Nat)):=cell_of_row _ _ 7 _ _ _ K0;have F8:wr.cell? ⟨w.heap.size,8,none⟩=some (.int .u16 (a.x1:Nat)):=cell_of_row _ _ 8 _ _ _ K0;have F9:wr.cell? ⟨w.heap.size,9,none⟩=some (.int .u16 (a.x2:Nat)):=cell_of_row _ _ 9 _ _ _ K0;have F10:wr.cell? ⟨w.heap.size,10,none⟩=some (.int .u16 (a.x3:Nat)):=cell_of_row _ _ 10 _ _ _ K0;have F11:wr.cell? ⟨w.heap.size,11,none⟩=some (.int .u16 (a.x4:Nat)):=cell_of_row _ _ 11 _ _ _ K0;have F12:wr.cell? ⟨w.heap.size,12,none⟩=some (.int .u16 (a.x5:Nat)):=cell_of_row _ _ 12 _ _ _ K0;have F13:wr.cell? ⟨w.heap.size,13,none⟩=some (.int .u16 (a.x6:Nat)):=cell_of_row _ _ 13 _ _ _ K0;have F14:wr.cell? ⟨w.heap.size,14,none⟩=some (.int .u16 (a.x7:Nat)):=cell_of_row _ _ 14 _ _ _ K0;have F15:wr.cell? ⟨w.heap.size,15,none⟩=some (.bool a.hp):=cell_of_row _ _ 15 _ _ _ K0;have F16:wr.cell? ⟨w.heap.size,16,none⟩=some (.int .u16 (a.pr:Nat)):=cell_of_row _ _ 16 _ _ _ K0;have F17:wr.cell? ⟨w.heap.size,17,none⟩=some (.bool a.op):=cell_of_row _ _ 17 _ _ _ K0;have F19:wr.cell? ⟨w.heap.size,19,none⟩=some (.string a.bo):=cell_of_row _ _ 19 _ _ _ K0;have F20:wr.cell? ⟨w.heap.size,20,none⟩=some (.bool a.hq):=cell_of_row _ _ 20 _ _ _ K0;have F21:wr.cell? ⟨w.heap.size,21,none⟩=some (.string a.qu):=cell_of_row _ _ 21 _ _ _ K0;have F22:wr.cell? ⟨w.heap.size,22,none⟩=some (.bool a.hf):=cell_of_row _ _ 22 _ _ _ K0;have F23:wr.cell? ⟨w.heap.size,23,none⟩=some (.string a.fg):=cell_of_row _ _ 23 _ _ _ K0;have D0:wr.cell? ⟨(w.heap.size+1),0,none⟩=some (.string a.sc):=cell_of_row _ _ 0 _ _ _ K1;have D1:wr.cell? ⟨(w.heap.size+1),1,none⟩=some (.string a.us):=cell_of_row _ _ 1 _ _ _ K1;have D2:wr.cell? ⟨(w.heap.size+1),2,none⟩=some (.string a.pa):=cell_of_row _ _ 2 _ _ _ K1;have D3:wr.cell? ⟨(w.heap.size+1),3,none⟩=some (.bool a.hh):=cell_of_row _ _ 3 _ _ _ K1;have D4:wr.cell? ⟨(w.heap.size+1),4,none⟩=some (.int .u8 (a.k:Nat)):=cell_of_row _ _ 4 _ _ _ K1;have D5:wr.cell? ⟨(w.heap.size+1),5,none⟩=some (.string a.nm):=cell_of_row _ _ 5 _ _ _ K1;have D6:wr.cell? ⟨(w.heap.size+1),6,none⟩=some (.int .u32 (a.f:Nat)):=cell_of_row _ _ 6 _ _ _ K1;have D7:wr.cell? ⟨(w.heap.size+1),7,none⟩=some (.int .u16 (a.x0:Nat)):=cell_of_row _ _ 7 _ _ _ K1;have D8:wr.cell? ⟨(w.heap.size+1),8,none⟩=some (.int .u16 (a.x1:Nat)):=cell_of_row _ _ 8 _ _ _ K1;have D9:wr.cell? ⟨(w.heap.size+1),9,none⟩=some (.int .u16 (a.x2:Nat)):=cell_of_row _ _ 9 _ _ _ K1;have D10:wr.cell? ⟨(w.heap.size+1),10,none⟩=some (.int .u16 (a.x3:Nat)):=cell_of_row _ _ 10 _ _ _ K1;have D11:wr.cell? ⟨(w.heap.size+1),11,none⟩=some (.int .u16 (a.x4:Nat)):=cell_of_row _ _ 11 _ _ _ K1;have D12:wr.cell? ⟨(w.heap.size+1),12,none⟩=some (.int .u16 (a.x5:Nat)):=cell_of_row _ _ 12 _ _ _ K1;have D13:wr.cell? ⟨(w.heap.size+1),13,none⟩=some (.int .u16 (a.x6:Nat)):=cell_of_row _ _ 13 _ _ _ K1;have D14:wr.cell? ⟨(w.heap.size+1),14,none⟩=some (.int .u16 (a.x7:Nat)):=cell_of_row _ _ 14 _ _ _ K1;have D15:wr.cell? ⟨(w.heap.size+1),15,none⟩=some (.bool a.hp):=cell_of_row _ _ 15 _ _ _ K1;have D16:wr.cell? ⟨(w.heap.size+1),16,none⟩=some (.int .u16 (a.pr:Nat)):=cell_of_row _ _ 16 _ _ _ K1;have D17:wr.cell? ⟨(w.heap.size+1),17,none⟩=some (.bool a.op):=cell_of_row _ _ 17 _ _ _ K1;have D19:wr.cell? ⟨(w.heap.size+1),19,none⟩=some (.string a.bo):=cell_of_row _ _ 19 _ _ _ K1;have D20:wr.cell? ⟨(w.heap.size+1),20,none⟩=some (.bool a.hq):=cell_of_row _ _ 20 _ _ _ K1;have D21:wr.cell? ⟨(w.heap.size+1),21,none⟩=some (.string a.qu):=cell_of_row _ _ 21 _ _ _ K1;have D22:wr.cell? ⟨(w.heap.size+1),22,none⟩=some (.bool a.hf):=cell_of_row _ _ 22 _ _ _ K1;have D23:wr.cell? ⟨(w.heap.size+1),23,none⟩=some (.string a.fg):=cell_of_row _ _ 23 _ _ _ K1;have EH:∀ W,(binOp .eql 26 (H.hv (a.k:Nat) a.nm (a.f:Nat) (a.x0:Nat) (a.x1:Nat) (a.x2:Nat) (a.x3:Nat) (a.x4:Nat) (a.x5:Nat) (a.x6:Nat) (a.x7:Nat)) (H.hv (a.k:Nat) a.nm (a.f:Nat) (a.x0:Nat) (a.x1:Nat) (a.x2:Nat) (a.x3:Nat) (a.x4:Nat) (a.x5:Nat) (a.x6:Nat) (a.x7:Nat))).run prog W=.ok (.bool true) W:=fun W=>by rw[H.eZ,H.fa]
   have SE:∀ s:ByteArray,(s.toList==s.toList)=true:=fun s=>aS rfl;clear K0 K1 R0 R1 RP E1 E2 EB;go_wp2;go_ret;exact⟨rfl,HW.out.2⟩
theorem jQ(a:Us)(ps:List ByteArray)(w:World)(h:Strs w a.pv ps)(hl:ps.length<=1000000):Calls prog 17 #[.agg (Us.cs a)] w fun e W'=>(∃ v,e=.returned (.agg (Us.cs { a with pv:=v }))/\Strs W' v ps)/\Below w.heap.size w W':=by
 obtain⟨v,hv⟩:=Ex' ((w.alloc (.cells (Us.cs a) 29)).alloc (.cells zc 29));have A0:v.heap[w.heap.size]? = some (.cells (Us.cs a) 29 (0,0)):=by rw[<-hv];exact dW (aA w _ _) _
 have A1:v.heap[w.heap.size+1]? = some (.cells zc 29 (0,0)):=by have:=aA (w.alloc (.cells (Us.cs a) 29)) zc 29;rw[show(w.alloc (.cells (Us.cs a) 29)).heap.size=w.heap.size+1 by simp]at this;rw[<-hv];exact this
 have HB:Below w.heap.size w v:=by rw[<-hv];exact((Below.refl _ w).alloc (le_refl _) _).alloc (by simp) _
 have HS:=hid (h.below HB);have HB0:=hid HB;have HA0:=hid A0;have HA1:=hid A1;have hz:w.heap.size+1<v.heap.size:=(Array.getElem?_eq_some_iff.1 A1).1;have F18:v.cell? ⟨w.heap.size,18,none⟩=some a.pv:=cell_of_row _ _ 18 _ _ _ A0;clear A0 A1 HB h;go_enter func17,ntmps17;go_wp2_with(at_builtin;refine cd rfl _ _ rfl v.heap.size _ 0 [] rfl (World.ownsRow_nil _ _ _ _) _ ps rfl HS.out ?_ (le_refl _) ?_)
 ·omega
 ·intro v' w' hown hgrow;replace hown:w'.ownsRow v.heap.size 9 1 v' ps.length (ps.map Value.string):=by simpa using hown
  have hvo:(Value.slice none 0 0).ownBlock=none:=rfl;have K0:w'.heap[w.heap.size]? = some (.cells (Us.cs a) 29 (0,0)):=(hgrow.block _ (by omega) (by rw[hvo];simp)).trans HA0.out;have K1:w'.heap[w.heap.size+1]? = some (.cells zc 29 (0,0)):=(hgrow.block _ hz (by rw[hvo];simp)).trans HA1.out;have HBw:Hid (Below w.heap.size w w'):=HB0.out.grown hgrow HB0.out.size (fun j ej=>by rw[hvo]at ej;cases ej);have G18:w'.cell? ⟨w.heap.size,18,none⟩=some a.pv:=cell_of_row _ _ 18 _ _ _ K0;have G18f:w'.frozen? ⟨w.heap.size,18,none⟩=false:=frozen_of_row _ _ 18 _ _ K0;have L0:(w'.setCell ⟨w.heap.size,18,none⟩ v').heap[w.heap.size]? = some (.cells (Us.cs { a with pv:=v' }) 29 (0,0)):=(heap_setCell_same w' w.heap.size 18 _ 29 v' K0).trans (by rfl);have L1:(w'.setCell ⟨w.heap.size,18,none⟩ v').heap[w.heap.size+1]? = some (.cells zc 29 (0,0)):=(heap_setCell_other w' _ _ v' (by simp)).trans K1;have HL0:=hid L0;have HL1:=hid L1;have HOW:=hid (fun W h=>nj (W:=W) hown h);obtain⟨ad',c',rfl⟩:∃ ad c,v'=.slice ad ps.length c:=by obtain⟨ad,c,e,_⟩:=(HOW.out w' (fun _ _=>rfl)).form;exact⟨ad,c,e⟩
  clear K0 K1 L0 L1 hown hgrow hvo HA0 HA1 HB0 HS;have HUI:=hid (aL { a with pv:=.slice ad' ps.length c' })
  go_wp2_with(first
    | (refine wpList_load_row rfl 29 (.tmp 1) rfl w.heap.size rfl 29 (Us.cs { a with pv:=.slice ad' ps.length c' }) (0,0) _ HL0.out underlying29 rfl HUI.out ?_)
    | (refine wpList_store_row rfl 29 (.tmp 2) (.tmp 7) rfl (w.heap.size+1) (Us.cs { a with pv:=.slice ad' ps.length c' }) rfl rfl 29 zc HL1.out HUI.out rfl (Aq a ad' ps.length c') ?_))
  have hlast:=setRow_heap _ (w.heap.size+1) _ (Us.cs { a with pv:=.slice ad' ps.length c' }) 29 _ HL1.out;have hB:=cS (HBw.out.setCell (p:=⟨w.heap.size,18,none⟩) (le_refl w.heap.size) (.slice ad' ps.length c')) (g:=w.heap.size+1) (by omega) (Us.cs { a with pv:=.slice ad' ps.length c' })
  have hA:Strs ((w'.setCell ⟨w.heap.size,18,none⟩ (.slice ad' ps.length c')).setRow (w.heap.size+1) (Us.cs { a with pv:=.slice ad' ps.length c' })) (.slice ad' ps.length c') ps:=HOW.out _ (fun k hk=>by
    rw[setRow_other _ _ k _ (by omega),heap_setCell_other w' _ k _ (by simp;omega)])
  exact bodyPost_ret (results_cell_row results17 _ _ (w.heap.size+1) 29 (Us.cs { a with pv:=.slice ad' ps.length c' }) (0,0) _ rfl hlast underlying29 rfl HUI.out) rfl ⟨⟨_,rfl,hA⟩,hB⟩
theorem yW{m R:List Int}(h:Sg m):sch (m++58::R)=some (m,R):=by
 obtain⟨c,t,rfl,h1,h2,ht⟩:=h;show sch (c::(t++58::R))=_;have hc:ltr c=true:=by unfold ltr;exact decide_eq_true (by omega)
 obtain⟨e1,e2⟩:=bW (f:=sgs) (p:=t) (q:=58::R) (fun d hd=>(ht d hd).1) (.inr ⟨58,R,rfl,by decide⟩);simp only[sch];rw[if_pos hc,e1,e2]
 have hm:(c::t).map low=c::t:=by
  rw[map_cons];congr 1
  ·unfold low;rw[if_neg (by omega)]
  ·exact(List.map_congr_left (g:=id) (fun d hd=>(ht d hd).2.1)).trans (List.map_id t)
 rw[hm];simp
theorem nr{l:List Int}(h1:∀ c,l.head? = some c->33<=c)(h2:∀ c,l.getLast? = some c->33<=c):strip l=l:=by
 unfold strip
 have d1:l.dropWhile blk=l:=by
  cases l with
  | nil=>rfl
  | cons c t =>
   rw[List.dropWhile_cons_of_neg];have:=h1 c rfl;unfold blk;simp;omega
 rw[d1]
 have d2:l.reverse.dropWhile blk=l.reverse:=by
  cases hr:l.reverse with
  | nil=>rfl
  | cons c t =>
   rw[List.dropWhile_cons_of_neg];have:=h2 c (by rw[<-List.head?_reverse,hr];rfl);unfold blk;simp;omega
 rw[d2,List.reverse_reverse]
theorem Iu{l:List Int}(h:∀ c∈l,32<=c/\c<=126)(h1:∀ c,l.head? = some c->33<=c)(h2:∀ c,l.getLast? = some c->33<=c):cln l=l:=by
 unfold cln;rw[E.qS (fun c hc=>by have:=h c hc;omega),nr h1 h2];have e:l.filter (fun c=>!tab c)=l:=by rw[List.filter_eq_self];intro c hc;have:=h c hc;unfold tab;simp;omega
 rw[e,E.bj (fun c hc=>by have:=h c hc;omega)]
def En(k:Nat)(x:List Int):Prop:=∃ L:List Int,(∀ c∈L,U.ab c=true)/\x=E.en k L
theorem En.nil(k:Nat):En k []:=⟨[],by simp,rfl⟩
theorem En.again{k:Nat}(hk:k<=5){x:List Int}(h:En k x):E.en k (U.dec x)=x:=by obtain⟨L,hL,rfl⟩:=h;exact E.vL hk hL
theorem En.signs{k:Nat}(hk:k<=6){x:List Int}(h:En k x):∀ y∈x,32<=y/\y<=126/\(E.inS y k=true->y=37):=by obtain⟨L,hL,rfl⟩:=h;exact E.kJ hk hL
theorem En.no{k:Nat}(hk:k<=6){x:List Int}(h:En k x){d:Int}(hd:E.inS d k=true)(hn:d≠37):d∉x:=fun hm=>hn ((h.signs hk d hm).2.2 hd)
theorem En.of{k:Nat}{x:List Int}(hb:U.Bytes x):En k (E.en k (U.dec x)):=⟨_,List.all_eq_true.1 (U.bJ x.length x (le_refl _) hb),rfl⟩
structure Qk(sp:Bool)(u:Ur):Prop where
 q0:u.hq=false->u.qry=[]
 f0:u.hf=false->u.frg=[]
 qe:En (if sp=true then 3 else 2) u.qry
 fe:En 1 u.frg
theorem He{u v:Ur}(hf:En 1 u.frg)(f0:u.hf=false->u.frg=[])(h1:v.hf=false)(h2:v.frg=[]):fr v (if u.hf=true then 35::u.frg else [])={ v with hf:=u.hf,frg:=u.frg }:=by
 cases h:u.hf with
 | false =>
  rw[if_neg (by simp),f0 h];obtain⟨_,_,_,_,_,_,_,_,_,_,_,_,_,_⟩:=v;simp only at h1 h2 ⊢;rw[h1,h2];rfl
 | true =>
  rw[if_pos rfl];simp only[fr];rw[hf.again (by decide)]
theorem OI(sp:Bool):(if sp=true then 3 else 2)<=5:=by cases sp <;> decide
theorem xg{sp:Bool}{u v:Ur}(h:Qk sp u)(h1:v.hf=false)(h2:v.frg=[])(h3:v.hq=false)(h4:v.qry=[]):qf sp v (qtx u)={ v with hq:=u.hq,qry:=u.qry,hf:=u.hf,frg:=u.frg }:=by
 unfold qtx;cases hq:u.hq with
 | false =>
  rw[if_neg (by simp),nil_append,h.q0 hq]
  have e:qf sp v (if u.hf=true then 35::u.frg else [])=fr v (if u.hf=true then 35::u.frg else []):=by
   cases u.hf with
   | false=>rfl
   | true=>rfl
  rw[e,He h.fe h.f0 h1 h2];obtain⟨_,_,_,_,_,_,_,_,_,_,_,_,_,_⟩:=v;simp only at h3 h4 ⊢;rw[h3,h4]
 | true =>
  rw[if_pos rfl,List.cons_append];simp only[qf,if_true];have n35:∀ c∈u.qry,eA c=true:=fun c hc=>by unfold eA;refine decide_eq_true (fun e=>?_);rw[e]at hc;refine h.qe.no (by have:=OI sp;omega) ?_ (by decide) hc;cases sp <;> decide
  obtain⟨e1,e2⟩:=bW (f:=eA) (p:=u.qry) (q:=if u.hf=true then 35::u.frg else []) n35 (by
    cases u.hf with
    | false=>exact .inl rfl
    | true=>exact .inr ⟨35,u.frg,rfl,by decide⟩)
  rw[e1,e2,h.qe.again (OI sp)];exact He (v:={ v with hq:=true,qry:=u.qry }) h.fe h.f0 h1 h2
theorem dp{f:Int->Bool}(h47:f 47=true):∀(ps:List (List Int)),ps≠[]->(∀ p∈ps,∀ c∈p,f c=false)->spl f ((ps.flatMap (fun p=>47::p)).drop 1)=ps
 | [],h,_=>absurd rfl h
 | [p],_,hp=>by
  have:([p].flatMap (fun p=>47::p)).drop 1=p:=by simp
  rw[this,rC (hp p (by simp))]
 | p::q::r,_,hp=>by
  have e:((p::q::r).flatMap (fun p=>(47:Int)::p)).drop 1=p++47::(((q::r).flatMap (fun p=>(47:Int)::p)).drop 1):=by simp
  rw[e,cu (hp p (by simp)) h47,dp h47 (q::r) (by simp) (fun x hx=>hp x (by simp at hx ⊢;exact .inr hx))]
structure Pc(sp:Bool)(p:List Int):Prop where
 e:En 4 p
 s:∀ c∈p,sl sp c=false
 d:dot p≠[46]/\dot p≠[46,46]
theorem xv{sp:Bool}:∀(ps acc:List (List Int)),(∀ p∈ps,Pc sp p)->nrm acc ps=acc++ps
 | [],acc,_=>by simp[nrm]
 | p::t,acc,h=>by have hp:=h p (by simp);rw[nrm,if_neg hp.d.1,if_neg hp.d.2,hp.e.again (by decide),xv t _ (fun q hq=>h q (by simp[hq]))];simp
theorem xq{l:List Int}(hne:l≠[])(hl:U.Bytes l)(hc:(U.nx l).1<128):∃ t,l=(U.nx l).1::t/\(U.nx l).2.1=1:=by
 rcases U.iz l hne hl with⟨a',t,e,h0,h1,e2⟩ | ⟨a',b,t,e,h1,h2,h3,h4,e2⟩ | ⟨a',b,d,t,e,h1,h2,h3,h4,h5,h6,e2⟩ | ⟨a',b,d,f,t,e,h1,h2,h3,h4,h5,h6,h7,h8,e2⟩ | ⟨m,_,_,e2⟩
 ·rw[e2];exact⟨t,e,rfl⟩
 ·rw[e2]at hc;simp only at hc;omega
 ·rw[e2]at hc;simp only at hc;have hlo:a'=224->160<=b:=fun h=>by unfold U.aF at h3;rw[h]at h3;simpa using h3
  have hl2:128<=b:=by unfold U.aF at h3;(repeat' split at h3) <;> omega
  by_cases h224:a'=224
  ·have:=hlo h224;omega
  ·omega
 ·rw[e2]at hc;simp only at hc;have hlo:a'=240->144<=b:=fun h=>by unfold U.aF at h3;rw[h]at h3;simpa using h3
  have hl2:128<=b:=by unfold U.aF at h3;(repeat' split at h3) <;> omega
  by_cases h240:a'=240
  ·have:=hlo h240;omega
  ·omega
 ·rw[e2]at hc;simp only at hc;omega
theorem zU:∀(n:Nat) (l:List Int),l.length<=n->U.Bytes l->(∀ c∈U.dec l,c<128)->U.dec l=l
 | _,[],_,_,_=>U.bL
 | n+1,a::l,hn,hl,h=>by rw[U.aO (a::l) (by simp) hl]at h ⊢;obtain⟨t,e,e1⟩:=xq (by simp) hl (h _ (by simp));rw[e1]at h ⊢;have hd:(a::l).drop 1=l:=rfl;rw[hd]at h ⊢;rw[zU n l (by simpa using hn) (fun b hb=>hl b (by simp[hb])) (fun c hc=>h c (by simp[hc]))];rw[<-(List.cons.inj e).1]
theorem vT:∀(n:Nat) (l:List Int),l.length<=n->U.Bytes l->∀ c,(U.dec l).getLast? = some c->c<128->l.getLast? = some c
 | _,[],_,_,c,h,_=>by rw[U.bL]at h;cases h
 | n+1,a::l,hn,hl,c,h,hc=>by
  rw[U.aO (a::l) (by simp) hl]at h;have hnx:=(U.iy (a::l) (by simp)).1;by_cases he:(a::l).drop (U.nx (a::l)).2.1=[]
  ·rw[he,U.bL]at h;have hx:(U.nx (a::l)).1=c:=by simpa using h
   obtain⟨t,e,e1⟩:=xq (by simp) hl (by rw[hx];exact hc);rw[e1]at he;have hl0:l=[]:=he;rw[hl0,<-hx,<-(List.cons.inj e).1];rfl
  ·have hb':U.Bytes ((a::l).drop (U.nx (a::l)).2.1):=fun b hb=>hl b (mem_of_mem_drop hb);have h2:(U.dec ((a::l).drop (U.nx (a::l)).2.1)).getLast? = some c:=by have hd:=H.Ij hb' he;rw[List.getLast?_cons]at h;rw[List.getLast?_eq_some_getLast hd]at h ⊢;simpa using h
   have h3:=vT n _ (by rw[length_drop];simp at hn ⊢;omega) hb' c h2 hc;have h4:(a::l).getLast? = ((a::l).take (U.nx (a::l)).2.1++(a::l).drop (U.nx (a::l)).2.1).getLast? := by rw[List.take_append_drop]
   rw[h4,getLast?_append,h3];rfl
theorem Ht{k:Nat}{L:List Int}(hL:∀ c∈L,U.ab c=true){y:Int}(hy:y∈E.en k L):y∈L/\(y<128\/6<k)\/(y=37\/48<=y/\y<=57\/65<=y/\y<=70)\/6<k:=by
 by_cases hk:6<k
 ·exact .inr (.inr hk)
 obtain⟨c,hc,hyc⟩:=List.mem_flatMap.1 hy;have hsc:=hL c hc;unfold E.tok at hyc;split at hyc
 ·obtain⟨b,hb,hyb⟩:=List.mem_flatMap.1 hyc;have hbb:0<=b/\b<=255:=U.cR c (E.aN hsc).1 (E.aN hsc).2 b hb;unfold E.pe at hyb;simp at hyb;have h1:=H.sI (n:=b / 16) (by omega) (by omega);have h2:=H.sI (n:=b % 16) (by omega) (by omega);rcases hyb with rfl | rfl | rfl <;> omega
 ·rename_i hin;have hbd:=E.lA (k:=k) (by omega) (by simpa using hin);rw[E.bR (by omega)]at hyc;obtain rfl:=List.mem_singleton.1 hyc;exact .inl ⟨hc,.inl (by omega)⟩
theorem Hr{k:Nat}(hk:k<=6){x:List Int}(hb:U.Bytes x){y:Int}(hy:y∈E.en k (U.dec x))(h1:y≠37)(h2:¬ (48<=y/\y<=57))(h3:¬ (65<=y/\y<=70)):y∈x:=by
 have hs:∀ c∈U.dec x,U.ab c=true:=List.all_eq_true.1 (U.bJ x.length x (le_refl _) hb);rcases Ht hs hy with⟨h,h4⟩ | h | h
 ·exact H.da x.length x (le_refl _) hb y h (by omega)
 ·omega
 ·omega
theorem zS{x:List Int}(h:dot x=[]):x=[]:=by
 match x with
 | []=>rfl
 | [a]=>simp[dot]at h
 | [a,b]=>simp[dot]at h
 | c::a::b::t=>rw[dot]at h;split at h <;> cases h
def vO:List (List Int):=[[46],[37,50,101],[37,50,69]]
def Hz:List (List Int):=[[46,46],[46,37,50,101],[46,37,50,69],[37,50,101,46],[37,50,69,46],[37,50,101,37,50,101],[37,50,101,37,50,69],[37,50,69,37,50,101],[37,50,69,37,50,69]]
theorem sF{x:List Int}(h:dot x=[46]):x∈vO:=by
 match x with
 | []=>simp[dot]at h
 | [a]=>simp[dot]at h;rw[h];decide
 | [a,b]=>simp[dot]at h
 | c::a::b::t =>
  rw[dot]at h;split at h
  ·rename_i hc;obtain⟨rfl,rfl,hb⟩:=hc;have ht:=zS (List.cons.inj h).2;rw[ht];rcases hb with rfl | rfl <;> decide
  ·have:=zS (List.cons.inj h).2;cases this
theorem MM{x:List Int}(h:dot x=[46,46]):x∈Hz:=by
 match x with
 | []=>simp[dot]at h
 | [a]=>simp[dot]at h
 | [a,b]=>simp[dot]at h;rw[h.1,h.2];decide
 | c::a::b::t =>
  rw[dot]at h;split at h
  ·rename_i hc;obtain⟨rfl,rfl,hb⟩:=hc;have ht:=sF (List.cons.inj h).2;simp[vO]at ht;rcases hb with rfl | rfl <;> rcases ht with rfl | rfl | rfl <;> decide
  ·obtain⟨rfl,h2⟩:=List.cons.inj h;have ht:=sF h2;simp[vO]at ht;rcases ht with⟨rfl,rfl,rfl⟩ | ⟨rfl,rfl,rfl⟩ <;> decide
def prb:List Int->Bool
 | []=>true
 | c::t=>(decide (c≠37)||(decide (t[0]? = some 50)&&(decide (t[1]? = some 101)||decide (t[1]? = some 69))))&&prb t
theorem EJ:∀ x∈vO++Hz,prb x=true:=by decide
theorem Hs:∀(L:List Int),(∀ c∈L,U.ab c=true)->prb (E.en 4 L)=true->E.en 4 L=L/\∀ c∈L,c<128
 | [],_,_=>⟨rfl,by simp⟩
 | c::L,hs,h=>by
  have hsc:=hs c (by simp);rw[E.kK]at h ⊢;by_cases hin:E.inS c 4=true
  ·exfalso;have ht:E.tok 4 c=(U.enc c).flatMap E.pe:=by unfold E.tok;rw[if_pos hin]
   obtain⟨b,t,he,h1,h2⟩:=jf hsc;have hbb:0<=b/\b<=255:=U.cR c (E.aN hsc).1 (E.aN hsc).2 b (by rw[he];simp);rw[ht,he]at h;have e:((b::t).flatMap E.pe++E.en 4 L)=37::E.dg (b / 16)::E.dg (b % 16)::(t.flatMap E.pe++E.en 4 L):=by simp[E.pe]
   rw[e,prb]at h;simp only[List.getElem?_cons_zero,List.getElem?_cons_succ,Option.some.injEq,and_eq_true,Bool.or_eq_true,decide_eq_true_eq]at h;have h3:=h.1
   have hd1:E.dg (b / 16)=50/\(E.dg (b % 16)=101\/E.dg (b % 16)=69):=by
    rcases h3 with h3 | h3
    ·exact absurd rfl h3
    ·exact h3
   have h46:b=46:=by
    obtain⟨q1,q2⟩:=hd1;unfold E.dg at q1 q2
    (repeat' split at q1) <;> (repeat' split at q2) <;> omega
   by_cases hc:c<128
   ·rw[h1 hc]at h46;rw[h46]at hin;exact absurd hin (by decide)
   ·have:=h2 (by omega);omega
  ·have hbd:=E.lA (k:=4) (by decide) (by simpa using hin);have ht:E.tok 4 c=[c]:=by unfold E.tok;rw[if_neg hin,E.bR (by omega)]
   rw[ht]at h ⊢;have hp:prb (E.en 4 L)=true:=by rw[List.singleton_append,prb,and_eq_true]at h;exact h.2
   have ih:=Hs L (fun x hx=>hs x (by simp[hx])) hp;rw[ih.1]
   exact⟨rfl,fun x hx=>by
     rcases List.mem_cons.1 hx with rfl | hx
     · omega
     · exact ih.2 x hx⟩
theorem Ia{x:List Int}(hb:U.Bytes x){d:List Int}(hd:d=[46]\/d=[46,46])(h:dot (E.en 4 (U.dec x))=d):dot x=d:=by
 have hs:∀ c∈U.dec x,U.ab c=true:=List.all_eq_true.1 (U.bJ x.length x (le_refl _) hb)
 have hm:E.en 4 (U.dec x)∈vO++Hz:=by
  rcases hd with rfl | rfl
  ·exact List.mem_append.2 (.inl (sF h))
  ·exact List.mem_append.2 (.inr (MM h))
 have hp:=Hs _ hs (EJ _ hm);rw[hp.1,zU x.length x (le_refl _) hb hp.2]at h;exact h
theorem Pc.nil(sp:Bool):Pc sp []:=⟨En.nil 4,by simp,by decide⟩
theorem Pc.en{sp:Bool}{x:List Int}(hb:U.Bytes x)(hx:∀ c∈x,sl sp c=false)(h1:dot x≠[46])(h2:dot x≠[46,46]):Pc sp (E.en 4 (U.dec x)):=by
 refine⟨En.of hb,fun c hc=>?_,fun h=>h1 (Ia hb (.inl rfl) h),fun h=>h2 (Ia hb (.inr rfl) h)⟩;cases hs:sl sp c with
 | false=>rfl
 | true =>
  have hc2:c=47\/c=92:=by unfold sl at hs;simp at hs;omega
  have hm:=Hr (k:=4) (by decide) hb hc (by omega) (by omega) (by omega);rw[hx c hm]at hs;exact hs.symm
theorem rZ{sp:Bool}:∀(xs acc:List (List Int)),(∀ x∈xs,U.Bytes x/\∀ c∈x,sl sp c=false)->(∀ p∈acc,Pc sp p)->∀ p∈nrm acc xs,Pc sp p
 | [],acc,_,ha,p,hp=>ha p (by simpa[nrm]using hp)
 | x::t,acc,hx,ha,p,hp=>by
  have hx0:=hx x (by simp);have hxt:∀ y∈t,U.Bytes y/\∀ c∈y,sl sp c=false:=fun y hy=>hx y (by simp[hy]);have hdl:∀ p∈acc.dropLast,Pc sp p:=fun p hp=>ha p ((List.dropLast_sublist acc).subset hp)
  have hz:∀ a:List (List Int),(∀ p∈a,Pc sp p)->∀ p∈a++[[]],Pc sp p:=fun a ha p hp=>by
   rcases List.mem_append.1 hp with h | h
   ·exact ha p h
   ·rw[List.mem_singleton.1 h];exact Pc.nil sp
  rw[nrm]at hp;split at hp
  ·refine rZ t _ hxt ?_ p hp;split
   ·exact hz _ ha
   ·exact ha
  ·split at hp
   ·refine rZ t _ hxt ?_ p hp;split
    ·exact hz _ hdl
    ·exact hdl
   ·rename_i d1 d2;refine rZ t _ hxt (fun q hq=>?_) p hp;rcases List.mem_append.1 hq with h | h
    ·exact ha q h
    ·rw[List.mem_singleton.1 h];exact Pc.en hx0.1 hx0.2 d1 d2
theorem xu:∀(xs acc:List (List Int)),xs≠[]\/acc≠[]/\xs=[]->nrm acc xs≠[]
 | [],acc,h=>by
  rcases h with h | h
  ·exact absurd rfl h
  ·simpa[nrm]using h.1
 | x::t,acc,_=>by
  rw[nrm];by_cases ht:t=[]
  ·subst ht;split
   ·simp[nrm]
   ·split <;> simp[nrm]
  ·split
   ·exact xu t _ (.inl ht)
   ·split <;> exact xu t _ (.inl ht)
theorem OB{f:Int->Bool}{l:List Int}{c:Int}(h:c∈un f l):c∈l:=by
 cases l with
 | nil=>exact h
 | cons d t =>
  rw[un]at h;split at h
  ·simp[h]
  ·exact h
theorem PL{sp:Bool}{p:List Int}(hb:U.Bytes p):(∀ x∈lst sp p,Pc sp x)/\lst sp p≠[]:=by refine⟨rZ _ _ (fun x hx=>?_) (by simp),xu _ _ (.inl (bF _ _))⟩;refine⟨fun c hc=>hb c (OB (fX hx c hc).2),fun c hc=>(fX hx c hc).1⟩
theorem Ef(sp:Bool):sl sp 47=true:=by cases sp <;> decide
theorem LQ{sp:Bool}{ps:List (List Int)}(hne:ps≠[])(h:∀ p∈ps,Pc sp p):lst sp (ps.flatMap (fun p=>47::p))=ps:=by
 unfold lst
 have e:un (sl sp) (ps.flatMap (fun p=>(47:Int)::p))=(ps.flatMap (fun p=>(47:Int)::p)).drop 1:=by
  cases ps with
  | nil=>exact absurd rfl hne
  | cons p t =>
   show un (sl sp) (47::(p++t.flatMap _))=_;rw[un,if_pos (Ef sp)];rfl
 rw[e,dp (Ef sp) ps hne (fun p hp=>(h p hp).s),xv ps [] h];rfl
theorem LR{sp:Bool}{ps:List (List Int)}(hne:ps≠[])(h:∀ p∈ps,Pc sp p):lst sp ([47,46]++ps.flatMap (fun p=>47::p))=ps:=by
 unfold lst
 have e:un (sl sp) ([47,46]++ps.flatMap (fun p=>(47:Int)::p))=[46]++47::(ps.flatMap (fun p=>(47:Int)::p)).drop 1:=by
  cases ps with
  | nil=>exact absurd rfl hne
  | cons p t =>
   show un (sl sp) (47::_)=_;rw[un,if_pos (Ef sp)];rfl
 rw[e,cu (fun c hc=>by rw[List.mem_singleton.1 hc];cases sp <;> decide) (Ef sp),dp (Ef sp) ps hne (fun p hp=>(h p hp).s),nrm,if_pos (by decide),if_neg hne,xv ps [] h];rfl
theorem wR{l:List Int}{c:Int}(h:(strip l).getLast? = some c):33<=c:=by
 unfold strip at h;rw[List.getLast?_reverse]at h;cases hd:(l.dropWhile blk).reverse.dropWhile blk with
 | nil=>rw[hd]at h;cases h
 | cons a t =>
  have:=List.head?_dropWhile_not blk (l.dropWhile blk).reverse;rw[hd]at this h;cases h;unfold blk at this;simp at this;omega
theorem It{s:List Int}(hs:U.Bytes s){b:Int}(h:(cln s).getLast? = some b):33<=b:=by
 unfold cln at h;have hsc:=vX hs
 have hl:∀ c,((strip (U.dec s)).filter (fun c=>!tab c)).getLast? = some c->33<=c:=by
  intro c hc;rcases List.eq_nil_or_concat (strip (U.dec s)) with hm | ⟨L,d,hm⟩
  ·rw[hm]at hc;cases hc
  ·have hd:33<=d:=wR (l:=U.dec s) (by rw[hm];simp);have ht:tab d=false:=by unfold tab;exact decide_eq_false (by omega)
   rw[hm,List.concat_eq_append,List.filter_append]at hc;simp[ht]at hc;omega
 generalize (strip (U.dec s)).filter (fun c=>!tab c)=M at h hsc hl;rcases List.eq_nil_or_concat M with rfl | ⟨L,d,rfl⟩
 ·cases h
 ·have hd:=hl d (by simp);obtain⟨x,hx,h1,h2⟩:=vJ (hsc d (by simp));have e:U.aj (L++[d])=U.aj L++U.enc d:=by show(L++[d]).flatMap U.enc=L.flatMap U.enc++_;simp
  rw[List.concat_eq_append,e,getLast?_append,hx]at h;have hbx:x=b:=by simpa using h
  by_cases h128:d<128
  ·have:=h1 h128;omega
  ·have:=h2 (by omega);omega
def Vis(l:List Int):Prop:=∀ c∈l,33<=c/\c<=126
theorem Vis.app{a b:List Int}(ha:Vis a)(hb:Vis b):Vis (a++b):=fun c hc=>(List.mem_append.1 hc).elim (ha c) (hb c)
theorem Vis.cons{c:Int}{b:List Int}(h0:33<=c)(h1:c<=126)(hb:Vis b):Vis (c::b):=fun d hd=>by
 rcases List.mem_cons.1 hd with rfl | hd
 ·exact⟨h0,h1⟩
 ·exact hb d hd
theorem Vis.nil:Vis []:=fun c hc=>by simp at hc
theorem En.vis{k:Nat}(hk:k<=6){x:List Int}(h:En k x)(h32:E.inS 32 k=true):Vis x:=fun c hc=>by
 have h1:=h.signs hk c hc;refine⟨?_,h1.2.1⟩;have:c≠32:=fun e=>by rw[e]at h1;exact absurd (h1.2.2 h32) (by decide)
 omega
theorem Qk.vis{sp:Bool}{u:Ur}(h:Qk sp u):Vis (qtx u):=by
 unfold qtx;have hq:Vis u.qry:=h.qe.vis (by have:=OI sp;omega) (by cases sp <;> decide);have hf:Vis u.frg:=h.fe.vis (by decide) (by decide);refine Vis.app ?_ ?_
 ·split
  ·exact hq.cons (by decide) (by decide)
  ·exact Vis.nil
 ·split
  ·exact hf.cons (by decide) (by decide)
  ·exact Vis.nil
theorem kq(u:Ur):qtx u=[]\/∃ d r,qtx u=d::r/\npq d=false:=by
 unfold qtx;cases u.hq with
 | true=>exact .inr ⟨63,_,rfl,by decide⟩
 | false =>
  cases u.hf with
  | true=>exact .inr ⟨35,_,rfl,by decide⟩
  | false=>exact .inl rfl
def Jl(w:Ur):Prop:=w.opq=false/\w.pth=[]/\w.bod=[]/\w.hq=false/\w.qry=[]/\w.hf=false/\w.frg=[]
theorem zL{w:Ur}{l:List Int}(hb:U.Bytes l)(h1:w.hf=false)(h2:w.frg=[]):fr w l={ w with hf:=(fr w l).hf,frg:=(fr w l).frg }/\((fr w l).hf=false->(fr w l).frg=[]/\l=[])/\En 1 (fr w l).frg:=by
 cases l with
 | nil=>exact⟨rfl,fun _=>⟨h2,rfl⟩,by show En 1 w.frg;rw[h2];exact En.nil 1⟩
 | cons c r=>exact⟨rfl,(fun h=>by cases h),En.of (fun b hb'=>hb b (by simp[hb']))⟩
theorem Ks{sp:Bool}{w:Ur}{l:List Int}(hb:U.Bytes l)(h1:w.hf=false)(h2:w.frg=[])(h3:w.hq=false)(h4:w.qry=[]):
  qf sp w l={ w with hq:=(qf sp w l).hq,qry:=(qf sp w l).qry,hf:=(qf sp w l).hf,frg:=(qf sp w l).frg }/\Qk sp (qf sp w l)/\((qf sp w l).hq=false->(qf sp w l).hf=false->l=[]):=by
 have hE0:En (if sp=true then 3 else 2) w.qry:=by rw[h4];exact En.nil _
 cases l with
 | nil=>exact⟨rfl,⟨fun _=>h4,fun _=>h2,hE0,by show En 1 w.frg;rw[h2];exact En.nil 1⟩,fun _ _=>rfl⟩
 | cons c r =>
  by_cases hc:c=63
  ·have e:qf sp w (c::r)=fr { w with hq:=true,qry:=E.en (if sp=true then 3 else 2) (U.dec (r.takeWhile eA)) } (r.dropWhile eA):=by simp only[qf];rw[if_pos hc]
   have hf:=zL (w:={ w with hq:=true,qry:=E.en (if sp=true then 3 else 2) (U.dec (r.takeWhile eA)) }) (l:=r.dropWhile eA) (fun b hb'=>hb b (by simp[dJ hb'])) h1 h2;rw[e];obtain⟨f1,f2,f3⟩:=hf;have q1:=congrArg Ur.hq f1;have q2:=congrArg Ur.qry f1;refine⟨?_,⟨fun h=>?_,fun h=>(f2 h).1,?_,f3⟩,fun h=>?_⟩
   ·rw[q1,q2];exact f1
   ·rw[q1]at h;cases h
   ·rw[q2];exact En.of (fun b hb'=>hb b (by simp[(cg hb').2]))
   ·rw[q1]at h;cases h
  ·have e:qf sp w (c::r)=fr w (c::r):=by simp only[qf];rw[if_neg hc]
   obtain⟨f1,f2,f3⟩:=zL (w:=w) hb h1 h2;rw[e];have q1:=congrArg Ur.hq f1;have q2:=congrArg Ur.qry f1;refine⟨?_,⟨fun _=>?_,fun h=>(f2 h).1,?_,f3⟩,fun _ h=>(f2 h).2⟩
   ·rw[q1,q2];exact f1
   ·rw[q2];exact h4
   ·rw[q2];exact hE0
theorem dS{u:Ur}(h:u.opq=false):ptx u=u.pth.flatMap (fun p=>47::p):=by unfold ptx;rw[if_neg (by rw[h];simp)]
theorem Pc.nq{sp:Bool}{p:List Int}(h:Pc sp p):∀ c∈p,npq c=true:=fun c hc=>by
 unfold npq qm
 have h1:c≠63:=fun e=>by rw[e]at hc;exact h.e.no (by decide) (by decide) (by decide) hc
 have h2:c≠35:=fun e=>by rw[e]at hc;exact h.e.no (by decide) (by decide) (by decide) hc
 simp[h1,h2]
theorem Hh{sp:Bool}{ps:List (List Int)}(h:∀ p∈ps,Pc sp p):∀ c∈ps.flatMap (fun p=>(47:Int)::p),npq c=true:=fun c hc=>by
 obtain⟨p,hp,hcp⟩:=List.mem_flatMap.1 hc;rcases List.mem_cons.1 hcp with rfl | hcp
 ·decide
 ·exact(h p hp).nq c hcp
theorem Hg{sp:Bool}{ps:List (List Int)}(h:∀ p∈ps,Pc sp p):Vis (ps.flatMap (fun p=>(47:Int)::p)):=fun c hc=>by
 obtain⟨p,hp,hcp⟩:=List.mem_flatMap.1 hc;rcases List.mem_cons.1 hcp with rfl | hcp
 ·decide
 ·exact(h p hp).e.vis (by decide) (by decide) c hcp
theorem eO{l:List Int}(h:hqy l=none)(a b:H.Hst):rdc l a=rdc l b:=by
 unfold hqy at h;unfold rdc;cases hs:sch l with
 | none=>rfl
 | some mr =>
  obtain⟨m,r⟩:=mr;rw[hs]at h;simp only at h ⊢;by_cases hf:m=cA
  ·rw[if_pos hf,if_pos hf]
  ·rw[if_neg hf]at h ⊢;rw[if_neg hf];cases ha:aus m r with
   | none=>rfl
   | some q =>
    rw[ha]at h;simp only at h ⊢;have hn:ask (own m).isSome (q.takeWhile (nau (own m).isSome))=none:=by simpa using h
    have e:∀ z:H.Hst,ath m (q.takeWhile (nau (own m).isSome)) z=(zu,70):=fun z=>by unfold ath;rw[if_pos hn]
    rw[e a,e b]
theorem UP.one{A:List Int->List Int->Int->Prop}(hA:H.Asc A){s:List Int}{r q:Ur×Int}(x:UP A s r)(y:UP A s q):r=q:=by
 unfold UP at x y;split at x
 ·rename_i c;rw[if_pos c]at y;rw[x,y]
 ·rename_i c;rw[if_neg c]at y;obtain⟨h,h1,rfl⟩:=x;obtain⟨k,k1,rfl⟩:=y;cases hq:hqy (cln s) with
  | none=>exact eO hq h k
  | some z =>
   obtain⟨t,sp⟩:=z;rw[H.HP.one hA (h1 t sp hq) (k1 t sp hq)]
end Y
namespace H
open F (bn)
def w1:ByteArray:=⟨#[69,88,65,77,80,76,69,46,99,111,109]⟩
def x1:ByteArray:=⟨#[101,120,97,109,112,108,101,46,99,111,109]⟩
theorem hp1{A:List Int->List Int->Int->Prop}(hA:Asc A):HP A (bn w1) true (1,bn x1,0,z8,0):=by unfold HP;rw[if_neg (by decide),if_neg (by decide),if_neg (by decide)];exact⟨bn x1,0,by rw[show E.de (bn w1)=[69,88,65,77,80,76,69,46,99,111,109] by decide];exact hA.cap,by decide +kernel⟩
end H
namespace Y
open F (bn ak hid)
theorem Ctr.cpIs{A:List Int->List Int->Int->Prop}{G:World->Prop}(C:Ctr A G){s:ByteArray}{u:Ur}{er:Int}(hs:s.size<=100000)(x:UP A (bn s) (u,er))(W:World)(hG:G W):
  Calls prog 11 #[.string s] W fun e W'=>(∃ a,Lim u/\At W' a u/\e=.returned (.tuple #[.agg (Us.cs a),.int .i64 er]))/\Below W.heap.size W W' :=
 (C.cp s W hs hG).mono (by
   rintro e W' ⟨⟨a,v,k,y,hl,ha,rfl⟩,hB⟩
   have h:=UP.one C.asc x y
   obtain⟨rfl,rfl⟩:=Prod.mk.inj h
   exact⟨⟨a,hl,ha,rfl⟩,hB⟩)
theorem eP{w:World}{a:Us}{u:Ur}(h:At w a u):∃ ad n c,a={ a with pv:=.slice ad n c }:=by obtain⟨ps,_,hs⟩:=h.pv;obtain⟨ad,c,e,_⟩:=hs.form;exact⟨ad,ps.length,c,by rw[<-e]⟩
theorem aR{w:World}{a:Us}{u:Ur}(h:At w a u):(Us.cs a).all (·.oneCell')=true:=by obtain⟨ad,n,c,e⟩:=eP h;rw[e];exact Aq a ad n c
theorem cV(W:World)(a:Us):((W.alloc (.cells zc 29)).setRow W.heap.size (Us.cs a)).heap[W.heap.size]? = some (.cells (Us.cs a) 29 (0,0))/\Below W.heap.size W ((W.alloc (.cells zc 29)).setRow W.heap.size (Us.cs a)) :=
 ⟨setRow_heap _ _ _ _ _ _ (aA W _ _),cS ((Below.refl _ W).alloc (le_refl _) _) (le_refl _) _⟩
theorem aK{P:Program}{ops:Array Oper}{Q:Exit->Act->World->Prop}{a:Act}{w:World}{rest:List Oper}{o:Oper}
  (hw:Region.wanted o (yielded ops a.tmps)=true) (h:wpList P ops Q ({ o with guard:=none }::rest) a w):wpList P ops Q (o::rest) a w:=by
 have h0:Region.wanted { o with guard:=none } (yielded ops a.tmps)=true:=rfl;simp only[wpList,h0,hw,if_true]at h ⊢;exact h
def k1:ByteArray:=⟨#[72,84,84,80,58,92,92,85,115,101,114,64,69,88,65,77,80,76,69,46,99,111,109,58,56,48,47,97,47,46,46,47,98,63,113,35,102]⟩
def k2:ByteArray:=⟨#[102,111,111,58,47,46,47,47,112]⟩
def k3:ByteArray:=⟨#[104,116,116,112,58,47,47,97,58,57,57,57,57,57]⟩
def k4:ByteArray:=⟨#[49,97,58,98]⟩
def u1:Ur:={ zu with sch:=om,usr:=[85,115,101,114],hh:=true,hst:=(1,[101,120,97,109,112,108,101,46,99,111,109],0,H.z8),pth:=[[98]],hq:=true,qry:=[113],hf:=true,frg:=[102] }
def u2:Ur:={ zu with sch:=[102,111,111],pth:=[[],[112]] }
theorem up1{A:List Int->List Int->Int->Prop}(hA:H.Asc A):UP A (bn k1) (u1,0):=by
 unfold UP;rw[if_neg (by decide)];have hc:cln (bn k1)=bn k1:=by decide +kernel
 rw[hc];have hq:hqy (bn k1)=some ([69,88,65,77,80,76,69,46,99,111,109],true):=by decide +kernel
 refine⟨(1,[101,120,97,109,112,108,101,46,99,111,109],0,H.z8,0),fun x sp hx=>?_,by kernel_rfl⟩;rw[hq]at hx;cases hx;exact H.hp1 hA
theorem up2{A:List Int->List Int->Int->Prop}:UP A (bn k2) (u2,0):=by
 unfold UP;rw[if_neg (by decide)];have hc:cln (bn k2)=bn k2:=by decide +kernel
 rw[hc];have hq:hqy (bn k2)=none:=by decide +kernel
 exact⟨H.non 0,(fun x sp hx=>by rw[hq]at hx;cases hx),by kernel_rfl⟩
theorem up3{A:List Int->List Int->Int->Prop}(hA:H.Asc A):UP A (bn k3) (zu,131):=by
 unfold UP;rw[if_neg (by decide)];have hc:cln (bn k3)=bn k3:=by decide +kernel
 rw[hc];have hq:hqy (bn k3)=some ([97],true):=by decide +kernel
 refine⟨(1,[97],0,H.z8,0),fun x sp hx=>?_,by kernel_rfl⟩;rw[hq]at hx;cases hx;unfold H.HP;rw[if_neg (by decide),if_neg (by decide),if_neg (by decide)];exact⟨[97],0,by rw[show E.de [97]=[97] by decide];exact hA.num (by decide),by decide +kernel⟩
theorem up4{A:List Int->List Int->Int->Prop}:UP A (bn k4) (zu,130):=by
 unfold UP;rw[if_neg (by decide)];have hc:cln (bn k4)=bn k4:=by decide +kernel
 rw[hc];have hq:hqy (bn k4)=none:=by decide +kernel
 exact⟨H.non 0,(fun x sp hx=>by rw[hq]at hx;cases hx),by kernel_rfl⟩
theorem dC{A:List Int->List Int->Int->Prop}{G:World->Prop}(C:Ctr A G)(w:World)(hG:G w):Calls prog 10 #[] w fun e W'=>e=.returned (.bool true)/\Below w.heap.size w W':=by
 have HK:Hid (∀ W,Below w.heap.size w W->G W):=fun W h=>C.keep w W hG h;have P1:=hid (fun W h=>C.cpIs (s:=k1) (by decide) (up1 C.asc) W h);have P2:=hid (fun W h=>C.cpIs (s:=k2) (by decide) up2 W h);have P3:=hid (fun W h=>C.cpIs (s:=k3) (by decide) (up3 C.asc) W h);have P4:=hid (fun W h=>C.cpIs (s:=k4) (by decide) up4 W h);have P5:Hid (∀ W,G W->Calls prog 13 #[.string ⟨#[119,115,115]⟩] W fun e W'=>e=.returned (.tuple #[.int .u16 443,.bool true])/\Below W.heap.size W W'):=fun W h=>C.cq ⟨#[119,115,115]⟩ W (by decide) h
 have T1:Hid (∀ W a,At W a u1->Lim u1->G W->Calls prog 16 #[.agg (Us.cs a)] W fun e W'=>e=.returned (.string ⟨#[104,116,116,112,58,47,47,85,115,101,114,64,101,120,97,109,112,108,101,46,99,111,109,47,98,63,113,35,102]⟩)/\Below W.heap.size W W'):=fun W a h l g=>(C.ct a u1 W h l g).mono (by
   rintro e W' ⟨⟨t,rfl,ht⟩,hB⟩
   obtain rfl:t=⟨#[104,116,116,112,58,47,47,85,115,101,114,64,101,120,97,109,112,108,101,46,99,111,109,47,98,63,113,35,102]⟩:=ak (ht.trans (by decide +kernel))
   exact⟨rfl,hB⟩)
 have T2:Hid (∀ W a,At W a u2->Lim u2->G W->Calls prog 16 #[.agg (Us.cs a)] W fun e W'=>e=.returned (.string ⟨#[102,111,111,58,47,46,47,47,112]⟩)/\Below W.heap.size W W'):=fun W a h l g=>(C.ct a u2 W h l g).mono (by
   rintro e W' ⟨⟨t,rfl,ht⟩,hB⟩
   obtain rfl:t=⟨#[102,111,111,58,47,46,47,47,112]⟩:=ak (ht.trans (by decide +kernel))
   exact⟨rfl,hB⟩)
 have T3:Hid (∀ W a,At W a u2->Lim u2->G W->Calls prog 19 #[.agg (Us.cs a)] W fun e W'=>e=.returned (.string ⟨#[47,47,112]⟩)/\Below W.heap.size W W'):=fun W a h l g=>(C.ch a u2 W h l g).mono (by
   rintro e W' ⟨⟨t,rfl,ht⟩,hB⟩
   obtain rfl:t=⟨#[47,47,112]⟩:=ak (ht.trans (by decide +kernel))
   exact⟨rfl,hB⟩)
 unfold k1 at P1;unfold k2 at P2;unfold k3 at P3;unfold k4 at P4;have HB:Hid (Below w.heap.size w w):=Below.refl _ _;clear C hG;go_enter func10,ntmps10;go_wp2_with fail;refine(P1.out _ (HK.out _ HB.out)).mono ?_;rintro e v1 ⟨⟨a1,hl1,ha1,rfl⟩,B⟩;replace HB:=Bt' HB B;have X1:=hid (aA v1 zc 29);have O1:=hid (aR ha1);obtain⟨pk,pb⟩:=cV v1 a1;have R1:=hid pk;replace HB:=Bt' HB pb;have AT1:=hid (ha1.below pb);have LM1:=hid hl1;obtain⟨q1,hq1⟩:=Ex' ((v1.alloc (.cells zc 29)).setRow v1.heap.size (Us.cs a1));rw[hq1]at R1 HB AT1;clear ha1 hl1 pk pb B;go_wp2_with(refine wpList_store_row rfl 29 (.tmp 1) (.tmp 13) rfl v1.heap.size (Us.cs a1) rfl rfl 29 zc X1.out (aL a1) rfl O1.out ?_);refine(P2.out _ (HK.out _ HB.out)).mono ?_;rintro e v2 ⟨⟨a2,hl2,ha2,rfl⟩,B⟩;replace HB:=Bt' HB B;replace R1:=hid (kept R1.out B);replace AT1:=hid (AT1.out.below B);have X2:=hid (aA v2 zc 29);have O2:=hid (aR ha2);obtain⟨pk,pb⟩:=cV v2 a2;have R2:=hid pk;replace HB:=Bt' HB pb;have AT2:=hid (ha2.below pb);have LM2:=hid hl2;replace R1:=hid (kept R1.out pb);replace AT1:=hid (AT1.out.below pb);obtain⟨q2,hq2⟩:=Ex' ((v2.alloc (.cells zc 29)).setRow v2.heap.size (Us.cs a2));rw[hq2]at R1 AT1 R2 HB AT2;clear ha2 hl2 pk pb B;go_wp2_with(refine wpList_store_row rfl 29 (.tmp 3) (.tmp 17) rfl v2.heap.size (Us.cs a2) rfl rfl 29 zc X2.out (aL a2) rfl O2.out ?_);refine(P3.out _ (HK.out _ HB.out)).mono ?_;rintro e v3 ⟨⟨a3,hl3,ha3,rfl⟩,B⟩;replace HB:=Bt' HB B;replace R1:=hid (kept R1.out B);replace AT1:=hid (AT1.out.below B);replace R2:=hid (kept R2.out B);replace AT2:=hid (AT2.out.below B);have X3:=hid (aA v3 zc 29);have O3:=hid (aR ha3);obtain⟨pk,pb⟩:=cV v3 a3;have R3:=hid pk;replace HB:=Bt' HB pb;have AT3:=hid (ha3.below pb);have LM3:=hid hl3;replace R1:=hid (kept R1.out pb);replace AT1:=hid (AT1.out.below pb);replace R2:=hid (kept R2.out pb);replace AT2:=hid (AT2.out.below pb);obtain⟨q3,hq3⟩:=Ex' ((v3.alloc (.cells zc 29)).setRow v3.heap.size (Us.cs a3));rw[hq3]at R1 AT1 R2 AT2 R3 HB AT3;clear ha3 hl3 pk pb B;go_wp2_with(refine wpList_store_row rfl 29 (.tmp 5) (.tmp 21) rfl v3.heap.size (Us.cs a3) rfl rfl 29 zc X3.out (aL a3) rfl O3.out ?_);refine(P4.out _ (HK.out _ HB.out)).mono ?_;rintro e v4 ⟨⟨a4,hl4,ha4,rfl⟩,B⟩;replace HB:=Bt' HB B;replace R1:=hid (kept R1.out B);replace AT1:=hid (AT1.out.below B);replace R2:=hid (kept R2.out B);replace AT2:=hid (AT2.out.below B);have X4:=hid (aA v4 zc 29);have O4:=hid (aR ha4);obtain⟨pk,pb⟩:=cV v4 a4;have R4:=hid pk;replace HB:=Bt' HB pb;have AT4:=hid (ha4.below pb);have LM4:=hid hl4;replace R1:=hid (kept R1.out pb);replace AT1:=hid (AT1.out.below pb);replace R2:=hid (kept R2.out pb);replace AT2:=hid (AT2.out.below pb);obtain⟨q4,hq4⟩:=Ex' ((v4.alloc (.cells zc 29)).setRow v4.heap.size (Us.cs a4));rw[hq4]at R1 AT1 R2 AT2 R4 HB AT4;clear ha4 hl4 pk pb B;go_wp2_with(refine wpList_store_row rfl 29 (.tmp 7) (.tmp 25) rfl v4.heap.size (Us.cs a4) rfl rfl 29 zc X4.out (aL a4) rfl O4.out ?_);refine(P5.out _ (HK.out _ HB.out)).mono ?_;rintro e v5 ⟨rfl,B⟩;replace R1:=hid (kept R1.out B);replace AT1:=hid (AT1.out.below B);replace R2:=hid (kept R2.out B);replace AT2:=hid (AT2.out.below B);replace HB:=Bt' HB B;clear B P1 P2 P3 P4 P5 X1 X2 X3 X4 O1 O2 O3 O4 R3 R4 AT3 AT4 LM3 LM4 hq1 hq2 hq3 hq4;go_wp2_with(refine aK (by rfl) ?_;refine wpList_load_row rfl 29 (.tmp 1) rfl v1.heap.size rfl 29 (Us.cs a1) (0,0) _ R1.out underlying29 rfl (aL a1) ?_);refine(T1.out _ a1 AT1.out LM1.out (HK.out _ HB.out)).mono ?_;rintro e v6 ⟨rfl,B⟩;replace R2:=hid (kept R2.out B);replace AT2:=hid (AT2.out.below B);replace HB:=Bt' HB B;clear B T1 R1 AT1;go_wp2_with(refine aK (by rfl) ?_;refine wpList_load_row rfl 29 (.tmp 3) rfl v2.heap.size rfl 29 (Us.cs a2) (0,0) _ R2.out underlying29 rfl (aL a2) ?_);refine(T2.out _ a2 AT2.out LM2.out (HK.out _ HB.out)).mono ?_;rintro e v7 ⟨rfl,B⟩;replace R2:=hid (kept R2.out B);replace AT2:=hid (AT2.out.below B);replace HB:=Bt' HB B;clear B T2;go_wp2_with(refine aK (by rfl) ?_;refine wpList_load_row rfl 29 (.tmp 3) rfl v2.heap.size rfl 29 (Us.cs a2) (0,0) _ R2.out underlying29 rfl (aL a2) ?_);refine(T3.out _ a2 AT2.out LM2.out (HK.out _ HB.out)).mono ?_;rintro e v8 ⟨rfl,B⟩;replace HB:=Bt' HB B;clear B T3 R2 AT2;go_wp2;go_ret;exact⟨rfl,HB.out⟩
open F (bn aa ak hid aS)
theorem UP.err{A:List Int->List Int->Int->Prop}{s:List Int}{u:Ur}{er:Int}(x:UP A s (u,er))(h:er≠0):u=zu:=by
 unfold UP at x;split at x
 ·exact congrArg Prod.fst x
 ·obtain⟨k,_,e⟩:=x
  have key:∀ l,(rdc l k).2≠0->(rdc l k).1=zu:=fun l hne=>by
   unfold rdc at hne ⊢;split
   ·rfl
   ·rename_i m r hm;rw[hm]at hne;simp only at hne ⊢;split
    ·rfl
    ·rename_i hf;rw[if_neg hf]at hne;split
     ·rename_i ha;rw[ha]at hne;exact absurd rfl hne
     ·rename_i b ha;rw[ha]at hne;simp only at hne ⊢;split
      ·rfl
      ·rename_i h0;rw[if_neg h0]at hne;exact absurd rfl hne
  have e1:=congrArg Prod.fst e;have e2:=congrArg Prod.snd e;simp only at e1 e2;rw[e1];exact key _ (by rw[<-e2];exact h)
def z0:Us:=⟨⟨#[]⟩,⟨#[]⟩,⟨#[]⟩,false,0,⟨#[]⟩,0,0,0,0,0,0,0,0,0,false,0,false,.slice none 0 0,⟨#[]⟩,false,⟨#[]⟩,false,⟨#[]⟩⟩
theorem Sv(w:World):At w z0 zu:=⟨rfl,rfl,rfl,rfl,rfl,rfl,rfl,rfl,rfl,rfl,rfl,rfl,rfl,[],rfl,.inl ⟨rfl,rfl⟩⟩
theorem dN{w:World}{a b:Us}{u:Ur}(h:At w a u)(k:At w b u)(hl:Lim u):Calls prog 15 #[.agg (Us.cs a),.agg (Us.cs b)] w fun e W'=>e=.returned (.bool true)/\Below w.heap.size w W':=by obtain⟨ps,e1,s1⟩:=h.pv;obtain⟨qs,e2,s2⟩:=k.pv;obtain rfl:ps=qs:=dD (w:=w) (v:=a.pv) (v':=b.pv) (e1.trans e2.symm);rw[h.same k];refine eN a b.pv ps w s1 s2 ?_;have:=hl.2.2.2.2.2.2;rw[<-e1,List.length_map]at this;exact this
theorem Iz:prog.built 29 []=some zc:=by kernel_rfl
theorem pD{ops:Array Oper}{rest:List Oper}{o:Oper}{a:Act}{w:World}{Q:Exit->Act->World->Prop}(hg:o.guard=none)(ho:o.op=.build 29 #[])(h:wpList prog ops Q rest (a.put o.dst (.agg zc)) w):wpList prog ops Q (o::rest) a w :=
 wpList_build hg 29 #[] ho (by simp[Iz]) (by simpa[Iz]using h)
theorem Rh:Us.cs z0=zc:=by kernel_rfl
theorem Cq{w:World}{a:Us}{u:Ur}(h:At w a u)(hl:Lim u):Calls prog 17 #[.agg (Us.cs a)] w fun e W'=>(∃ b,e=.returned (.agg (Us.cs b))/\At W' b u)/\Below w.heap.size w W':=by
 obtain⟨ps,e1,s1⟩:=h.pv;have hlen:ps.length<=1000000:=by have:=hl.2.2.2.2.2.2;rw[<-e1,List.length_map]at this;exact this
 refine(jQ a ps w s1 hlen).mono ?_;rintro e W' ⟨⟨v,rfl,hs⟩,hB⟩;exact⟨⟨_,rfl,⟨h.sc,h.us,h.pa,h.hh,h.ho,h.hp,h.pr,h.op,h.bo,h.hq,h.qu,h.hf,h.fg,ps,e1,hs⟩⟩,hB⟩
theorem xf{A:List Int->List Int->Int->Prop}{G:World->Prop}(C:Ctr A G)(HR:∀(s:List Int) (u:Ur),U.Bytes s->UP A s (u,0)->(txt u).length<=4096->UP A (txt u) (u,0))(s:ByteArray)(w:World)(hG:G w):Calls prog 4 #[.string s] w fun e W'=>e=.returned (.bool true)/\Below w.heap.size w W':=by
 have HK:Hid (∀ W,Below w.heap.size w W->G W):=fun W h=>C.keep w W hG h
 have HW:Hid (∀ W,Below w.heap.size w W->Calls prog 10 #[] W fun e W'=>e=.returned (.bool true)/\Below w.heap.size w W'):=fun W h=>(dC C W (HK.out W h)).mono (by
   rintro e W' ⟨rfl,hB⟩
   exact⟨rfl,h.trans (hB.mono h.size)⟩)
 have HB:Hid (Below w.heap.size w w):=Below.refl _ _;by_cases h9:900<s.size
 ·have h9z:(900:Int)<(s.size:Int):=by omega
  clear C HR hG;go_enter func4,ntmps4;go_wp2_with(go_at_call 10;refine(HW.out _ HB.out).mono ?_;rintro e w2 ⟨rfl,B2⟩);go_ret;exact⟨rfl,B2⟩
 ·have h9z:¬ (900:Int)<(s.size:Int):=by omega
  have HCP:=hid (C.cp s w (by omega) hG);have HC:=hid C;have HRR:=hid HR;clear C HR hG;go_enter func4,ntmps4;go_wp2_with fail;refine HCP.out.mono ?_;rintro e v1 ⟨⟨a,u,er,x,hl,ha,rfl⟩,B⟩;replace HB:=Bt' HB B;have X1:=hid (aA v1 zc 29);have O1:=hid (aR ha);obtain⟨pk,pb⟩:=cV v1 a;have R1:=hid pk;replace HB:=Bt' HB pb;have AT1:=hid (ha.below pb);have LM:=hid hl;have HX:=hid x;clear ha pk pb B HCP x hl;by_cases he:er=0
  ·subst he;have HCO:=hid (Cq AT1.out LM.out);go_wp2_with(first | (refine wpList_store_row rfl 29 (.tmp 3) (.tmp 15) rfl v1.heap.size (Us.cs a) rfl rfl 29 zc X1.out (aL a) rfl O1.out ?_) | (refine wpList_load_row rfl 29 (.tmp 3) rfl v1.heap.size rfl 29 (Us.cs a) (0,0) _ R1.out underlying29 rfl (aL a) ?_));refine HCO.out.mono ?_;rintro e v2 ⟨⟨b,rfl,hb⟩,B⟩;replace R1:=hid (kept R1.out B);replace AT1:=hid (AT1.out.below B);replace HB:=Bt' HB B;have HTX:=hid (HC.out.ct b u v2 hb LM.out (HK.out _ HB.out));clear B hb HCO X1 O1;go_wp2_with fail;refine HTX.out.mono ?_;rintro e v3 ⟨⟨t,rfl,ht⟩,B⟩;replace R1:=hid (kept R1.out B);replace AT1:=hid (AT1.out.below B);replace HB:=Bt' HB B;have HT:=hid ht;clear B HTX ht;by_cases h4:4096<t.size
   ·have h4z:(4096:Int)<(t.size:Int):=by omega
    clear HX HRR HC R1 AT1;go_wp2_with(go_at_call 10;refine(HW.out _ HB.out).mono ?_;rintro e w2 ⟨rfl,B2⟩);go_ret;exact⟨rfl,B2⟩
   ·have h4z:¬ (4096:Int)<(t.size:Int):=by omega
    have hup:UP A (bn t) (u,0):=by rw[HT.out];exact HRR.out (bn s) u (U.ay s) HX.out (by rw[<-HT.out,aa];omega)
    have HP2:=hid (HC.out.cpIs (s:=t) (by omega) hup v3 (HK.out _ HB.out));clear HX HRR hup;go_wp2_with fail;refine HP2.out.mono ?_;rintro e v4 ⟨⟨c,_,hc,rfl⟩,B⟩;replace R1:=hid (kept R1.out B);replace AT1:=hid (AT1.out.below B);replace HB:=Bt' HB B;have X4:=hid (aA v4 zc 29);have O4:=hid (aR hc);obtain⟨pk,pb⟩:=cV v4 c;have R4:=hid pk;replace R1:=hid (kept R1.out pb);replace AT1:=hid (AT1.out.below pb);replace HB:=Bt' HB pb;have AT4:=hid (hc.below pb);have HSM:=hid (dN AT1.out AT4.out LM.out);have SE:(t.toList==t.toList)=true:=aS rfl;clear hc pk pb B HP2;go_wp2_with(first | (refine wpList_store_row rfl 29 (.tmp 6) (.tmp 35) rfl v4.heap.size (Us.cs c) rfl rfl 29 zc X4.out (aL c) rfl O4.out ?_) | (refine aK (by rfl) ?_;refine wpList_load_row rfl 29 (.tmp 3) rfl v1.heap.size rfl 29 (Us.cs a) (0,0) _ R1.out underlying29 rfl (aL a) ?_) | (refine aK (by rfl) ?_;refine wpList_load_row rfl 29 (.tmp 6) rfl v4.heap.size rfl 29 (Us.cs c) (0,0) _ R4.out underlying29 rfl (aL c) ?_));refine HSM.out.mono ?_;rintro e v5 ⟨rfl,B⟩;replace R4:=hid (kept R4.out B);replace AT4:=hid (AT4.out.below B);replace HB:=Bt' HB B
    have HT2:Hid (Calls prog 16 #[.agg (Us.cs c)] v5 fun e W'=>e=.returned (.string t)/\Below v5.heap.size v5 W'):=(HC.out.ct c u v5 AT4.out LM.out (HK.out _ HB.out)).mono (by
      rintro e W' ⟨⟨t',rfl,ht'⟩,hB⟩
      obtain rfl:t'=t:=ak (ht'.trans HT.out.symm)
      exact⟨rfl,hB⟩)
    clear B HSM R1 AT1 X4 O4;go_wp2_with(refine aK (by rfl) ?_;refine wpList_load_row rfl 29 (.tmp 6) rfl v4.heap.size rfl 29 (Us.cs c) (0,0) _ R4.out underlying29 rfl (aL c) ?_);refine HT2.out.mono ?_;rintro e v6 ⟨rfl,B⟩;replace HB:=Bt' HB B;clear B HT2 R4 AT4;go_wp2_with(go_at_call 10;refine(HW.out _ HB.out).mono ?_;rintro e w2 ⟨rfl,B2⟩);go_ret;exact⟨rfl,B2⟩
  ·have hen:(er != 0)=true:=by simpa using he
   have hz:=HX.out.err he;subst hz;have HS:Hid (∀ W,At W a zu->Calls prog 15 #[.agg (Us.cs a),.agg zc] W fun e W'=>e=.returned (.bool true)/\Below W.heap.size W W'):=fun W h=>by rw[<-Rh];exact dN h (Sv W) fP
   have HSM:=hid (HS.out _ AT1.out);clear HX HC HRR HS;go_wp2_with(first | (refine wpList_store_row rfl 29 (.tmp 3) (.tmp 15) rfl v1.heap.size (Us.cs a) rfl rfl 29 zc X1.out (aL a) rfl O1.out ?_) | (refine wpList_load_row rfl 29 (.tmp 3) rfl v1.heap.size rfl 29 (Us.cs a) (0,0) _ R1.out underlying29 rfl (aL a) ?_) | (refine pD rfl rfl ?_));refine HSM.out.mono ?_;rintro e v2 ⟨rfl,B⟩;replace HB:=Bt' HB B;clear B;go_wp2_with(go_at_call 10;refine(HW.out _ HB.out).mono ?_;rintro e w2 ⟨rfl,B2⟩);go_ret;exact⟨rfl,B2⟩
theorem JK{sp has:Bool}{w:Ur}{r:List Int}(hb:U.Bytes r)(hw:Jl w):
  ∃ w' q,tl sp has w r=qf sp w' q/\q=r.dropWhile npq/\U.Bytes q/\w'.hq=false/\w'.qry=[]/\w'.hf=false/\w'.frg=[] /\
   ((sp=true\/(r.takeWhile npq).head? = some 47)/\w'={ w with pth:=lst sp (r.takeWhile npq) } \/
    ¬ (sp=true\/(r.takeWhile npq).head? = some 47)/\has=true/\w'=w \/
    ¬ (sp=true\/(r.takeWhile npq).head? = some 47)/\has=false/\w'={ w with opq:=true,bod:=E.en 0 (U.dec (r.takeWhile npq)) }):=by
 obtain⟨h1,h2,h3,h4,h5,h6,h7⟩:=hw;have hq:U.Bytes (r.dropWhile npq):=fun b hb'=>hb b (dJ hb');unfold tl;by_cases c1:sp=true\/(r.takeWhile npq).head? = some 47
 ·rw[if_pos c1];exact⟨_,_,rfl,rfl,hq,h4,h5,h6,h7,.inl ⟨c1,rfl⟩⟩
 ·rw[if_neg c1];cases has with
  | true=>exact⟨_,_,rfl,rfl,hq,h4,h5,h6,h7,.inr (.inl ⟨c1,rfl,rfl⟩)⟩
  | false=>exact⟨_,_,rfl,rfl,hq,h4,h5,h6,h7,.inr (.inr ⟨c1,rfl,rfl⟩)⟩
theorem fV{f:Int->Bool}{r:List Int}(hb:U.Bytes r):U.Bytes (r.takeWhile f):=fun b hb'=>hb b (cg hb').2
structure Tk(sp has:Bool)(w:Ur)(u:Ur):Prop where
 k:Qk sp u
 w:u={ w with opq:=u.opq,pth:=u.pth,bod:=u.bod,hq:=u.hq,qry:=u.qry,hf:=u.hf,frg:=u.frg }
 c:(u.opq=false/\u.bod=[]/\u.pth≠[]/\(∀ p∈u.pth,Pc sp p))\/(u.opq=false/\u.bod=[]/\u.pth=[]/\has=true/\sp=false)\/(u.opq=true/\u.pth=[]/\has=false/\sp=false/\En 0 u.bod/\(∀ c∈u.bod,npq c=true)/\u.bod.head? ≠ some 47)
theorem Hw{x:List Int}(hb:U.Bytes x)(h:x.head? ≠ some 47):(E.en 0 (U.dec x)).head? ≠ some 47:=by
 cases x with
 | nil=>rw[U.bL];simp[E.en]
 | cons a l =>
  intro he;rw[U.aO (a::l) (by simp) hb,E.kK]at he;have hsc:U.ab (U.nx (a::l)).1=true:=List.all_eq_true.1 (U.bJ (a::l).length (a::l) (le_refl _) hb) _ (by rw[U.aO (a::l) (by simp) hb];simp);by_cases hin:E.inS (U.nx (a::l)).1 0=true
  ·obtain⟨b,t,hbt,_⟩:=jf hsc;have e:E.tok 0 (U.nx (a::l)).1=37::E.dg (b / 16)::E.dg (b % 16)::t.flatMap E.pe:=by unfold E.tok;rw[if_pos hin,hbt];simp[E.pe]
   rw[e]at he;simp at he
  ·have hbd:=E.lA (k:=0) (by decide) (by simpa using hin);have e:E.tok 0 (U.nx (a::l)).1=[(U.nx (a::l)).1]:=by unfold E.tok;rw[if_neg hin,E.bR (by omega)]
   rw[e]at he;have h47:(U.nx (a::l)).1=47:=by simpa using he
   obtain⟨t,e2,_⟩:=xq (by simp) hb (by omega);rw[h47]at e2;exact h (by rw[e2];rfl)
theorem NN{sp has:Bool}{w:Ur}{r:List Int}(hb:U.Bytes r)(hw:Jl w):Tk sp has w (tl sp has w r)/\((tl sp has w r).opq=true->qtx (tl sp has w r)=[]->(tl sp has w r).bod=E.en 0 (U.dec r)):=by
 obtain⟨w',q,e,hq,hqb,h4,h5,h6,h7,hc⟩:=JK (sp:=sp) (has:=has) hb hw;obtain⟨g1,g2,g3⟩:=Ks (sp:=sp) hqb h6 h7 h4 h5;obtain⟨b1,b2,b3,b4,b5,b6,b7⟩:=hw;rw[e];have p1:=congrArg Ur.opq g1;have p2:=congrArg Ur.pth g1;have p3:=congrArg Ur.bod g1;refine⟨⟨g2,?_,?_⟩,?_⟩
 ·rcases hc with⟨_,rfl⟩ | ⟨_,_,rfl⟩ | ⟨_,_,rfl⟩ <;> (rw[p1,p2,p3];exact g1)
 ·rw[p1,p2,p3];rcases hc with⟨_,rfl⟩ | ⟨hn,hh,rfl⟩ | ⟨hn,hh,rfl⟩
  ·left;have hl:=PL (sp:=sp) (fV (f:=npq) hb);exact⟨b1,b3,hl.2,hl.1⟩
  ·right;left;exact⟨b1,b3,b2,hh,by simpa using fun h=>hn (.inl h)⟩
  ·right;right;refine⟨rfl,b2,hh,by simpa using fun h=>hn (.inl h),En.of (fV hb),fun c hc=>?_,Hw (fV hb) (fun h=>hn (.inr h))⟩;cases hnc:npq c with
   | true=>rfl
   | false =>
    have hc2:c=63\/c=35:=by unfold npq qm at hnc;simp at hnc;omega
    have hm:=Hr (k:=0) (by decide) (fV hb) hc (by omega) (by omega) (by omega);rw[(cg hm).1]at hnc;exact hnc.symm
 ·intro ho hqt;rcases hc with⟨_,rfl⟩ | ⟨hn,hh,rfl⟩ | ⟨hn,hh,rfl⟩
  ·rw[p1]at ho;rw[show Ur.opq _=w.opq from rfl,b1]at ho;cases ho
  ·rw[p1,b1]at ho;cases ho
  ·rw[p3]
   have hnil:q=[]:=by
    unfold qtx at hqt;refine g3 ?_ ?_
    ·cases hx:(qf sp _ q).hq with
     | false=>rfl
     | true=>rw[hx]at hqt;simp at hqt
    ·cases hx:(qf sp _ q).hf with
     | false=>rfl
     | true=>rw[hx]at hqt;simp at hqt
   have:r.takeWhile npq=r:=by have h:=List.takeWhile_append_dropWhile (p:=npq) (l:=r);rw[<-hq,hnil,append_nil]at h;exact h
   rw[this]
theorem Tk.vis{sp has:Bool}{w u:Ur}(h:Tk sp has w u)(ho:u.opq=false):Vis (ptx u):=by
 rw[dS ho];rcases h.c with⟨_,_,_,hp⟩ | ⟨_,_,h0,_⟩ | ⟨h1,_⟩
 ·exact Hg hp
 ·rw[h0];exact Vis.nil
 ·rw[ho]at h1;cases h1
theorem tu{sp has:Bool}{w u:Ur}(hw:Jl w)(h:Tk sp has w u)(pre:List Int)(hp:pre=[]\/pre=[47,46]/\u.pth≠[]):tl sp has w (pre++(ptx u++qtx u))=u:=by
 obtain⟨b1,b2,b3,b4,b5,b6,b7⟩:=hw
 have hpre:∀ c∈pre,npq c=true:=fun c hc=>by
  rcases hp with rfl | ⟨rfl,_⟩
  ·simp at hc
  ·simp at hc;rcases hc with rfl | rfl <;> decide
 have hptx:∀ c∈ptx u,npq c=true:=by
  rcases h.c with⟨ho,_,_,hpc⟩ | ⟨ho,_,h0,_⟩ | ⟨ho,_,_,_,_,hn,_⟩
  ·rw[dS ho];exact Hh hpc
  ·rw[dS ho,h0];simp
  ·unfold ptx;rw[if_pos ho];exact hn
 obtain⟨e1,e2⟩:=bW (f:=npq) (p:=pre++ptx u) (q:=qtx u) (fun c hc=>(List.mem_append.1 hc).elim (hpre c) (hptx c)) (kq u);rw[append_assoc]at e1 e2;unfold tl;rw[e1,e2];rcases h.c with⟨ho,hb0,hne,hpc⟩ | ⟨ho,hb0,h0,hh,hsp⟩ | ⟨ho,h0,hh,hsp,he,hn,hhd⟩
 ·have hl:lst sp (pre++ptx u)=u.pth:=by
   rw[dS ho];rcases hp with rfl | ⟨rfl,_⟩
   ·exact LQ hne hpc
   ·exact LR hne hpc
  have hd:(pre++ptx u).head? = some 47:=by
   rw[dS ho];rcases hp with rfl | ⟨rfl,_⟩
   ·cases hq:u.pth with
    | nil=>exact absurd hq hne
    | cons p t=>rfl
   ·rfl
  rw[if_pos (.inr hd),hl];refine(xg (v:={ w with pth:=u.pth }) h.k b6 b7 b4 b5).trans ?_;have hw:=h.w;rw[ho,hb0]at hw;rw[hw];simp only[b1,b3]
 ·have hpn:pre=[]:=hp.elim id (fun h1=>absurd h0 h1.2);have hpt:ptx u=[]:=by rw[dS ho,h0];rfl
  rw[hpn,hpt,if_neg (by rw[hsp];simp),if_pos hh];refine(xg h.k b6 b7 b4 b5).trans ?_;have hw:=h.w;rw[ho,hb0,h0]at hw;rw[hw];simp only[b1,b2,b3]
 ·have hpn:pre=[]:=hp.elim id (fun h1=>absurd h0 h1.2);have hpt:ptx u=u.bod:=by unfold ptx;rw[if_pos ho]
  rw[hpn,nil_append,hpt,if_neg (by rw[hsp];simpa using hhd),if_neg (by rw[hh];simp),he.again (by decide)];refine(xg (v:={ w with opq:=true,bod:=u.bod }) h.k b6 b7 b4 b5).trans ?_;have hw:=h.w;rw[ho,h0]at hw;rw[hw];simp only[b2]
theorem zH{b:Int}:∀ {ls:List (List Int)} {c:Int},c∈X.aB b ls->c=b\/∃ l∈ls,c∈l
 | [],c,h=>by simp[X.aB]at h
 | [p],c,h=>.inr ⟨p,by simp,by simpa[X.aB]using h⟩
 | p::q::r,c,h=>by
  rw[X.aB,mem_append,mem_cons]at h;rcases h with h | rfl | h
  ·exact .inr ⟨p,by simp,h⟩
  ·exact .inl rfl
  ·rcases zH h with rfl | ⟨l,hl,hc⟩
   ·exact .inl rfl
   ·exact .inr ⟨l,by simp at hl ⊢;exact .inr hl,hc⟩
theorem Qb{n:Nat}(h:n<65536){c:Int}(hc:c∈X.aU false false n):48<=c/\c<=57\/97<=c/\c<=102:=by
 unfold X.aU at hc;rw[if_neg (by simp)]at hc;obtain⟨d,hd,rfl⟩:=List.mem_map.1 hc;have:=X.yi h d hd;unfold X.dgc;split
 ·omega
 ·rw[if_neg (by simp)];omega
theorem OK{a:List Nat}(hl:a.length=8)(hs:X.Small a){c:Int}(hc:c∈X.txt a):c=58\/48<=c/\c<=57\/97<=c/\c<=102:=by
 have hj:∀ l:List Nat,(∀ v∈l,v∈a)->∀ c∈X.aB 58 (l.map (X.aU false false)),c=58\/48<=c/\c<=57\/97<=c/\c<=102:=fun l hla c hc=>by
  rcases zH hc with rfl | ⟨p,hp,hcp⟩
  ·exact .inl rfl
  ·obtain⟨v,hv,rfl⟩:=List.mem_map.1 hp;exact .inr (Qb (hs v (hla v hv)) hcp)
 rcases X.mj hl with⟨_,h,_⟩ | ⟨p,m,_,_,_,_,_,h⟩
 ·rw[h]at hc;exact hj a (fun v hv=>hv) c hc
 ·rw[h]at hc;rcases List.mem_append.1 hc with hc | hc
  ·exact hj _ (fun v hv=>List.mem_of_mem_take hv) c hc
  ·simp only[mem_cons]at hc;rcases hc with rfl | rfl | hc
   ·exact .inl rfl
   ·exact .inl rfl
   ·exact hj _ (fun v hv=>mem_of_mem_drop hv) c hc
theorem oG:∀ {x q:List Int},(∀ c∈x,c≠58/\c≠91/\c≠93)->hcut false (x++q)=(x++(hcut false q).1,(hcut false q).2)
 | [],q,_=>rfl
 | c::x,q,h=>by have hc:=h c (by simp);show hcut false (c::(x++q))=_;rw[hcut,if_neg (by simp[hc.1]),if_neg hc.2.1,if_neg hc.2.2,oG (fun d hd=>h d (by simp[hd]))];rfl
theorem zJ:∀ {x q:List Int},(∀ c∈x,c≠91/\c≠93)->hcut true (x++93::q)=(x++93::(hcut false q).1,(hcut false q).2)
 | [],q,_=>by
  show hcut true (93::q)=_;rw[hcut,if_neg (by simp),if_neg (by decide),if_pos rfl];rfl
 | c::x,q,h=>by have hc:=h c (by simp);show hcut true (c::(x++93::q))=_;rw[hcut,if_neg (by simp),if_neg hc.1,if_neg hc.2,zJ (fun d hd=>h d (by simp[hd]))];rfl
theorem GR(p:Option (List Int)):hcut false (match p with | none=>[] | some t=>58::t)=([],p):=by
 cases p with
 | none=>rfl
 | some t=>show hcut false (58::t)=_;rw[hcut,if_pos ⟨rfl,rfl⟩]
structure Hk(t:List Int):Prop where
 v:Vis t\/∀ c∈t,32<=c/\c<=126
 n:∀ c∈t,c≠47/\c≠63/\c≠35/\c≠64/\c≠92
 h:∀ q,hcut false (t++q)=(t++(hcut false q).1,(hcut false q).2)
theorem Sj:∀ n:Fin 128,H.fb (n.val:Int)=false->n.val≠47/\n.val≠63/\n.val≠35/\n.val≠64/\n.val≠92/\n.val≠58/\n.val≠91/\n.val≠93/\n.val≠32:=by decide +kernel
theorem Ms{A:List Int->List Int->Int->Prop}{sp:Bool}{h:H.Hst}(r:H.Of A sp h)(h8:h.2.2.2.1.length=8)(hs:X.Small h.2.2.2.1):Vis (H.txt h)/\Hk (H.txt h):=by
 by_cases h3:h.1=3
 ·have e:H.txt h=91::(X.txt h.2.2.2.1++[93]):=by unfold H.txt;rw[h3];rfl
  have hm:∀ c∈X.txt h.2.2.2.1,c=58\/48<=c/\c<=57\/97<=c/\c<=102:=fun c hc=>OK h8 hs hc;have hv:Vis (H.txt h):=by rw[e];refine Vis.cons (by decide) (by decide) (Vis.app (fun c hc=>?_) (Vis.cons (by decide) (by decide) Vis.nil));have:=hm c hc;omega
  refine⟨hv,⟨.inl hv,fun c hc=>?_,fun q=>?_⟩⟩
  ·rw[e]at hc;simp only[mem_cons,mem_append,List.not_mem_nil,or_false]at hc;rcases hc with rfl | hc | rfl
   ·decide
   ·have:=hm c hc;omega
   ·decide
  ·rw[e];show hcut false (91::((X.txt h.2.2.2.1++[93])++q))=_;rw[append_assoc];show hcut false (91::(X.txt h.2.2.2.1++93::q))=_;rw[hcut,if_neg (by decide),if_pos rfl,zJ (fun c hc=>by have:=hm c hc;omega)];simp
 ·have hf:=r.free h3;have hn:∀ c∈H.txt h,c≠47/\c≠63/\c≠35/\c≠64/\c≠92/\c≠58/\c≠91/\c≠93/\c≠32:=fun c hc=>by obtain⟨f1,f2,f3,_⟩:=hf c hc;obtain⟨k,rfl⟩:∃ k:Nat,c=k:=⟨c.toNat,by omega⟩;have:=Sj ⟨k,by omega⟩ f1;simp only at this;omega
  have hv:Vis (H.txt h):=fun c hc=>by have h1:=hf c hc;have h2:=hn c hc;omega
  refine⟨hv,⟨.inl hv,fun c hc=>?_,fun q=>oG (fun c hc=>?_)⟩⟩
  ·have:=hn c hc;omega
  ·have:=hn c hc;omega
theorem IN{X B:List Int}(hB:∀ c∈B,c≠64):beh (X++64::B)=B/\ahd (X++64::B)=X:=by
 unfold beh ahd;have e:(X++64::B).reverse=B.reverse++64::X.reverse:=by simp
 obtain⟨e1,e2⟩:=bW (f:=oe) (p:=B.reverse) (q:=64::X.reverse) (fun c hc=>by unfold oe;exact decide_eq_true (hB c (List.mem_reverse.1 hc))) (.inr ⟨64,_,rfl,by decide⟩);rw[e,e1,e2];simp
theorem Nx{B:List Int}(hB:∀ c∈B,c≠64):beh B=B:=by unfold beh;obtain⟨e1,_⟩:=bW (f:=oe) (p:=B.reverse) (q:=[]) (fun c hc=>by unfold oe;exact decide_eq_true (hB c (List.mem_reverse.1 hc))) (.inl rfl);rw[append_nil]at e1;rw[e1,List.reverse_reverse]
theorem En.five{x:List Int}(h:En 5 x):Vis x/\∀ c∈x,c≠47/\c≠63/\c≠35/\c≠64/\c≠92/\c≠58:=by refine⟨h.vis (by decide) (by decide),fun c hc=>?_⟩;have no:∀ d:Int,E.inS d 5=true->d≠37->c≠d:=fun d h1 h2 e=>h.no (by decide) h1 h2 (e ▸ hc);exact⟨no 47 (by decide) (by decide),no 63 (by decide) (by decide),no 35 (by decide) (by decide),no 64 (by decide) (by decide),no 92 (by decide) (by decide),no 58 (by decide) (by decide)⟩
theorem Da{a b:List Int}(ha:En 5 a)(hb:En 5 b):E.en 5 (U.dec ((a++(if b=[] then [] else 58::b)).takeWhile dq))=a/\E.en 5 (U.dec (((a++(if b=[] then [] else 58::b)).dropWhile dq).drop 1))=b:=by
 have h5:=ha.five
 obtain⟨e1,e2⟩:=bW (f:=dq) (p:=a) (q:=if b=[] then [] else 58::b) (fun c hc=>by unfold dq;exact decide_eq_true (h5.2 c hc).2.2.2.2.2) (by
   by_cases h:b=[]
   · exact .inl (if_pos h)
   · exact .inr ⟨58,b,if_neg h,by decide⟩)
 rw[e1,e2,ha.again (by decide)];refine⟨rfl,?_⟩;by_cases h:b=[]
 ·rw[if_pos h,h];rfl
 ·rw[if_neg h];show E.en 5 (U.dec b)=b;exact hb.again (by decide)
structure Ak(sp:Bool)(o:Option Nat)(u:Ur):Prop where
 ue:En 5 u.usr
 pe:En 5 u.pas
 po:u.hp=true/\u.prt<=65535/\o≠some u.prt\/u.hp=false/\u.prt=0
 hk:Vis (H.txt (u.hst.1,u.hst.2.1,u.hst.2.2.1,u.hst.2.2.2,0))/\Hk (H.txt (u.hst.1,u.hst.2.1,u.hst.2.2.1,u.hst.2.2.2,0))
 ne:H.txt (u.hst.1,u.hst.2.1,u.hst.2.2.1,u.hst.2.2.2,0)=[]->sp=false/\u.usr=[]/\u.pas=[]/\u.hp=false
theorem Oq{n:Nat}(h:n<=65535):(F.wr 10 n).all F.ten=true/\F.vl 10 (F.wr 10 n)=n/\F.wr 10 n≠[]:=by
 have hw:=F.js (b:=10) (n:=n) (by decide) (by decide) (Nat.lt_of_le_of_lt h (by decide));refine⟨F.mK (b:=10) (by decide) hw.1,hw.2,fun e=>?_⟩;by_cases hn:n=0
 ·rw[hn]at e;exact absurd e (by decide)
 ·have h1:=hw.2;rw[e]at h1;exact hn h1.symm
theorem Fm{sp:Bool}{o:Option Nat}{u:Ur}(h:Ak sp o u):Vis (otx u)/\(∀ c∈otx u,c≠47/\c≠63/\c≠35/\c≠64/\c≠92)/\por o (hcut false (otx u)).2=some (u.hp,u.prt)/\(hcut false (otx u)).1=[]:=by
 unfold otx;rcases h.po with⟨h1,h2,h3⟩ | ⟨h1,h2⟩
 ·have hw:=Oq h2;have hd:∀ c∈F.wr 10 u.prt,48<=c/\c<=57:=fun c hc=>by have:=List.all_eq_true.1 hw.1 c hc;unfold F.ten at this;exact of_decide_eq_true this
  rw[if_pos h1];have hc:=GR (some (F.wr 10 u.prt));simp only at hc;rw[hc];refine⟨Vis.cons (by decide) (by decide) (fun c hc=>by have:=hd c hc;omega),fun c hc=>?_,?_,rfl⟩
  ·rcases List.mem_cons.1 hc with rfl | hc
   ·decide
   ·have:=hd c hc;omega
  ·show por o (some (F.wr 10 u.prt))=_;simp only[por];rw[if_neg hw.2.2,if_pos ⟨hw.1,by rw[hw.2.1];exact h2⟩,hw.2.1,if_neg h3,h1]
 ·rw[if_neg (by rw[h1];simp)];refine⟨Vis.nil,by simp,?_,rfl⟩;rw[h1,h2];rfl
theorem Oy{sp:Bool}{o:Option Nat}{u:Ur}(h:Ak sp o u):Vis (utx u)/\∀ c∈utx u,c≠47/\c≠63/\c≠35/\c≠92:=by
 unfold utx;have h1:=h.ue.five;have h2:=h.pe.five;split
 ·exact⟨Vis.nil,by simp⟩
 ·constructor
  ·refine Vis.app h1.1 (Vis.app ?_ (Vis.cons (by decide) (by decide) Vis.nil));split
   ·exact Vis.nil
   ·exact Vis.cons (by decide) (by decide) h2.1
  ·intro c hc;rcases List.mem_append.1 hc with hc | hc
   ·have:=h1.2 c hc;omega
   ·rcases List.mem_append.1 hc with hc | hc
    ·split at hc
     ·simp at hc
     ·rcases List.mem_cons.1 hc with rfl | hc
      ·decide
      ·have:=h2.2 c hc;omega
    ·rw[List.mem_singleton.1 hc];decide
def atx(u:Ur):List Int:=utx u++(H.txt (u.hst.1,u.hst.2.1,u.hst.2.2.1,u.hst.2.2.2,0)++otx u)
theorem QT{sp:Bool}{o:Option Nat}{u:Ur}(h:Ak sp o u):Vis (atx u)/\∀ c∈atx u,c≠47/\c≠63/\c≠35/\c≠92:=by
 have h1:=Oy h;have h2:=Fm h;refine⟨Vis.app h1.1 (Vis.app h.hk.1 h2.1),fun c hc=>?_⟩;rcases List.mem_append.1 hc with hc | hc
 ·exact h1.2 c hc
 ·rcases List.mem_append.1 hc with hc | hc
  ·have:=h.hk.2.n c hc;omega
  ·have:=h2.2.1 c hc;omega
theorem Cx{m:List Int}{u:Ur}{h:H.Hst}(k:Ak (own m).isSome (own m) u)(h0:h=(u.hst.1,u.hst.2.1,u.hst.2.2.1,u.hst.2.2.2,0)):
  ask (own m).isSome (atx u)=some (H.txt h)/\ath m (atx u) h=({ zu with sch:=m,usr:=u.usr,pas:=u.pas,hh:=true,hst:=u.hst,hp:=u.hp,prt:=u.prt },0):=by
 have ho:=Fm k
 have hB:∀ c∈H.txt (u.hst.1,u.hst.2.1,u.hst.2.2.1,u.hst.2.2.2,0)++otx u,c≠64:=fun c hc=>by
  rcases List.mem_append.1 hc with hc | hc
  ·exact(k.hk.2.n c hc).2.2.2.1
  ·exact(ho.2.1 c hc).2.2.2.1
 have hcut0:=k.hk.2.h (otx u);rw[ho.2.2.2,append_nil]at hcut0;rw[<-h0]at hB hcut0;have hne:=k.ne;rw[<-h0]at hne;have hat:atx u=utx u++(H.txt h++otx u):=by unfold atx;rw[h0]
 have hbeh:beh (atx u)=H.txt h++otx u/\(64∈atx u->H.txt h≠[])/\((if 64∈atx u then E.en 5 (U.dec ((ahd (atx u)).takeWhile dq)) else [])=u.usr/\(if 64∈atx u then E.en 5 (U.dec (((ahd (atx u)).dropWhile dq).drop 1)) else [])=u.pas):=by
  rw[hat];by_cases hu:u.usr=[]/\u.pas=[]
  ·have e:utx u=[]:=by unfold utx;rw[if_pos hu]
   rw[e,nil_append];have h64:¬ 64∈H.txt h++otx u:=fun hm=>hB 64 hm rfl;rw[if_neg h64,if_neg h64];exact⟨Nx hB,fun hm=>absurd hm h64,hu.1.symm,hu.2.symm⟩
  ·have e:utx u++(H.txt h++otx u)=(u.usr++(if u.pas=[] then [] else 58::u.pas))++64::(H.txt h++otx u):=by unfold utx;rw[if_neg hu];simp
   rw[e];obtain⟨e1,e2⟩:=IN (X:=u.usr++(if u.pas=[] then [] else 58::u.pas)) hB;have h64:64∈(u.usr++(if u.pas=[] then [] else 58::u.pas))++64::(H.txt h++otx u):=by simp
   rw[if_pos h64,if_pos h64,e1,e2];refine⟨rfl,fun _ hn=>hu ?_,Da k.ue k.pe⟩;have:=hne hn;exact⟨this.2.1,this.2.2.1⟩
 obtain⟨hb1,hb2,hb3,hb4⟩:=hbeh
 have hask:ask (own m).isSome (atx u)=some (H.txt h):=by
  unfold ask;rw[hb1,hcut0]
  rw[if_neg (fun q=>by
    have h1:=hb2 q.1
    exact h1 (List.append_eq_nil_iff.1 q.2).1),if_neg (fun q=>by
    have h1:=hne q.1
    rcases q.2 with q2 | q2
    · have hx:otx u=[]:=by unfold otx;rw[if_neg (by rw[h1.2.2.2];simp)]
      rw[hx]at q2
      cases q2
    · rw[h1.1]at q2;cases q2)]
 refine⟨hask,?_⟩;unfold ath;rw[hask,if_neg (by simp),if_neg (by rw[h0];simp),hb1,hcut0];simp only;rw[ho.2.2.1];simp only;rw[hb3,hb4,h0]
theorem zY{l:List Int}(h:Vis l):cln l=l:=Iu (fun c hc=>by have:=h c hc;omega) (fun c hc=>(h c (List.mem_of_mem_head? hc)).1) (fun c hc=>(h c (mem_of_getLast? hc)).1)
theorem Sg.vis{m:List Int}(h:Sg m):Vis m/\m≠[]:=by obtain⟨c,t,rfl,h1,h2,ht⟩:=h;exact⟨Vis.cons (by omega) (by omega) (fun d hd=>(ht d hd).2.2),by simp⟩
theorem GP:∀(l:List Int) (b:Bool),hcut b l=([],none)->l=[]
 | [],_,_=>rfl
 | c::t,b,h=>by rw[hcut]at h;split at h <;> cases h
theorem Cv{a:List Int}(hb:U.Bytes a):U.Bytes (ahd a):=fun c hc=>by unfold ahd at hc;exact hb c (List.mem_reverse.1 (dJ (mem_of_mem_drop (List.mem_reverse.1 hc))))
theorem sq{h:H.Hst}(h0:h.2.2.2.2=0):h=(h.1,h.2.1,h.2.2.1,h.2.2.2.1,0):=by obtain⟨a,b,c,d,e⟩:=h;simp only at h0;rw[h0]
theorem Mr{A:List Int->List Int->Int->Prop}{x:List Int}{h:H.Hst}(hp:H.HP A x false h)(h0:h.2.2.2.2=0)(hk:h.1=0):x=[]:=by
 unfold H.HP at hp;split at hp
 ·rw[hp]at h0;cases h0
 split at hp
 ·unfold H.six at hp;split at hp
  ·cases hx:X.prs ((x.drop 1).dropLast) with
   | none=>rw[hx]at hp;rw[hp]at h0;cases h0
   | some a=>rw[hx]at hp;rw[hp]at hk;cases hk
  ·rw[hp]at h0;cases h0
 split at hp
 ·unfold H.opq at hp;split at hp
  ·rw[hp]at h0;cases h0
  ·split at hp
   ·assumption
   ·rw[hp]at hk;cases hk
 ·rename_i hf;exact absurd rfl hf
theorem QU{A:List Int->List Int->Int->Prop}(hA:H.Asc A){m a x:List Int}{h:H.Hst}(hb:U.Bytes a)(hx:ask (own m).isSome a=some x)(hp:H.HP A x (own m).isSome h)(he:(ath m a h).2=0)(hl:(H.txt h).length<=4096):
  ∃ u,ath m a h=({ zu with sch:=m,usr:=u.usr,pas:=u.pas,hh:=true,hst:=u.hst,hp:=u.hp,prt:=u.prt },0)/\Ak (own m).isSome (own m) u/\h=(u.hst.1,u.hst.2.1,u.hst.2.2.1,u.hst.2.2.2,0)/\H.HP A (H.txt h) (own m).isSome h:=by
 have hxb:U.Bytes x:=by
  intro c hc
  have hxe:x=(hcut false (beh a)).1:=by
   unfold ask at hx;split at hx
   ·cases hx
   ·split at hx
    ·cases hx
    ·exact(Option.some.inj hx).symm
  have hin:∀(l:List Int) (b:Bool),∀ c∈(hcut b l).1,c∈l:=by
   intro l
   induction l with
   | nil=>intro b c hc;simp[hcut]at hc
   | cons d t ih =>
    intro b c hc;rw[hcut]at hc;split at hc
    ·simp at hc
    ·rcases List.mem_cons.1 hc with rfl | hc
     ·simp
     ·exact List.mem_cons_of_mem _ (ih _ c hc)
  rw[hxe]at hc;have h1:=hin _ _ c hc;unfold beh at h1;exact hb c (List.mem_reverse.1 (cg (List.mem_reverse.1 h1)).2)
 unfold ath at he ⊢;rw[if_neg (by rw[hx];simp)]at he ⊢;by_cases h0:h.2.2.2.2=0
 ·rw[if_neg (by simp[h0])]at he ⊢;have hr:=H.HP.Em hA hxb hp h0 hl (fun l a h=>⟨X.rS h,X.qj h⟩);have hfi:=H.HP.fine hp;cases hq:por (own m) (hcut false (beh a)).2 with
  | none=>rw[hq]at he;cases he
  | some q =>
   simp only;refine⟨{ zu with usr:=if 64∈a then E.en 5 (U.dec ((ahd a).takeWhile dq)) else [],pas:=if 64∈a then E.en 5 (U.dec (((ahd a).dropWhile dq).drop 1)) else [],hst:=(h.1,h.2.1,h.2.2.1,h.2.2.2.1),hp:=q.1,prt:=q.2 },rfl,?_,sq h0,hr.same⟩;have hab:=Cv hb
   have hno:H.txt h=[]->(own m).isSome=false/\¬ 64∈a/\(hcut false (beh a)).2=none:=fun ht=>by
    have hk:=hr.none.2 ht
    have hsp:(own m).isSome=false:=by
     cases hs:(own m).isSome with
     | false=>rfl
     | true=>exact absurd hk (hr.kind.2.2 hs)
    rw[hsp]at hp hx;have hx0:=Mr hp h0 hk;unfold ask at hx;split at hx
    ·cases hx
    ·rename_i n1;split at hx
     ·cases hx
     ·rename_i n2;have e1:(hcut false (beh a)).1=[]:=by rw[Option.some.inj hx];exact hx0
      have e2:(hcut false (beh a)).2=none:=by
       cases hz:(hcut false (beh a)).2 with
       | none=>rfl
       | some z=>exact absurd ⟨e1,.inl (by rw[hz];rfl)⟩ n2
      refine⟨hsp,fun h64=>n1 ⟨h64,GP _ false (Prod.ext e1 e2)⟩,e2⟩
   have ht:H.txt (h.1,h.2.1,h.2.2.1,h.2.2.2.1,0)=H.txt h:=by rw[<-sq h0]
   refine⟨?_,?_,?_,?_,?_⟩
   ·show En 5 (if 64∈a then _ else []);split
    ·exact En.of (fV hab)
    ·exact En.nil 5
   ·show En 5 (if 64∈a then _ else []);split
    ·exact En.of (fun c hc=>hab c (dJ (mem_of_mem_drop hc)))
    ·exact En.nil 5
   ·show q.1=true/\q.2<=65535/\own m≠some q.2\/q.1=false/\q.2=0;cases hz:(hcut false (beh a)).2 with
    | none=>rw[hz]at hq;cases hq;exact .inr ⟨rfl,rfl⟩
    | some p =>
     rw[hz]at hq;simp only[por]at hq;split at hq
     ·cases hq;exact .inr ⟨rfl,rfl⟩
     ·split at hq
      ·rename_i hd;split at hq
       ·cases hq;exact .inr ⟨rfl,rfl⟩
       ·rename_i ho;cases hq;exact .inl ⟨rfl,hd.2,ho⟩
      ·cases hq
   ·show Vis (H.txt (h.1,h.2.1,h.2.2.1,h.2.2.2.1,0))/\Hk (H.txt (h.1,h.2.1,h.2.2.1,h.2.2.2.1,0));rw[ht];exact Ms hr hfi.a hfi.s
   ·intro hn;have hn':H.txt h=[]:=by rw[<-ht];exact hn
    obtain⟨n1,n2,n3⟩:=hno hn';refine⟨n1,if_neg n2,if_neg n2,?_⟩;show q.1=false;rw[n3]at hq;cases hq;rfl
 ·rw[if_pos (by simpa using h0)]at he;exact absurd he h0
theorem Hv{x:List Int}(hb:U.Bytes x)(h:∀ c,x.getLast? = some c->33<=c){y:Int}(hy:(E.en 0 (U.dec x)).getLast? = some y):33<=y:=by
 have hs:∀ c∈U.dec x,U.ab c=true:=List.all_eq_true.1 (U.bJ x.length x (le_refl _) hb);rcases List.eq_nil_or_concat (U.dec x) with hd | ⟨L,c,hd⟩
 ·rw[hd]at hy;cases hy
 ·rw[List.concat_eq_append]at hd
  have hc:33<=c:=by
   by_cases h128:c<128
   ·exact h c (vT x.length x (le_refl _) hb c (by rw[hd];simp) h128)
   ·omega
  rw[hd,E.zR,getLast?_append]at hy;have hsc:=hs c (by rw[hd];simp);by_cases hin:E.inS c 0=true
  ·obtain⟨b,t,hbt,_⟩:=jf hsc
   have hz:∀ z∈E.tok 0 c,33<=z:=fun z hz=>by
    rcases Ht (k:=0) (L:=[c]) (fun d hd=>by rw[List.mem_singleton.1 hd];exact hsc) (y:=z) (by simpa[E.en]using hz) with⟨h1,_⟩ | h1 | h1
    ·rw[List.mem_singleton.1 h1];exact hc
    ·omega
    ·omega
   cases hl:(E.tok 0 c).getLast? with
   | none =>
    have:=List.getLast?_eq_none_iff.1 hl;exact absurd this (H.Dp 0 c hsc)
   | some z =>
    rw[hl]at hy;have:z=y:=by simpa using hy
    rw[<-this];exact hz z (mem_of_getLast? hl)
  ·have hbd:=E.lA (k:=0) (by decide) (by simpa using hin);have e:E.tok 0 c=[c]:=by unfold E.tok;rw[if_neg hin,E.bR (by omega)]
   rw[e]at hy;have:c=y:=by simpa using hy
   omega
theorem AQ{sp has:Bool}{w u:Ur}(h:Tk sp has w u)(ho:u.opq=false):ptx u++qtx u=[]\/∃ d r,ptx u++qtx u=d::r/\nau sp d=false:=by
 rw[dS ho];cases hp:u.pth with
 | nil =>
  rcases kq u with e | ⟨d,r,e,hd⟩
  ·exact .inl (by rw[e];rfl)
  ·refine .inr ⟨d,r,by rw[e];rfl,?_⟩;unfold nau;unfold npq at hd;have:qm d=true:=by simpa using hd
   rw[this];simp
 | cons p t=>exact .inr ⟨47,p++(t.flatMap (fun p=>(47:Int)::p)++qtx u),by simp,by cases sp <;> decide⟩
theorem Em{A:List Int->List Int->Int->Prop}(hA:H.Asc A){s:List Int}(hs:U.Bytes s){u:Ur}(x:UP A s (u,0))(hl:(txt u).length<=4096):UP A (txt u) (u,0):=by
 unfold UP at x;split at x
 ·exact absurd (congrArg Prod.snd x) (show ¬ (0:Int)=4 by decide)
 obtain⟨h,hq,hr⟩:=x;have hcb:=qX hs;have hcl:∀ b,(cln s).getLast? = some b->33<=b:=fun b hb=>It hs hb;unfold UP;rw[if_neg (by omega)];generalize cln s=l at *;cases hsc:sch l with
 | none=>unfold rdc at hr;rw[hsc]at hr;exact absurd (congrArg Prod.snd hr) (show ¬ (0:Int)=130 by decide)
 | some mr =>
  obtain⟨m,r⟩:=mr;obtain⟨hsg,pr,hpr⟩:=wZ hsc;have hmv:=hsg.vis;have hrb:U.Bytes r:=fun b hb=>hcb b (by rw[hpr];simp[hb]);unfold rdc at hr;unfold hqy at hq;rw[hsc]at hr hq;simp only at hr hq;by_cases hnf:m=cA
  ·rw[if_pos hnf]at hr;exact absurd (congrArg Prod.snd hr) (show ¬ (0:Int)=130 by decide)
  rw[if_neg hnf]at hr hq;cases hau:aus m r with
  | none =>
   rw[hau]at hr;simp only at hr;have hu:u=tl false false { zu with sch:=m } r:=congrArg Prod.fst hr
   have hown:(own m).isSome=false/\r.take 2≠[47,47]:=by
    unfold aus at hau;split at hau
    ·cases hau
    ·rename_i h1;split at hau
     ·cases hau
     ·rename_i h2;exact⟨by simpa using h1,h2⟩
   have hbare:Jl { zu with sch:=m }:=⟨rfl,rfl,rfl,rfl,rfl,rfl,rfl⟩;obtain⟨htk,hbo⟩:=NN (sp:=false) (has:=false) hrb hbare;rw[<-hu]at htk hbo;have hsch:u.sch=m:=by rw[htk.w]
   have hhh:u.hh=false:=by rw[htk.w];rfl
   have hpre:htx u=[]\/htx u=[47,46]/\u.pth≠[]:=by
    unfold htx;rw[if_neg (by rw[hhh];simp)];split
    ·rename_i h1;exact .inr ⟨rfl,fun e=>by rw[e]at h1;simp at h1⟩
    ·exact .inl rfl
   have htx2:txt u=m++58::(htx u++(ptx u++qtx u)):=by unfold txt;rw[hsch]
   have hpv:Vis (htx u):=by
    rcases hpre with e | ⟨e,_⟩
    ·rw[e];exact Vis.nil
    ·rw[e];exact Vis.cons (by decide) (by decide) (Vis.cons (by decide) (by decide) Vis.nil)
   have hclean:cln (txt u)=txt u:=by
    rw[htx2];cases ho:u.opq with
    | false=>exact zY (Vis.app hmv.1 (Vis.cons (by decide) (by decide) (Vis.app hpv (Vis.app (htk.vis ho) htk.k.vis))))
    | true =>
     have hpt:ptx u=u.bod:=by unfold ptx;rw[if_pos ho]
     have hht:htx u=[]:=by unfold htx;rw[if_neg (by rw[hhh];simp),if_neg (by rw[ho];simp)]
     have hbe:En 0 u.bod:=by
      rcases htk.c with⟨c1,_⟩ | ⟨c1,_⟩ | ⟨_,_,_,_,c5,_⟩
      ·rw[ho]at c1;cases c1
      ·rw[ho]at c1;cases c1
      ·exact c5
     rw[hpt,hht,nil_append];have hqv:=htk.k.vis;refine Iu (fun c hc=>?_) (fun c hc=>?_) (fun c hc=>?_)
     ·rcases List.mem_append.1 hc with hc | hc
      ·have:=hmv.1 c hc;omega
      ·rcases List.mem_cons.1 hc with rfl | hc
       ·decide
       ·rcases List.mem_append.1 hc with hc | hc
        ·have:=hbe.signs (by decide) c hc;omega
        ·have:=hqv c hc;omega
     ·cases hm:m with
      | nil=>exact absurd hm hmv.2
      | cons a t =>
       rw[hm]at hc;have:a=c:=by simpa using hc
       rw[<-this];exact(hmv.1 a (by rw[hm];simp)).1
     ·rw[show m++58::(u.bod++qtx u)=(m++[58])++(u.bod++qtx u) by simp,getLast?_append,getLast?_append]at hc;cases hqt:(qtx u).getLast? with
      | some z =>
       rw[hqt]at hc;have:z=c:=by simpa using hc
       rw[<-this];exact(hqv z (mem_of_getLast? hqt)).1
      | none =>
       have hq0:qtx u=[]:=List.getLast?_eq_none_iff.1 hqt;rw[hqt]at hc;cases hbl:u.bod.getLast? with
       | none =>
        rw[hbl]at hc;have:58=c:=by simpa using hc
        omega
       | some z =>
        rw[hbl]at hc;have hzc:z=c:=by simpa using hc
        rw[<-hzc];have hb2:=hbo ho hq0;rw[hb2]at hbl;refine Hv hrb (fun d hd=>hcl d ?_) hbl;rw[hpr,show pr++58::r=(pr++[58])++r by simp,getLast?_append,hd];rfl
   rw[hclean]
   have haus:aus m (htx u++(ptx u++qtx u))=none:=by
    unfold aus;rw[if_neg (by rw[hown.1];simp),if_neg ?_];intro h47;rcases htk.c with⟨ho,_,hne,hpc⟩ | ⟨_,_,_,c4,_⟩ | ⟨ho,h0,_,_,_,hn,hhd⟩
    ·rw[dS ho]at h47;cases hp:u.pth with
     | nil=>exact absurd hp hne
     | cons p t =>
      rw[hp]at h47;cases hp1:p with
      | nil =>
       cases t with
       | nil =>
        have hh0:htx u=[]:=by unfold htx;rw[if_neg (by rw[hhh];simp),if_neg (by rw[hp];simp)]
        rw[hh0,hp1]at h47;rcases kq u with e | ⟨d,r',e,hd⟩
        ·rw[e]at h47;simp at h47
        ·rw[e]at h47;have:d=47:=by simpa using h47
         rw[this]at hd;exact absurd hd (by decide)
       | cons q t =>
        have hh0:htx u=[47,46]:=by unfold htx;rw[if_neg (by rw[hhh];simp),if_pos ⟨ho,by rw[hp];simp,by rw[hp,hp1];rfl⟩]
        rw[hh0]at h47;simp at h47
      | cons c p' =>
       have hh0:htx u=[]:=by unfold htx;rw[if_neg (by rw[hhh];simp),if_neg (by rw[hp,hp1];simp)]
       rw[hh0,hp1]at h47;have hc:c=47:=by simpa using h47
       have:=(hpc p (by rw[hp];simp)).s c (by rw[hp1];simp);rw[hc]at this;exact absurd this (by decide)
    ·cases c4
    ·have hpt:ptx u=u.bod:=by unfold ptx;rw[if_pos ho]
     have hh0:htx u=[]:=by unfold htx;rw[if_neg (by rw[hhh];simp),if_neg (by rw[ho];simp)]
     rw[hh0,hpt,nil_append]at h47;cases hbd:u.bod with
     | nil =>
      rw[hbd]at h47;rcases kq u with e | ⟨d,r',e,hd⟩
      ·rw[e]at h47;simp at h47
      ·rw[e]at h47;cases r' with
       | nil=>simp at h47
       | cons d' r'' =>
        have:d=47:=by have:=congrArg (fun z:List Int=>z.head?) h47;simpa using this
        rw[this]at hd;exact absurd hd (by decide)
     | cons c b' =>
      rw[hbd]at h47 hhd;have hc:c=47:=by have:=congrArg (fun z:List Int=>z.head?) h47;simpa using this
      exact hhd (by rw[hc];rfl)
   have hrd:sch (txt u)=some (m,htx u++(ptx u++qtx u)):=by rw[htx2];exact yW hsg
   refine⟨h,fun y sp hy=>?_,?_⟩
   ·unfold hqy at hy;rw[hrd]at hy;simp only at hy;rw[if_neg hnf,haus]at hy;cases hy
   ·unfold rdc;rw[hrd];simp only;rw[if_neg hnf,haus];simp only;rw[tu hbare htk (htx u) hpre]
  | some b =>
   rw[hau]at hr hq;simp only at hr hq
   have hbb:U.Bytes b:=by
    unfold aus at hau;split at hau
    ·cases hau;exact fun c hc=>hrb c (dJ hc)
    ·split at hau
     ·cases hau;exact fun c hc=>hrb c (mem_of_mem_drop hc)
     ·cases hau
   have hne0:(ath m (b.takeWhile (nau (own m).isSome)) h).2=0:=by
    by_cases he:(ath m (b.takeWhile (nau (own m).isSome)) h).2=0
    ·exact he
    ·rw[if_pos he]at hr;exact absurd (congrArg Prod.snd hr).symm he
   rw[if_neg (by rw[hne0];simp)]at hr;cases hask:ask (own m).isSome (b.takeWhile (nau (own m).isSome)) with
   | none =>
    unfold ath at hne0;rw[hask,if_pos rfl]at hne0;cases hne0
   | some y =>
    have hHP:=hq y (own m).isSome (by rw[hask];rfl);have hu:u=tl (own m).isSome true (ath m (b.takeWhile (nau (own m).isSome)) h).1 (b.dropWhile (nau (own m).isSome)):=congrArg Prod.fst hr;have hdb:U.Bytes (b.dropWhile (nau (own m).isSome)):=fun c hc=>hbb c (dJ hc)
    have hb0:Jl (ath m (b.takeWhile (nau (own m).isSome)) h).1:=by
     unfold ath
     (repeat' split) <;> exact⟨rfl,rfl,rfl,rfl,rfl,rfl,rfl⟩
    obtain⟨htk,_⟩:=NN (sp:=(own m).isSome) (has:=true) hdb hb0;rw[<-hu]at htk
    have hh00:h.2.2.2.2=0:=by
     unfold ath at hne0;rw[if_neg (by rw[hask];simp)]at hne0;by_cases he:h.2.2.2.2=0
     ·exact he
     ·rw[if_pos he]at hne0;exact absurd hne0 he
    have hlen:(H.txt h).length<=4096:=by
     have e1:(u.hst,u.hh)=((h.1,h.2.1,h.2.2.1,h.2.2.2.1),true):=by
      rw[htk.w];show((ath m (b.takeWhile (nau (own m).isSome)) h).1.hst,(ath m (b.takeWhile (nau (own m).isSome)) h).1.hh)=_;unfold ath at hne0 ⊢;rw[if_neg (by rw[hask];simp)]at hne0 ⊢;rw[if_neg (by simp[hh00])]at hne0 ⊢;cases hq2:por (own m) (hcut false (beh (b.takeWhile (nau (own m).isSome)))).2 with
      | none=>rw[hq2]at hne0;cases hne0
      | some q=>rfl
     have e2:u.hst=(h.1,h.2.1,h.2.2.1,h.2.2.2.1):=congrArg Prod.fst e1;have e3:u.hh=true:=congrArg Prod.snd e1;have hle:(H.txt (u.hst.1,u.hst.2.1,u.hst.2.2.1,u.hst.2.2.2,0)).length<=(txt u).length:=by unfold txt htx;rw[if_pos e3];simp only[List.length_append,List.length_cons];omega
     rw[e2]at hle;rw[sq hh00];exact Nat.le_trans hle hl
    obtain⟨v,hv1,hak,hhv,hsame⟩:=QU hA (fV hbb) hask hHP hne0 hlen;have hw:(ath m (b.takeWhile (nau (own m).isSome)) h).1={ zu with sch:=m,usr:=v.usr,pas:=v.pas,hh:=true,hst:=v.hst,hp:=v.hp,prt:=v.prt }:=congrArg Prod.fst hv1;rw[hw]at htk hb0;have hsch:u.sch=m:=by rw[htk.w]
    have hhh:u.hh=true:=by rw[htk.w]
    have f1:u.usr=v.usr:=by rw[htk.w]
    have f2:u.pas=v.pas:=by rw[htk.w]
    have f3:u.hst=v.hst:=by rw[htk.w]
    have f4:u.hp=v.hp:=by rw[htk.w]
    have f5:u.prt=v.prt:=by rw[htk.w]
    have hopq:u.opq=false:=by
     rcases htk.c with⟨c1,_⟩ | ⟨c1,_⟩ | ⟨_,_,c3,_⟩
     ·exact c1
     ·exact c1
     ·cases c3
    have hatx:htx u=[47,47]++atx v:=by unfold htx atx utx otx;rw[if_pos hhh,f1,f2,f3,f4,f5]
    have htx2:txt u=m++58::([47,47]++(atx v++(ptx u++qtx u))):=by unfold txt;rw[hsch,hatx,append_assoc]
    have hao:=QT hak;have hvis:Vis (txt u):=by rw[htx2];exact Vis.app hmv.1 (Vis.cons (by decide) (by decide) (Vis.app (Vis.cons (by decide) (by decide) (Vis.cons (by decide) (by decide) Vis.nil)) (Vis.app hao.1 (Vis.app (htk.vis hopq) htk.k.vis))))
    rw[zY hvis];obtain⟨k1,k2⟩:=Cx (m:=m) (h:=h) hak hhv
    obtain⟨t1,t2⟩:=bW (f:=nau (own m).isSome) (p:=atx v) (q:=ptx u++qtx u) (fun c hc=>by
      have:=hao.2 c hc
      unfold nau sl qm
      cases (own m).isSome <;> simp <;> omega) (AQ htk hopq)
    have haus:aus m ([47,47]++(atx v++(ptx u++qtx u)))=some (atx v++(ptx u++qtx u)):=by
     unfold aus;by_cases hsp:(own m).isSome=true
     ·rw[if_pos hsp]
      have hne:atx v≠[]:=fun e=>by
       have h1:H.txt (v.hst.1,v.hst.2.1,v.hst.2.2.1,v.hst.2.2.2,0)=[]:=by unfold atx at e;exact(List.append_eq_nil_iff.1 (List.append_eq_nil_iff.1 e).2).1
       have:=(hak.ne h1).1;rw[hsp]at this;cases this
      cases hat:atx v with
      | nil=>exact absurd hat hne
      | cons c t =>
       have hc:=hao.2 c (by rw[hat];simp);have:sl true c=false:=by unfold sl;simp;omega
       simp only[List.cons_append,nil_append];rw[List.dropWhile_cons_of_pos (by decide),List.dropWhile_cons_of_pos (by decide),List.dropWhile_cons_of_neg (by rw[this];simp)]
     ·rw[if_neg hsp,if_pos (by simp)];rfl
    have hrd:sch (txt u)=some (m,[47,47]++(atx v++(ptx u++qtx u))):=by rw[htx2];exact yW hsg
    refine⟨h,fun y' sp' hy=>?_,?_⟩
    ·unfold hqy at hy;rw[hrd]at hy;simp only at hy;rw[if_neg hnf,haus]at hy;simp only at hy;rw[t1,k1]at hy;simp only[Option.map_some,Option.some.injEq,Prod.mk.injEq]at hy;obtain⟨rfl,rfl⟩:=hy;exact hsame
    ·unfold rdc;rw[hrd];simp only;rw[if_neg hnf,haus];simp only;rw[t1,t2,k2];simp only[ne_eq,not_true_eq_false,if_false];exact(congrArg (fun z:Ur=>(z,(0:Int))) (tu hb0 htk [] (.inl rfl))).symm
theorem rests_at(s:ByteArray)(w:World)(hG:GU w)(hs:s.size<=maxLen):Calls prog 4 #[.string s] w fun e W'=>e=.returned (.bool true)/\Below w.heap.size w W' :=
 xf ctr (fun s u h x hl=>Em H.asc h x hl) s w hG
end Y
end Go.Proofs.YtlmflmdmolcfhaaGreatDoor
