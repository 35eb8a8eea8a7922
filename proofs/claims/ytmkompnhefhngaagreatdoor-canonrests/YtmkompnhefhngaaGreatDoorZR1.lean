/- Contracts and plain facts. -/
import Derived.Test.YtmkompnhefhngaaGreatDoorZ8
set_option maxRecDepth 100000
set_option maxHeartbeats 16000000
set_option linter.unusedVariables false
set_option linter.unnecessarySimpa false
open List (length_append map_cons map_nil all_cons mem_of_mem_drop append_assoc mem_of_getLast? zip_cons_cons zip_nil_right mem_cons length_cons mem_append append_nil)
open Nat (le_refl zero_le pow_succ)
open Bool (and_eq_true not_eq_true)
namespace Go.Proofs.YtmkompnhefhngaaGreatDoor
open Go.Proofs.Tryz Go.RowKit
namespace F
theorem pj{n:Nat}(h:n<16):hx (dg n)=n:=by unfold hx dg;(repeat' split) <;> omega
theorem nJ{b:Nat}(h2:2<=b)(h16:b<=16):∀(f n:Nat),n<b ^ (f+1)->ok b (wrF b f n)=true/\vl b (wrF b f n)=n
 | 0,n,h=>by
  have hn:n<b:=by simpa using h
  have hm:n % b=n:=Nat.mod_eq_of_lt hn;have hd:=pj (n:=n) (by omega);rw[wrF,hm];refine⟨?_,?_⟩
  ·unfold ok ij;simp[hd];omega
  ·unfold vl;simp[hd]
 | f+1,n,h=>by
  rw[wrF];split
  ·rename_i hn;have hd:=pj (n:=n) (by omega);refine⟨?_,?_⟩
   ·unfold ok ij;simp[hd];omega
   ·unfold vl;simp[hd]
  ·rename_i hn
   have hq:n / b<b ^ (f+1):=by
    rw[Nat.div_lt_iff_lt_mul (by omega)]
    rwa [pow_succ]at h
   obtain⟨i1,i2⟩:=nJ h2 h16 f (n / b) hq;have hm:n % b<b:=Nat.mod_lt _ (by omega);have hd:=pj (n:=n % b) (by omega);refine⟨?_,?_⟩
   ·rw[sL,i1];unfold ij;simp[hd];omega
   ·rw[ke,i2,hd];have:=Nat.div_add_mod n b;simp only[Int.toNat_natCast];rw[Nat.mul_comm];exact this
theorem kv{b:Nat}(h2:2<=b):2 ^ 64<=b ^ 65:=Nat.le_trans (Nat.pow_le_pow_right (by decide) (by decide:64<=65)) (Nat.pow_le_pow_left h2 65)
theorem cS{b n:Nat}(h2:2<=b)(h16:b<=16)(hn:n<2 ^ 64):ok b (wr b n)=true/\vl b (wr b n)=n:=nJ h2 h16 64 n (Nat.lt_of_lt_of_le hn (kv h2))
theorem nK(b f n:Nat):wrF b f n≠[]:=by
 cases f with
 | zero=>simp[wrF]
 | succ f=>rw[wrF];split <;> simp
theorem nI(b n:Nat):wr b n≠[]:=nK b 64 n
theorem fV{b:Nat}(h2:2<=b)(h16:b<=16):∀(f n:Nat),n<b ^ (f+1)->0<n->(wrF b f n)[0]?.getD 0≠48
 | 0,n,h,h0=>by
  have hn:n<b:=by simpa using h
  rw[wrF,Nat.mod_eq_of_lt hn];simp;unfold dg;split <;> omega
 | f+1,n,h,h0=>by
  rw[wrF];split
  ·simp;unfold dg;split <;> omega
  ·rename_i hn
   have hq:n / b<b ^ (f+1):=by
    rw[Nat.div_lt_iff_lt_mul (by omega)]
    rwa [pow_succ]at h
   have hp:0<n / b:=Nat.div_pos (by omega) (by omega);have ih:=fV h2 h16 f (n / b) hq hp;have hl:0<(wrF b f (n / b)).length:=List.length_pos_iff.2 (nK b f _)
   rwa [List.getElem?_append_left hl]
theorem rY{b:Nat}(h:0<b):wr b 0=[48]:=by unfold wr;rw[wrF,if_pos h];rfl
theorem jO{l:List Int}{b:Nat}{r:List Int}{n:Nat}(hl:l≠[])(hb:base l=b)(hr:rest l=r)(hok:ok b r=true)(hv:vl b r=n):num l=if 4294967296<=n then (0,4) else (n,0):=by unfold num;rw[if_neg hl,hb,hr,hok,if_neg (by simp),hv]
theorem GD{r:List Int}{n:Nat}(hok:ok 16 r=true)(hv:vl 16 r=n):num (48::120::r)=if 4294967296<=n then (0,4) else (n,0):=by
 have hx:isX (48::120::r)=true:=by unfold isX;simp
 exact jO (by simp) (by unfold base;rw[if_pos hx]) (by unfold rest;rw[if_pos hx];rfl) hok hv
theorem yD{b:Nat}{r:List Int}(hr:r≠[])(hok:ok b r=true):¬ (r[0]?.getD 0=120\/r[0]?.getD 0=88):=by
 cases r with
 | nil=>exact absurd rfl hr
 | cons c r =>
  unfold ok at hok;rw[all_cons,and_eq_true]at hok;have:=of_decide_eq_true hok.1;intro h;simp at h;rcases h with rfl | rfl
  ·exact absurd this.1 (by decide)
  ·exact absurd this.1 (by decide)
theorem GI{r:List Int}{n:Nat}(hr:r≠[])(hok:ok 8 r=true)(hv:vl 8 r=n):num (48::r)=if 4294967296<=n then (0,4) else (n,0):=by
 have hg:=yD hr hok;have hl:0<r.length:=List.length_pos_iff.2 hr;have hx:isX (48::r)=false:=by unfold isX;refine decide_eq_false (fun h=>hg ?_);have:=h.2.2;simpa using this
 have ho:isO (48::r)=true:=by unfold isO;simp;omega
 exact jO (by simp) (by unfold base;rw[hx,if_neg (by simp),if_pos ho]) (by unfold rest;rw[hx,if_neg (by simp),if_pos ho];rfl) hok hv
theorem GF{r:List Int}{n:Nat}(hr:r≠[])(h0:r.length=1\/r[0]?.getD 0≠48)(hok:ok 10 r=true)(hv:vl 10 r=n):num r=if 4294967296<=n then (0,4) else (n,0):=by
 have ho:isO r=false:=by
  unfold isO;refine decide_eq_false (fun h=>?_);rcases h0 with h1 | h1
  ·omega
  ·exact h1 h.2
 have hx:isX r=false:=by unfold isX;unfold isO at ho;have:=of_decide_eq_false ho;exact decide_eq_false (fun h=>this ⟨h.1,h.2.1⟩)
 exact jO hr (by unfold base;rw[hx,ho];rfl) (by unfold rest;rw[hx,ho];rfl) hok hv
theorem kC{k n:Nat}(hn:n<2 ^ 64):num (wrt k n)=if 4294967296<=n then (0,4) else (n,0):=by
 unfold wrt;split
 ·obtain⟨h1,h2⟩:=cS (b:=16) (by decide) (by decide) hn;exact GD h1 h2
 ·split
  ·obtain⟨h1,h2⟩:=cS (b:=8) (by decide) (by decide) hn;exact GI (nI 8 n) h1 h2
  ·obtain⟨h1,h2⟩:=cS (b:=10) (by decide) (by decide) hn;refine GF (nI 10 n) ?_ h1 h2;by_cases h0:n=0
   ·left;rw[h0,rY (by decide)];rfl
   ·right;exact fV (by decide) (by decide) 64 n (Nat.lt_of_lt_of_le hn (kv (by decide))) (by omega)
end F
namespace X
open F (hx)
theorem kq(b:Int):∀(ps:List (List Int)),ps≠[]->(∀ p∈ps,¬ b∈p)->spB b (ah b ps)=ps
 | [],h,_=>absurd rfl h
 | [p],_,h=>dR b p (h p (by simp))
 | p::q::r,_,h=>by rw[ah,ko b p _ (h p (by simp)),kq b (q::r) (by simp) (fun x hx=>h x (by simp at hx ⊢;right;exact hx))]
theorem bV:∀(ps:List (List Int)),ps≠[]->(∀ p∈ps,Txt p)->ah 58 ps≠[]/\(ah 58 ps).getLast? ≠ some 58/\(ah 58 ps).head? ≠ some 58/\cc (ah 58 ps)=0
 | [],h,_=>absurd rfl h
 | [p],_,h=>by
  have hp:=h p (by simp);exact⟨hp.1,kG hp,head_ne hp,fw p hp.2⟩
 | p::q::r,_,h=>by
  have hp:=h p (by simp);obtain⟨i1,i2,i3,i4⟩:=bV (q::r) (by simp) (fun x hx=>h x (by simp at hx ⊢;right;exact hx));rw[ah];refine⟨by simp,?_,?_,?_⟩
  ·obtain⟨z,hz⟩:=Ex' (ah 58 (q::r));rw[hz]at i1 i2 ⊢;cases z with
   | nil=>exact absurd rfl i1
   | cons c t=>simpa using i2
  ·cases p with
   | nil=>exact absurd rfl hp.1
   | cons c t =>
    have:=head_ne hp;simpa using this
  ·rw[cQ,fw p hp.2];have e:(58::ah 58 (q::r))=[58]++ah 58 (q::r):=rfl;rw[e,cQ,i4];have e1:cc [58]=0:=rfl;rw[e1,if_neg (fun hh=>i3 hh.2),if_neg (fun hh=>kG hp hh.1)]
theorem cA{last:Bool}{ps:List (List Int)}(h:∀ p∈ps,Txt p):pieces last (ah 58 ps)=pcs last ps:=by
 cases hps:ps with
 | nil=>rfl
 | cons p r =>
  rw[<-hps];have hne:ps≠[]:=by rw[hps];simp
  unfold pieces;rw[if_neg (bV ps hne h).1,kq 58 ps hne (fun p hp=>(h p hp).2)]
theorem sF{ps:List (List Int)}(h:∀ p∈ps,Txt p):prs (ah 58 ps)=full (pcs true ps):=by
 have hc:cc (ah 58 ps)=0:=by
  cases hps:ps with
  | nil=>rfl
  | cons p r=>rw[<-hps];exact(bV ps (by rw[hps];simp) h).2.2.2
 unfold prs;rw[if_pos hc,cA h]
theorem sG{fs bs:List (List Int)}(hf:∀ p∈fs,Txt p)(hb:∀ p∈bs,Txt p):prs (ah 58 fs++58::58::ah 58 bs)=both (pcs false fs) (pcs true bs):=by
 have f0:cc (ah 58 fs)=0/\(ah 58 fs).getLast? ≠ some 58:=by
  cases hps:fs with
  | nil=>exact⟨rfl,by simp[ah]⟩
  | cons p r=>rw[<-hps];have:=bV fs (by rw[hps];simp) hf;exact⟨this.2.2.2,this.2.1⟩
 have b0:cc (ah 58 bs)=0/\(ah 58 bs).head? ≠ some 58:=by
  cases hps:bs with
  | nil=>exact⟨rfl,by simp[ah]⟩
  | cons p r=>rw[<-hps];have:=bV bs (by rw[hps];simp) hb;exact⟨this.2.2.2,this.2.2.1⟩
 have c1:cc (ah 58 fs++[58])=0:=by rw[cQ,f0.1,if_neg (fun hh=>f0.2 hh.1)];rfl
 have c2:cc (ah 58 fs++58::58::ah 58 bs)=1:=by
  have e:ah 58 fs++58::58::ah 58 bs=(ah 58 fs++[58])++([58]++ah 58 bs):=by simp
  rw[e,cQ,c1,cQ,b0.1,if_neg (fun hh=>b0.2 hh.2),if_pos ⟨by simp,by simp⟩];rfl
 have p1:=wY (ah 58 fs) (ah 58 bs) c1;unfold prs;rw[c2,if_neg (by decide),if_pos rfl,p1];have t1:(ah 58 fs++58::58::ah 58 bs).take (ah 58 fs).length=ah 58 fs:=List.take_left;have t2:(ah 58 fs++58::58::ah 58 bs).drop ((ah 58 fs).length+2)=ah 58 bs:=by rw[<-List.drop_drop,List.drop_left];rfl
 rw[t1,t2,cA hf,cA hb]
open F (hx)
theorem pC{cap nts:Bool}{n:Nat}(h:n<65536):dt (aM cap nts n)=none:=by unfold dt;rw[dR 46 _ (fun hm=>by have:=kP h hm;omega)];show kS [dn (aM cap nts n)]=none;cases dn (aM cap nts n) <;> rfl
theorem sW{last cap nts:Bool}{n:Nat}(h:n<65536):lst last (aM cap nts n)=some [n]:=by unfold lst;rw[pC h,jb h];cases last <;> rfl
theorem ea{last cap nts:Bool}:∀(vs:List Nat),(∀ v∈vs,v<65536)->pcs last (vs.map (aM cap nts))=some vs
 | [],_=>rfl
 | [v],h=>sW (h v (by simp))
 | v::u::r,h=>by have ih:=ea (last:=last) (cap:=cap) (nts:=nts) (u::r) (fun x hx=>h x (by simp at hx ⊢;right;exact hx));show put (pc (aM cap nts v)) (pcs last ((u::r).map (aM cap nts)))=_;rw[ih,jb (h v (by simp))];rfl
theorem Small.take{a:List Nat}(h:Small a)(i:Nat):Small (a.take i):=fun v hv=>h v (List.mem_of_mem_take hv)
theorem Small.drop{a:List Nat}(h:Small a)(i:Nat):Small (a.drop i):=fun v hv=>h v (mem_of_mem_drop hv)
theorem gL{cap nts:Bool}{a:List Nat}(h:Small a):∀ p∈a.map (aM cap nts),Txt p:=fun p hp=>by obtain⟨v,hv,rfl⟩:=List.mem_map.1 hp;exact kO (h v hv)
theorem ou{cap nts:Bool}{a:List Nat}(h:Small a):prs (ah 58 (a.map (aM cap nts)))=if a.length=8 then some a else none:=by rw[sF (gL h),ea a h];rfl
theorem ov{cap nts:Bool}{f b:List Nat}(hf:Small f)(hb:Small b):prs (ah 58 (f.map (aM cap nts))++58::58::ah 58 (b.map (aM cap nts)))=if f.length+b.length<=7 then some (f++List.replicate (8 - b.length - f.length) 0++b) else none:=by rw[sG (gL hf) (gL hb),ea f hf,ea b hb];rfl
theorem nC{a:List Nat}{i k:Nat}(hl:a.length=8)(hik:i<=k)(hk:k<=8)(hz:∀ j,i<=j->j<k->a[j]?.getD 1=0):a.take i++List.replicate (k - i) 0++a.drop k=a:=by
 apply List.ext_getElem?;intro j;by_cases h1:j<i
 ·rw[append_assoc,List.getElem?_append_left (by simp;omega),List.getElem?_take,if_pos h1]
 ·by_cases h2:j<k
  ·rw[append_assoc,List.getElem?_append_right (by simp;omega),List.getElem?_append_left (by simp;omega)];have h3:j<a.length:=by omega
   have:=hz j (by omega) h2;rw[List.getElem?_eq_getElem h3]at this ⊢;simp at this;rw[this,List.getElem?_replicate,if_pos (by simp;omega)]
  ·rw[List.getElem?_append_right (by simp;omega),List.getElem?_drop];congr 1;simp;omega
theorem sE{a:List Nat}(hl:a.length=8)(hs:Small a):prs (txt a)=some a:=by
 rcases iS hl with⟨_,h,_⟩ | ⟨p,m,_,_,h2,h8,hz,h⟩
 ·rw[h,ou hs,if_pos hl]
 ·rw[h,ov (hs.take p) (hs.drop (p+m))];rw[List.length_take,List.length_drop,if_pos (by omega)];have:=nC (a:=a) (i:=p) (k:=p+m) hl (by omega) h8 (fun j h3 h4=>hz j h3 h4);rw[show 8 - (a.length - (p+m)) - min p a.length=p+m - p by omega,this]
end X
namespace U
open Go.RowKit Go.Shelf
attribute [local go_sem] Oper.semAt_some
def val(l:List Int):Bool:=(scl l).all fun x=>x.1.2
theorem nO(l:List Int)(h:l≠[])(hl:Bytes l):val l=((nx l).2.2&&val (l.drop (nx l).2.1)):=by unfold val;rw[kt l h,all_cons,mM l hl]
theorem back:∀(zs:List Int),zs.all ar=true->dec (aj zs)=zs/\val (aj zs)=true
 | [],_=>⟨rfl,rfl⟩
 | c::t,h=>by
  rw[all_cons,and_eq_true]at h;have ih:=back t h.2;have e:aj (c::t)=enc c++aj t:=by simp[aj]
  have hx:=sN c h.1 (aj t);have hlen:=eA c;have hne:enc c++aj t≠[]:=fun hh=>by have:=congrArg List.length hh;rw[length_append,List.length_nil]at this;omega
  have hb:Bytes (enc c++aj t):=fun b hb=>(List.mem_append.1 hb).elim (cL c (by have:=h.1;unfold ar at this;rw[decide_eq_true_eq]at this;omega) (by have:=h.1;unfold ar at this;rw[decide_eq_true_eq]at this;omega) b) (cY t (fun c hc=>by have:=List.all_eq_true.1 h.2 c hc;unfold ar at this;rw[decide_eq_true_eq]at this;omega) b);have hd:(enc c++aj t).drop (enc c).length=aj t:=by simp
  rw[e,bg _ hne hb,nO _ hne hb,hx];simp only[hd,ih.1,ih.2];exact⟨trivial,rfl⟩
end U
namespace E
theorem gx{c:Int}{t:List Int}(h:c≠37):de (c::t)=c::de t:=IS (fun hh=>h hh.1)
theorem yx:∀ k:Fin 7,inS 37 k.val=decide (k.val=6):=by decide
theorem bI:∀ {l:List Int},(∀ c∈l,c<128)->U.aj l=l
 | [],_=>rfl
 | c::l,h=>by have e:U.aj (c::l)=U.enc c++U.aj l:=List.flatMap_cons;rw[e,dk (h c (by simp)),bI (fun x hx=>h x (by simp[hx]))];rfl
theorem ma{l:List Int}(h:∀ c∈l,U.ar c=true):U.dec (U.aj l)=l:=(U.back l (List.all_eq_true.2 h)).1
theorem ji{l:List Int}(h:∀ c∈l,0<=c/\c<128):U.dec l=l:=by
 have e:=bI (l:=l) (fun c hc=>(h c hc).2);have s:∀ c∈l,U.ar c=true:=fun c hc=>by have:=h c hc;unfold U.ar;simp;omega
 have:=ma s
 rwa [e]at this
theorem eB{k:Nat}:∀ {l:List Int},(∀ c∈l,c<128/\inS c k=false)->en k l=l
 | [],_=>rfl
 | c::l,h=>by have hc:=h c (by simp);rw[kX,eB (fun x hx=>h x (by simp[hx]))];unfold tok;rw[hc.2,if_neg (by decide),dk hc.1];rfl
theorem pT{k:Nat}(hk:k<=5){l:List Int}(h:∀ c∈l,U.ar c=true):en k (U.dec (en k l))=en k l:=by
 have hs:=iL (k:=k) (by omega) h;rw[ji (fun c hc=>by have:=hs c hc;omega)]
 exact eB (fun c hc=>by
   have:=hs c hc
   refine⟨by omega,?_⟩
   cases hi:inS c k with
   | false=>rfl
   | true =>
     have e:=this.2.2 hi
     rw[e]at hi
     have:=yx ⟨k,by omega⟩
     simp only at this
     rw[this]at hi
     exact absurd (of_decide_eq_true hi) (by omega))
end E
namespace F
theorem dM:∀(ps:List (List Int)),ps≠[]->(∀ p∈ps,¬ 46∈p)->spl (join ps)=ps
 | [],h,_=>absurd rfl h
 | [p],_,h=>cn p (h p (by simp))
 | p::q::r,_,h=>by rw[join,cG p _ (h p (by simp)),dM (q::r) (by simp) (fun x hx=>h x (by simp at hx ⊢;right;exact hx))]
theorem df:∀(ps:List (List Int)),ps≠[]->(∀ p∈ps,¬ 46∈p)->spl (join ps++[46])=ps++[[]]
 | [],h,_=>absurd rfl h
 | [p],_,h=>by
  show spl (p++46::[])=_;rw[cG p _ (h p (by simp))];rfl
 | p::q::r,_,h=>by rw[join,append_assoc];show spl (p++46::(join (q::r)++[46]))=_;rw[cG p _ (h p (by simp)),df (q::r) (by simp) (fun x hx=>h x (by simp at hx ⊢;right;exact hx))];rfl
theorem iz{ps:List (List Int)}(hne:ps≠[])(hd:∀ p∈ps,¬ 46∈p)(hl:ps.getLast? ≠ some []):prt (join ps)=ps:=by unfold prt;rw[dM ps hne hd,if_neg (fun h=>hl h.2)]
theorem sD{ps:List (List Int)}(hne:ps≠[])(hd:∀ p∈ps,¬ 46∈p):prt (join ps++[46])=ps:=by have hl:0<ps.length:=List.length_pos_iff.2 hne;unfold prt;rw[df ps hne hd,if_pos ⟨by simp;omega,by simp⟩];simp
theorem pF{b:Nat}{c:Int}(hb:b<=10)(h:ij b c=true):ten c=true:=by
 have:=of_decide_eq_true h;unfold ten;refine decide_eq_true ?_;unfold hx at this;split at this
 ·assumption
 ·split at this
  ·omega
  ·split at this <;> omega
theorem pG{b:Nat}{c:Int}(h:ij b c=true):c≠46:=fun e=>by rw[e]at h;have:=of_decide_eq_true h;exact absurd this.1 (by decide)
theorem jN{b:Nat}{l:List Int}(h:ok b l=true):¬ 46∈l:=fun hm=>pG (List.all_eq_true.1 h 46 hm) rfl
theorem rV{k n:Nat}(hn:n<2 ^ 64):¬ 46∈wrt k n:=by
 unfold wrt;split
 ·have:=jN (cS (b:=16) (by decide) (by decide) hn).1;simp[this]
 ·split
  ·have:=jN (cS (b:=8) (by decide) (by decide) hn).1;simp[this]
  ·exact jN (cS (b:=10) (by decide) (by decide) hn).1
theorem nE(k n:Nat):wrt k n≠[]:=by
 unfold wrt;split
 ·simp
 ·split
  ·simp
  ·exact nI 10 n
theorem eD{b:Nat}{l:List Int}(hb:b<=10)(h:ok b l=true):l.all ten=true:=List.all_eq_true.2 (fun c hc=>pF hb (List.all_eq_true.1 h c hc))
theorem tt{k n:Nat}(hn:n<2 ^ 64):pR (wrt k n)=true:=by
 unfold pR;by_cases h0:k=0
 ·have hx:isX (wrt k n)=true:=by unfold wrt isX;rw[if_pos h0];simp
  have he:(num (wrt k n)).2≠8:=by rw[kC hn];split <;> simp
  rw[hx,decide_eq_true he];simp
 ·have:(wrt k n).all ten=true:=by
   unfold wrt;rw[if_neg h0];split
   ·rw[all_cons,eD (b:=8) (by decide) (cS (by decide) (by decide) hn).1];rfl
   ·exact eD (b:=10) (by decide) (cS (by decide) (by decide) hn).1
  rw[this,decide_eq_true (nE k n)];rfl
def cP(vs:List (Nat×Nat)):List (Nat×Int):=vs.map fun v=>if 4294967296<=v.2 then (0,4) else (v.2,0)
theorem nD{vs:List (Nat×Nat)}(h:∀ v∈vs,v.2<2 ^ 64):(cO vs).map num=cP vs:=by unfold cO cP;rw[List.map_map];apply List.map_congr_left;intro v hv;exact kC (h v hv)
theorem lA(vs:List (Nat×Nat)):(cP vs).any (fun x=>decide (x.2=8))=false:=by rw[List.any_eq_false];intro x hx;obtain⟨v,_,rfl⟩:=List.mem_map.1 hx;split <;> simp
theorem iR{vs:List (Nat×Nat)}(h4:vs.length<=4)(h:∀ v∈vs,v.2<2 ^ 64):adr (cO vs)=if lg vs.length (cP vs)=true then (0,4) else (sm 0 (cP vs),0):=by
 unfold adr;have hl:(cO vs).length=vs.length:=by unfold cO;simp
 rw[hl,if_neg (by omega),nD h,lA,if_neg (by simp)]
theorem eH{vs:List (Nat×Nat)}(h:∀ v∈vs,v.2<2 ^ 64):∀ p∈cO vs,¬ 46∈p:=by intro p hp;obtain⟨v,hv,rfl⟩:=List.mem_map.1 hp;exact rV (h v hv)
theorem fU{vs:List (Nat×Nat)}:(cO vs).getLast? ≠ some []:=by intro e;obtain⟨v,_,hv⟩:=List.mem_map.1 (mem_of_getLast? e);exact nE _ _ hv
theorem oy{vs:List (Nat×Nat)}(hne:vs≠[])(h4:vs.length<=4)(h:∀ v∈vs,v.2<2 ^ 64):prs (join (cO vs))=(if lg vs.length (cP vs)=true then (0,4) else (sm 0 (cP vs),0))/\prs (join (cO vs)++[46])=(if lg vs.length (cP vs)=true then (0,4) else (sm 0 (cP vs),0)):=by
 have hw:cO vs≠[]:=by unfold cO;simpa using hne
 unfold prs;rw[iz hw (eH h) fU,sD hw (eH h)];exact⟨iR h4 h,iR h4 h⟩
theorem gq{vs:List (Nat×Nat)}(hne:vs≠[])(h:∀ v∈vs,v.2<2 ^ 64):ends (join (cO vs))=true:=by
 have hw:cO vs≠[]:=by unfold cO;simpa using hne
 unfold ends;rw[iz hw (eH h) fU];cases hl:(cO vs).getLast? with
 | none=>exact absurd (List.getLast?_eq_none_iff.1 hl) hw
 | some p =>
  obtain⟨v,hv,rfl⟩:=List.mem_map.1 (mem_of_getLast? hl);exact tt (h v hv)
theorem tD{a n:Nat}(ha:a<4294967296)(h1:1<=n)(h4:n<=4){ks:List Nat}(hk:ks.length=n):lg n (cP (ks.zip (cut a n)))=false/\sm 0 (cP (ks.zip (cut a n)))=a:=by
 have g:∀ x:Nat,x<4294967296->(if 4294967296<=x then ((0:Nat),(4:Int)) else (x,0))=(x,0):=fun x hx=>if_neg (by omega);obtain rfl | rfl | rfl | rfl:n=1\/n=2\/n=3\/n=4:=by omega
 ·match ks,hk with
  | [k1],_ =>
   simp only[cut,zip_cons_cons,zip_nil_right,cP,map_cons,map_nil,g a ha];exact⟨by simp[lg];omega,rfl⟩
 ·match ks,hk with
  | [k1,k2],_ =>
   simp only[cut,zip_cons_cons,zip_nil_right,cP,map_cons,map_nil,g (a / 16777216) (by omega),g (a % 16777216) (by omega)];exact⟨by simp[lg];omega,by simp[sm];omega⟩
 ·match ks,hk with
  | [k1,k2,k3],_ =>
   simp only[cut,zip_cons_cons,zip_nil_right,cP,map_cons,map_nil,g (a / 16777216) (by omega),g (a / 65536 % 256) (by omega),g (a % 65536) (by omega)];exact⟨by simp[lg];omega,by simp[sm];omega⟩
 ·match ks,hk with
  | [k1,k2,k3,k4],_ =>
   simp only[cut,zip_cons_cons,zip_nil_right,cP,map_cons,map_nil,g (a / 16777216) (by omega),g (a / 65536 % 256) (by omega),g (a / 256 % 256) (by omega),g (a % 256) (by omega)];exact⟨by simp[lg];omega,by simp[sm];omega⟩
end F
namespace H
theorem bX:∀(n:Nat) (l:List Int),l.length<=n->(∀ c∈l,c≠37)->E.de l=l
 | 0,[],_,_=>rfl
 | n+1,[],_,_=>rfl
 | n+1,c::l,h,hc=>by rw[E.gx (hc c (by simp)),bX n l (by simpa using h) (fun x hx=>hc x (by simp[hx]))]
theorem gn{c:Int}(h:fd c=false):fb c=false/\32<=c/\c≠37/\c≠127:=by unfold fd at h;simp only[Bool.or_eq_false_iff,decide_eq_false_iff_not]at h;exact⟨h.1,by omega,h.2.2.1,h.2.2.2⟩
theorem dW{p:Int->Bool}{l:List Int}(h:¬ l.any p=true):∀ c∈l,p c=false:=by intro c hc;rw[not_eq_true,List.any_eq_false]at h;simpa using h c hc
theorem nU:∀ n:Fin 128,(48<=n.val/\n.val<=57\/n.val=46)->fd (n.val:Int)=false/\fb (n.val:Int)=false:=by decide
theorem jF{c:Int}(h:48<=c/\c<=57\/c=46):fd c=false/\fb c=false:=by obtain⟨k,rfl⟩:∃ k:Nat,c=k:=⟨c.toNat,by omega⟩;exact nU ⟨k,by omega⟩ (by simp only;omega)
theorem iD:∀(ls:List (List Int)) (c:Int),c∈F.join ls->c=46\/∃ l∈ls,c∈l
 | [],c,h=>by simp[F.join]at h
 | [a],c,h=>.inr ⟨a,by simp,by simpa[F.join]using h⟩
 | a::b::l,c,h=>by
  rw[F.join,mem_append,mem_cons]at h;rcases h with h | rfl | h
  ·exact .inr ⟨a,by simp,h⟩
  ·exact .inl rfl
  ·rcases iD (b::l) c h with rfl | ⟨x,hx,hc⟩
   ·exact .inl rfl
   ·exact .inr ⟨x,by simp at hx ⊢;exact .inr hx,hc⟩
theorem eJ{a:Nat}(ha:a<4294967296):∀ v∈F.jE (F.cut a 4),v.2<2 ^ 64:=by intro v hv;unfold F.jE F.cut at hv;simp at hv;rcases hv with rfl | rfl | rfl | rfl <;> simp only <;> omega
theorem iq{a:Nat}(ha:a<4294967296):∀ c∈F.txt a,48<=c/\c<=57\/c=46:=by
 intro c hc;rcases iD _ c hc with rfl | ⟨l,hl,hcl⟩
 ·exact .inr rfl
 ·left;unfold F.cO at hl;obtain⟨v,hv,rfl⟩:=List.mem_map.1 hl;have h2:v.1=2:=by unfold F.jE at hv;obtain⟨n,_,rfl⟩:=List.mem_map.1 hv;rfl
  have hw:F.wrt v.1 v.2=F.wr 10 v.2:=by unfold F.wrt;rw[h2];rfl
  rw[hw]at hcl;have h3:=F.eD (b:=10) (by decide) (F.cS (b:=10) (by decide) (by decide) (eJ ha v hv)).1;exact of_decide_eq_true (List.all_eq_true.1 h3 c hcl)
theorem lB{a:Nat}(ha:a<4294967296):F.prs (F.txt a)=(a,0)/\F.ends (F.txt a)=true/\F.txt a≠[]:=by
 have hv:=eJ ha;have hne:F.jE (F.cut a 4)≠[]:=by unfold F.jE F.cut;simp
 have hz:F.jE (F.cut a 4)=[2,2,2,2].zip (F.cut a 4):=rfl;have hc:=F.tD ha (n:=4) (by decide) (by decide) (ks:=[2,2,2,2]) rfl;refine⟨?_,F.gq hne hv,?_⟩
 ·have h:=(F.oy hne (show 4<=4 from le_refl _) hv).1;unfold F.txt;rw[h];have hl:(F.jE (F.cut a 4)).length=4:=rfl;rw[hl,hz,hc.1,hc.2];rfl
 ·intro e;have h:=F.gq hne hv;unfold F.txt at e;rw[e]at h;exact absurd h (by decide)
theorem kF:∀(n:Nat) (l:List Int),l.length<=n->U.Bytes l->∀ c∈U.dec l,c<128->c∈l
 | 0,[],_,_,c,h,_=>by simp[U.eC]at h
 | n+1,[],_,_,c,h,_=>by simp[U.eC]at h
 | n+1,a::l,hn,hl,c,h,hc=>by
  rw[U.bg (a::l) (by simp) hl]at h;rcases List.mem_cons.1 h with rfl | h
  ·rcases U.oK (a::l) (by simp) hl with⟨a',t,e,h0,h1,e2⟩ | ⟨a',b,t,e,h1,h2,h3,h4,e2⟩ | ⟨a',b,d,t,e,h1,h2,h3,h4,h5,h6,e2⟩ | ⟨a',b,d,f,t,e,h1,h2,h3,h4,h5,h6,h7,h8,e2⟩ | ⟨m,_,_,e2⟩
   ·rw[e2];cases e;simp
   ·rw[e2]at hc;simp only at hc;omega
   ·rw[e2]at hc;simp only at hc;have hlo:a'=224->160<=b:=fun h=>by unfold U.aU at h3;rw[h]at h3;simpa using h3
    have hl2:128<=b:=by unfold U.aU at h3;(repeat' split at h3) <;> omega
    by_cases h224:a'=224
    ·have:=hlo h224;omega
    ·omega
   ·rw[e2]at hc;simp only at hc;have hlo:a'=240->144<=b:=fun h=>by unfold U.aU at h3;rw[h]at h3;simpa using h3
    have hl2:128<=b:=by unfold U.aU at h3;(repeat' split at h3) <;> omega
    by_cases h240:a'=240
    ·have:=hlo h240;omega
    ·omega
   ·rw[e2]at hc;simp only at hc;omega
  ·have hnx:=(U.oJ (a::l) (by simp)).1;have:=kF n _ (by rw[List.length_drop];simp at hn ⊢;omega) (fun b hb=>hl b (mem_of_mem_drop hb)) c h hc;exact mem_of_mem_drop this
theorem pA:∀ n:Fin 128,(48<=n.val/\n.val<=57\/65<=n.val/\n.val<=70\/n.val=37)->fb (n.val:Int)=false:=by decide
theorem eW{c:Int}(h:48<=c/\c<=57\/65<=c/\c<=70\/c=37):fb c=false:=by obtain⟨k,rfl⟩:∃ k:Nat,c=k:=⟨c.toNat,by omega⟩;exact pA ⟨k,by omega⟩ (by simp only;omega)
theorem pW{n:Int}(h0:0<=n)(h1:n<=15):48<=E.dg n/\E.dg n<=57\/65<=E.dg n/\E.dg n<=70:=by unfold E.dg;split <;> omega
theorem eB{s:List Int}(hs:U.Bytes s)(h:∀ c∈s,fb c=false):∀ y∈E.en 0 (U.dec s),fb y=false:=by
 intro y hy;obtain⟨c,hc,hyc⟩:=List.mem_flatMap.1 hy;have hsc:U.ar c=true:=List.all_eq_true.1 (U.dm s.length s (le_refl _) hs) c hc;unfold E.tok at hyc;split at hyc
 ·obtain⟨b,hb,hyb⟩:=List.mem_flatMap.1 hyc;have hbb:0<=b/\b<=255:=U.cL c (E.aS hsc).1 (E.aS hsc).2 b hb;unfold E.pe at hyb;simp at hyb;rcases hyb with rfl | rfl | rfl
  ·exact eW (.inr (.inr rfl))
  ·rcases pW (n:=b / 16) (by omega) (by omega) with h | h
   ·exact eW (.inl h)
   ·exact eW (.inr (.inl h))
  ·rcases pW (n:=b % 16) (by omega) (by omega) with h | h
   ·exact eW (.inl h)
   ·exact eW (.inr (.inl h))
 ·rename_i hin;have hbd:=E.yw (k:=0) (by decide) (by simpa using hin);rw[E.dk (by omega)]at hyc;obtain rfl:=List.mem_singleton.1 hyc;exact h y (kF s.length s (le_refl _) hs y hc (by omega))
theorem yT{s:List Int}(hs:U.Bytes s)(h:s≠[]):U.dec s≠[]:=by rw[U.bg s h hs];simp
theorem xC(k:Nat)(c:Int)(hc:U.ar c=true):E.tok k c≠[]:=by
 have he:U.enc c≠[]:=by unfold U.enc;(repeat' split) <;> simp
 unfold E.tok;split
 ·intro e;have:=congrArg List.length e;rw[E.iV]at this;have h2:=List.length_pos_iff.2 he;simp at this;omega
 ·exact he
theorem IG{k:Nat}{l:List Int}(hl:l≠[])(hs:∀ c∈l,U.ar c=true):E.en k l≠[]:=by
 cases l with
 | nil=>exact absurd rfl hl
 | cons c l =>
  rw[E.kX];intro e;exact xC k c (hs c (by simp)) (List.append_eq_nil_iff.1 e).1
theorem gQ{l:List Int}(h:∀ c∈l,fb c=false):¬ l.head? = some 91:=by intro e;have:=h 91 (List.mem_of_mem_head? e);exact absurd this (by decide)
theorem qp{p:Int->Bool}{l:List Int}(h:∀ c∈l,p c=false):l.any p=false:=by rw[List.any_eq_false];intro c hc;rw[h c hc];simp
structure xv(A:List Int->List Int->Int->Prop)(sp:Bool)(h:Hst):Prop where
 same:HP A (txt h) sp h
 free:h.1≠3->∀ c∈txt h,fb c=false/\32<=c/\c<=126/\(h.1=1->fd c=false)
 none:h.1=0↔txt h=[]
 kind:h.1<=4/\(h.1=4->sp=false)/\(sp=true->h.1≠0)
theorem HP.rests{A:List Int->List Int->Int->Prop}(hA:Asc A){s:List Int}{sp:Bool}{h:Hst}(hs:U.Bytes s)(x:HP A s sp h)(h0:h.2.2.2.2=0)(hl:(txt h).length<=4096)
  (hX:∀ l a,X.prs l=some a->a.length=8/\X.Small a):xv A sp h:=by
 unfold HP at x;split at x
 ·rw[x]at h0;cases h0
 split at x
 ·unfold six at x;split at x
  ·cases hp:X.prs ((s.drop 1).dropLast) with
   | none=>rw[hp]at x;rw[x]at h0;cases h0
   | some a =>
    rw[hp]at x;obtain⟨h8,hsm⟩:=hX _ _ hp;have ht:txt h=91::(X.txt a++[93]):=by rw[x];rfl
    refine⟨?_,fun hk=>absurd (by rw[x]) hk,?_,?_⟩
    ·unfold HP;rw[if_neg (by omega),ht,if_pos (show(91::(X.txt a++[93])).head? = some 91 from rfl),x];unfold six;rw[if_pos ⟨by rw[length_cons,length_append,List.length_singleton];omega,List.getLast?_concat (l:=91::X.txt a) (a:=93)⟩];have:((91::(X.txt a++[93])).drop 1).dropLast=X.txt a:=by simp
     rw[this,X.sE h8 hsm]
    ·rw[ht,x];simp
    ·rw[x];simp
  ·rw[x]at h0;cases h0
 split at x
 ·rename_i hsp;unfold opq at x;split at x
  ·rw[x]at h0;cases h0
  ·rename_i hfb;have hfb':=dW hfb;split at x
   ·have ht:txt h=[]:=by rw[x];rfl
    refine⟨?_,(fun _ c hc=>by rw[ht]at hc;simp at hc),?_,?_⟩
    ·unfold HP;rw[ht,if_neg (by simp),if_neg (by simp),if_pos hsp,x];rfl
    ·rw[ht,x];simp[non]
    ·rw[x];simp[non,hsp]
   ·rename_i hne;have ht:txt h=E.en 0 (U.dec s):=by rw[x];rfl
    have hsc:∀ c∈U.dec s,U.ar c=true:=List.all_eq_true.1 (U.dm s.length s (le_refl _) hs);have hfree:=eB hs hfb';have htn:=IG (k:=0) (yT hs hne) hsc;refine⟨?_,?_,?_,?_⟩
    ·unfold HP;rw[if_neg (by omega),ht,if_neg (gQ hfree),if_pos hsp,x];unfold opq;rw[qp hfree,if_neg (by simp),if_neg htn,E.pT (by decide) hsc]
    ·intro _ c hc;rw[ht]at hc;have h3:=E.iL (k:=0) (by decide) hsc c hc;exact⟨hfree c hc,h3.1,h3.2.1,fun hk=>by rw[x]at hk;simp at hk⟩
    ·rw[ht,x];simp[htn]
    ·rw[x];simp[hsp]
 ·rename_i hsp;obtain⟨d,r,hAd,x⟩:=x;have hspt:sp=true:=by simpa using hsp
  unfold dom at x;split at x
  ·rw[x]at h0;cases h0
  ·rename_i hd
   have hr:r=0:=by
    by_cases h:r=0
    ·exact h
    ·exact absurd (.inl h) hd
   have hdn:d≠[]:=fun h=>hd (.inr (.inl h));have hdf:=dW (p:=fd) (l:=d) (fun h=>hd (.inr (.inr h)));subst hr;split at x
   ·split at x
    ·rename_i hend hp0;have hbd:=sH d hp0;obtain⟨a,ha⟩:=Ex' ((F.prs d).1);rw[ha]at x hbd;have ht:txt h=F.txt a:=by rw[x];rfl
     have htt:=iq hbd;obtain⟨hb1,hb2,hb3⟩:=lB hbd;refine⟨?_,?_,?_,?_⟩
     ·unfold HP;rw[if_neg (by omega),ht,if_neg (gQ (fun c hc=>(jF (htt c hc)).2)),if_neg hsp];refine⟨F.txt a,0,?_,?_⟩
      ·rw[bX _ _ (le_refl _) (fun c hc=>by have:=htt c hc;omega)];exact hA.num (fun c hc=>.inr (htt c hc))
      ·rw[x];unfold dom
       rw[if_neg (by
         rintro(h | h | h)
         · exact h rfl
         · exact hb3 h
         · rw[qp (fun c hc=>(jF (htt c hc)).1)]at h;cases h),if_pos hb2,hb1]
       rfl
     ·intro _ c hc;rw[ht]at hc;have h3:=htt c hc;exact⟨(jF h3).2,by omega,by omega,fun hk=>by rw[x]at hk;simp at hk⟩
     ·rw[ht,x];simp[hb3]
     ·rw[x];simp
    ·rw[x]at h0;cases h0
   ·rename_i hend;have ht:txt h=d:=by rw[x];rfl
    have hlow:=hA.low hAd;refine⟨?_,?_,?_,?_⟩
    ·unfold HP;rw[if_neg (by omega),ht,if_neg (gQ (fun c hc=>(gn (hdf c hc)).1)),if_neg hsp];refine⟨d,0,?_,?_⟩
     ·rw[bX _ _ (le_refl _) (fun c hc=>(gn (hdf c hc)).2.2.1)];exact hA.rest hAd
     ·rw[x];unfold dom;rw[if_neg hd,if_neg hend]
    ·intro _ c hc;rw[ht]at hc;have h3:=gn (hdf c hc);have h4:=hlow c hc;exact⟨h3.1,h3.2.1,by omega,fun _=>hdf c hc⟩
    ·rw[ht,x];simp[hdn]
    ·rw[x];simp
theorem eZ(k:Int)(n:ByteArray)(f:Int)(a:List Int):eqh k n f a k n f a=true:=by unfold eqh;simp
end H
namespace Cn
open H (Hst HP Asc May non fd dom)
theorem dE:∀ l:List Int,F.spl (l++[46])=F.spl l++[[]]
 | []=>rfl
 | c::l=>by
  have ih:=dE l;rw[List.cons_append,F.spl,F.spl,ih];split
  ·rfl
  ·have:=F.aV l;cases h:F.spl l with
   | nil=>exact absurd h this
   | cons a t=>rfl
theorem dL:∀ {l:List Int},l.getLast? = some 46->(F.spl l).getLast? = some []
 | [],h=>by cases h
 | [c],h=>by
  have:c=46:=by simpa using h
  rw[this];rfl
 | c::d::l,h=>by
  have ih:=dL (l:=d::l) (by simpa using h);rw[F.spl];cases e:F.spl (d::l) with
  | nil=>exact absurd e (F.aV _)
  | cons a t =>
   rw[e]at ih;split
   ·rw[List.getLast?_cons_cons];exact ih
   ·simp only[List.headD_cons,List.tail_cons];cases t with
    | nil =>
     exfalso
     -- what ends with a dot has two pieces at the least
     have:∀(m:List Int) (x:List Int),m.getLast? = some 46->F.spl m≠[x]:=by
      intro m x hm
      obtain⟨k,rfl⟩:∃ k,m=k++[46]:=by
       have hne:m≠[]:=fun e=>by rw[e]at hm;cases hm
       refine⟨m.dropLast,?_⟩;have h3:=List.dropLast_concat_getLast hne;rw[List.getLast?_eq_some_getLast hne]at hm;rw[<-Option.some.inj hm];exact h3.symm
      rw[dE];intro h4;have h5:=congrArg List.length h4;rw[length_append]at h5;have h6:=List.length_pos_iff.2 (F.aV k);simp only[List.length_singleton]at h5;omega
     exact this (d::l) a (by simpa using h) e
    | cons b t=>rw[List.getLast?_cons_cons]at ih ⊢;exact ih
theorem fY{l:List Int}(h:okn l=true):l≠[]/\l.getLast? ≠ some 46/\l.length<=253/\(F.spl l).getLast? ≠ some []:=by
 unfold okn at h;rw[and_eq_true]at h;have hall:=List.all_eq_true.1 h.2;have hl:(F.spl l).getLast? ≠ some []:=fun e=>by have:=of_decide_eq_true (hall [] (mem_of_getLast? e));simp at this
 refine⟨fun e=>?_,fun e=>hl (dL e),of_decide_eq_true h.1,hl⟩;rw[e]at hl;exact hl rfl
theorem kW{m:List Int}(h:(F.spl m).getLast? ≠ some []):F.ends (m++[46])=F.ends m:=by
 have h1:F.prt (m++[46])=F.spl m:=by unfold F.prt;rw[dE,if_pos ⟨by rw[length_append];have:=List.length_pos_iff.2 (F.aV m);simp;omega,by simp⟩];simp
 have h2:F.prt m=F.spl m:=by unfold F.prt;rw[if_neg (fun e=>h e.2)]
 unfold F.ends;rw[h1,h2]
structure Can(A:List Int->List Int->Int->Prop)(h:Hst):Prop where
 hp:HP A (H.txt h) true h
 e:h.2.2.2.2=0
 k:h.1=1\/h.1=2\/h.1=3
 l:(H.txt h).length<=3900
 u:h.1=1->okn h.2.1=true
theorem Can.may{A:List Int->List Int->Int->Prop}(hA:Asc A){h:Hst}(c:Can A h){b:Bool}(m:May A h b):b=true:=by
 have hk:=c.k;have hne:h≠non 0:=fun e=>by rw[e]at hk;simp[non]at hk
 unfold May at m;rw[if_neg hne,if_neg (by have:=c.l;omega)]at m;obtain⟨x,hx,rfl⟩:=m;have h4:decide (h.1≠4)=true:=decide_eq_true (by omega);rw[h4]at hx;rw[HP.one hA hx c.hp];exact decide_eq_true ⟨c.e,rfl,by omega⟩
theorem Can.ch{A:List Int->List Int->Int->Prop}{h:Hst}(c:Can A h):ch h true=h:=by
 have hk:=c.k;have he:=c.e;unfold Cn.ch;rw[if_neg (by rintro(h | h | h) <;> first | cases h | omega)];obtain⟨k,n,f,a,e⟩:=h;simp only at hk he ⊢;subst he;by_cases h1:k=1
 ·rw[if_neg (by omega)];have ho:=c.u h1;simp only at ho;have hu:und n=n:=by unfold und;rw[if_neg (fY ho).2.1]
  rw[hu,if_pos ho,h1]
 ·rw[if_pos h1]
theorem Can.CH{A:List Int->List Int->Int->Prop}(hA:Asc A){h r:Hst}(c:Can A h)(x:Cn.CH A h r):r=h:=by obtain⟨b,m,rfl⟩:=x;rw[c.may hA m,c.ch]
theorem CH.can{A:List Int->List Int->Int->Prop}(hA:Asc A)(hD:qy A){x h:Hst}(hx:x.2.2.2.2=0)(c:CH A x h)(he:h.2.2.2.2=0)(h4:(F.txt x.2.2.1).length<=3000)(h6:(X.txt x.2.2.2.1).length<=3000):Can A h:=by
 obtain⟨b,m,rfl⟩:=c;unfold ch at he ⊢;split at he
 ·cases he
 rename_i hk;rw[if_neg hk]
 have hb:b=true:=by cases b with
  | true=>rfl
  | false=>exact absurd (.inl rfl) hk
 subst hb;have hk0:x.1≠0:=fun e=>hk (.inr (.inl e));have hk4:x.1≠4:=fun e=>hk (.inr (.inr e));have hne:x≠non 0:=fun e=>hk0 (by rw[e];rfl);unfold May at m;rw[if_neg hne]at m;split at m
 ·cases m
 rename_i hlen;obtain⟨y,hy,hd⟩:=m;have hd':=of_decide_eq_true hd.symm;have hyx:y=x:=by obtain⟨k,n,f,a,e⟩:=y;obtain⟨k',n',f',a',e'⟩:=x;obtain⟨h1,h2,h3⟩:=hd';simp only at h1 h2 hx;simp only[Prod.mk.injEq]at h2;obtain⟨rfl,rfl,rfl,rfl⟩:=h2;rw[h1,hx]
 subst hyx;rw[decide_eq_true hk4]at hy;split at he
 ·rename_i h1;rw[if_pos h1];have e0:(y.1,y.2.1,y.2.2.1,y.2.2.2.1,(0:Int))=y:=by obtain⟨k,n,f,a,e⟩:=y;simp only at hx;rw[hx]
  rw[e0]
  have hkk:y.1<=4:=by
   unfold HP at hy;split at hy
   ·rw[hy];exact zero_le _
   split at hy
   ·rw[hy];unfold H.six;split
    ·split
     ·show 3<=4;decide
     ·exact zero_le _
    ·exact zero_le _
   split at hy
   ·rename_i hh;cases hh
   obtain⟨d,r,_,rfl⟩:=hy;unfold dom;split
   ·exact zero_le _
   split
   ·split
    ·show 2<=4;decide
    ·exact zero_le _
   ·show 1<=4;decide
  refine⟨hy,hx,by omega,?_,fun h=>absurd h h1⟩;unfold H.txt;rw[if_neg (by omega)];split
  ·omega
  ·split
   ·simp;omega
   ·simp
 ·rename_i h1;have h1':y.1=1:=Classical.byContradiction h1;rw[if_neg h1];split at he
  ·rename_i ho;rw[if_pos ho];obtain⟨hn0,hl46,hl253,hsl⟩:=fY ho;have htx:H.txt y=y.2.1:=by unfold H.txt;rw[if_pos (.inl h1')]
   rw[htx]at hy
   -- what a domain is
   have hdm:∃ r,A (E.de y.2.1) y.2.1 0/\r=0/\y.2.1.any fd=false/\F.ends y.2.1=false/\y=(1,y.2.1,0,H.z8,0)/\¬ y.2.1.head? = some 91:=by
    unfold HP at hy;split at hy
    ·rw[hy]at h1';cases h1'
    split at hy
    ·exfalso;rw[hy]at h1';unfold H.six at h1';split at h1'
     ·split at h1' <;> cases h1'
     ·cases h1'
    rename_i h91;split at hy
    ·rename_i hh;cases hh
    obtain⟨d,r,hda,hyd⟩:=hy;unfold dom at hyd;split at hyd
    ·rw[hyd]at h1';cases h1'
    rename_i hr;split at hyd
    ·split at hyd <;> (rw[hyd]at h1';cases h1')
    rename_i hen;have hr0:r=0:=Classical.byContradiction fun e=>hr (.inl e);have hdn:y.2.1=d:=by rw[hyd]
    rw[hdn]at h91 ⊢;rw[hr0]at hda;refine⟨0,?_,rfl,not_eq_true _ ▸ (fun e=>hr (.inr (.inr e))),not_eq_true _ ▸ hen,?_,h91⟩
    ·rw[<-hdn];rw[<-hdn]at hda;exact hda
    ·exact hyd
   obtain⟨_,ha,_,hfd,hen,hyy,h91⟩:=hdm;have hfree:∀ c∈y.2.1,fd c=false:=fun c hc=>by have:=List.any_eq_false.1 hfd c hc;simpa using this
   have h37:∀ c∈y.2.1,c≠37:=fun c hc=>(H.gn (hfree c hc)).2.2.1;rw[H.bX _ _ (le_refl _) h37]at ha;have hbyt:U.Bytes y.2.1:=fun c hc=>by have:=hA.low ha c hc;exact⟨this.1,by omega⟩
   -- the name without its dot
   have hm:A (und y.2.1) (und y.2.1) 0/\F.ends (und y.2.1)=false/\(∀ c∈und y.2.1,c∈y.2.1):=by
    unfold und at ho hsl ⊢;split at ho
    ·rename_i h46;rw[if_pos h46]at hsl ⊢;have hne:y.2.1≠[]:=fun e=>by rw[e]at h46;cases h46
     have hc:y.2.1=y.2.1.dropLast++[46]:=by have h3:=List.dropLast_concat_getLast hne;rw[List.getLast?_eq_some_getLast hne]at h46;rw[Option.some.inj h46]at h3;exact h3.symm
     have hbt:U.Bytes y.2.1.dropLast:=fun c hc=>hbyt c (List.dropLast_subset _ hc);refine⟨hD.cut hbt (by rw[<-hc];exact ha),?_,fun c hc=>List.dropLast_subset _ hc⟩;rw[hc,kW hsl]at hen;exact hen
    ·rename_i h46;rw[if_neg h46];exact⟨ha,hen,fun c hc=>hc⟩
   obtain⟨hma,hme,hmm⟩:=hm;have hf:y.2.2.1=0:=by rw[hyy]
   have hs:y.2.2.2.1=H.z8:=by rw[hyy]
   have htt:H.txt (1,und y.2.1,y.2.2.1,y.2.2.2.1,0)=und y.2.1:=by unfold H.txt;rw[if_pos (.inl rfl)]
   refine⟨?_,rfl,.inl rfl,by rw[htt];omega,fun _=>ho⟩;rw[htt];unfold HP;rw[if_neg (by omega),if_neg ?_,if_neg (by simp)]
   ·refine⟨und y.2.1,0,?_,?_⟩
    ·rw[H.bX _ _ (le_refl _) (fun c hc=>h37 c (hmm c hc))];exact hma
    ·unfold dom;rw[if_neg,if_neg (by rw[hme];simp),hf,hs];rintro(h | h | h)
     ·exact h rfl
     ·exact hn0 h
     ·obtain⟨c,hc,hcf⟩:=List.any_eq_true.1 h;rw[hfree c (hmm c hc)]at hcf;cases hcf
   ·intro h;have:=hfree 91 (hmm 91 (List.mem_of_head? h));exact absurd this (by decide)
  ·cases he
end Cn
namespace Y
theorem EH{l:List Int}(h1:∀ c,l.head? = some c->33<=c)(h2:∀ c,l.getLast? = some c->33<=c):strip l=l:=by
 unfold strip
 have d1:l.dropWhile blk=l:=by
  cases l with
  | nil=>rfl
  | cons c t =>
   rw[List.dropWhile_cons_of_neg];have:=h1 c rfl;unfold blk;simp;omega
 rw[d1]
 have d2:l.reverse.dropWhile blk=l.reverse:=by
  cases hr:l.reverse with
  | nil=>rfl
  | cons c t =>
   rw[List.dropWhile_cons_of_neg];have:=h2 c (by rw[<-List.head?_reverse,hr];rfl);unfold blk;simp;omega
 rw[d2,List.reverse_reverse]
theorem Qt{l:List Int}(h:∀ c∈l,32<=c/\c<=126)(h1:∀ c,l.head? = some c->33<=c)(h2:∀ c,l.getLast? = some c->33<=c):cln l=l:=by
 unfold cln;rw[E.ji (fun c hc=>by have:=h c hc;omega),EH h1 h2];have e:l.filter (fun c=>!tab c)=l:=by rw[List.filter_eq_self];intro c hc;have:=h c hc;unfold tab;simp;omega
 rw[e,E.bI (fun c hc=>by have:=h c hc;omega)]
def Vis(l:List Int):Prop:=∀ c∈l,33<=c/\c<=126
theorem Vis.app{a b:List Int}(ha:Vis a)(hb:Vis b):Vis (a++b):=fun c hc=>(List.mem_append.1 hc).elim (ha c) (hb c)
theorem Vis.cons{c:Int}{b:List Int}(h0:33<=c)(h1:c<=126)(hb:Vis b):Vis (c::b):=fun d hd=>by
 rcases List.mem_cons.1 hd with rfl | hd
 ·exact⟨h0,h1⟩
 ·exact hb d hd
theorem Vis.nil:Vis []:=fun c hc=>by simp at hc
theorem kI{b:Int}:∀ {ls:List (List Int)} {c:Int},c∈X.ah b ls->c=b\/∃ l∈ls,c∈l
 | [],c,h=>by simp[X.ah]at h
 | [p],c,h=>.inr ⟨p,by simp,by simpa[X.ah]using h⟩
 | p::q::r,c,h=>by
  rw[X.ah,mem_append,mem_cons]at h;rcases h with h | rfl | h
  ·exact .inr ⟨p,by simp,h⟩
  ·exact .inl rfl
  ·rcases kI h with rfl | ⟨l,hl,hc⟩
   ·exact .inl rfl
   ·exact .inr ⟨l,by simp at hl ⊢;exact .inr hl,hc⟩
theorem yz{n:Nat}(h:n<65536){c:Int}(hc:c∈X.aM false false n):48<=c/\c<=57\/97<=c/\c<=102:=by
 unfold X.aM at hc;rw[if_neg (by simp)]at hc;obtain⟨d,hd,rfl⟩:=List.mem_map.1 hc;have:=X.tA h d hd;unfold X.dgc;split
 ·omega
 ·rw[if_neg (by simp)];omega
theorem od{a:List Nat}(hl:a.length=8)(hs:X.Small a){c:Int}(hc:c∈X.txt a):c=58\/48<=c/\c<=57\/97<=c/\c<=102:=by
 have hj:∀ l:List Nat,(∀ v∈l,v∈a)->∀ c∈X.ah 58 (l.map (X.aM false false)),c=58\/48<=c/\c<=57\/97<=c/\c<=102:=fun l hla c hc=>by
  rcases kI hc with rfl | ⟨p,hp,hcp⟩
  ·exact .inl rfl
  ·obtain⟨v,hv,rfl⟩:=List.mem_map.1 hp;exact .inr (yz (hs v (hla v hv)) hcp)
 rcases X.iS hl with⟨_,h,_⟩ | ⟨p,m,_,_,_,_,_,h⟩
 ·rw[h]at hc;exact hj a (fun v hv=>hv) c hc
 ·rw[h]at hc;rcases List.mem_append.1 hc with hc | hc
  ·exact hj _ (fun v hv=>List.mem_of_mem_take hv) c hc
  ·simp only[mem_cons]at hc;rcases hc with rfl | rfl | hc
   ·exact .inl rfl
   ·exact .inl rfl
   ·exact hj _ (fun v hv=>mem_of_mem_drop hv) c hc
theorem dw:∀ {x q:List Int},(∀ c∈x,c≠58/\c≠91/\c≠93)->hcut false (x++q)=(x++(hcut false q).1,(hcut false q).2)
 | [],q,_=>rfl
 | c::x,q,h=>by have hc:=h c (by simp);show hcut false (c::(x++q))=_;rw[hcut,if_neg (by simp[hc.1]),if_neg hc.2.1,if_neg hc.2.2,dw (fun d hd=>h d (by simp[hd]))];rfl
theorem kQ:∀ {x q:List Int},(∀ c∈x,c≠91/\c≠93)->hcut true (x++93::q)=(x++93::(hcut false q).1,(hcut false q).2)
 | [],q,_=>by
  show hcut true (93::q)=_;rw[hcut,if_neg (by simp),if_neg (by decide),if_pos rfl];rfl
 | c::x,q,h=>by have hc:=h c (by simp);show hcut true (c::(x++93::q))=_;rw[hcut,if_neg (by simp),if_neg hc.1,if_neg hc.2,kQ (fun d hd=>h d (by simp[hd]))];rfl
theorem pD(p:Option (List Int)):hcut false (match p with | none=>[] | some t=>58::t)=([],p):=by
 cases p with
 | none=>rfl
 | some t=>show hcut false (58::t)=_;rw[hcut,if_pos ⟨rfl,rfl⟩]
structure Hk(t:List Int):Prop where
 v:Vis t\/∀ c∈t,32<=c/\c<=126
 n:∀ c∈t,c≠47/\c≠63/\c≠35/\c≠64/\c≠92
 h:∀ q,hcut false (t++q)=(t++(hcut false q).1,(hcut false q).2)
theorem Av:∀ n:Fin 128,H.fb (n.val:Int)=false->n.val≠47/\n.val≠63/\n.val≠35/\n.val≠64/\n.val≠92/\n.val≠58/\n.val≠91/\n.val≠93/\n.val≠32:=by decide +kernel
theorem tc{A:List Int->List Int->Int->Prop}{sp:Bool}{h:H.Hst}(r:H.xv A sp h)(h8:h.2.2.2.1.length=8)(hs:X.Small h.2.2.2.1):Vis (H.txt h)/\Hk (H.txt h):=by
 by_cases h3:h.1=3
 ·have e:H.txt h=91::(X.txt h.2.2.2.1++[93]):=by unfold H.txt;rw[h3];rfl
  have hm:∀ c∈X.txt h.2.2.2.1,c=58\/48<=c/\c<=57\/97<=c/\c<=102:=fun c hc=>od h8 hs hc;have hv:Vis (H.txt h):=by rw[e];refine Vis.cons (by decide) (by decide) (Vis.app (fun c hc=>?_) (Vis.cons (by decide) (by decide) Vis.nil));have:=hm c hc;omega
  refine⟨hv,⟨.inl hv,fun c hc=>?_,fun q=>?_⟩⟩
  ·rw[e]at hc;simp only[mem_cons,mem_append,List.not_mem_nil,or_false]at hc;rcases hc with rfl | hc | rfl
   ·decide
   ·have:=hm c hc;omega
   ·decide
  ·rw[e];show hcut false (91::((X.txt h.2.2.2.1++[93])++q))=_;rw[append_assoc];show hcut false (91::(X.txt h.2.2.2.1++93::q))=_;rw[hcut,if_neg (by decide),if_pos rfl,kQ (fun c hc=>by have:=hm c hc;omega)];simp
 ·have hf:=r.free h3;have hn:∀ c∈H.txt h,c≠47/\c≠63/\c≠35/\c≠64/\c≠92/\c≠58/\c≠91/\c≠93/\c≠32:=fun c hc=>by obtain⟨f1,f2,f3,_⟩:=hf c hc;obtain⟨k,rfl⟩:∃ k:Nat,c=k:=⟨c.toNat,by omega⟩;have:=Av ⟨k,by omega⟩ f1;simp only at this;omega
  have hv:Vis (H.txt h):=fun c hc=>by have h1:=hf c hc;have h2:=hn c hc;omega
  refine⟨hv,⟨.inl hv,fun c hc=>?_,fun q=>dw (fun c hc=>?_)⟩⟩
  ·have:=hn c hc;omega
  ·have:=hn c hc;omega
theorem tR{B:List Int}(hB:∀ c∈B,c≠64):beh B=B:=by unfold beh;obtain⟨e1,_⟩:=fG (f:=oP) (p:=B.reverse) (q:=[]) (fun c hc=>by unfold oP;exact decide_eq_true (hB c (List.mem_reverse.1 hc))) (.inl rfl);rw[append_nil]at e1;rw[e1,List.reverse_reverse]
theorem nG{n:Nat}(h:n<=65535):(F.wr 10 n).all F.ten=true/\F.vl 10 (F.wr 10 n)=n/\F.wr 10 n≠[]:=by
 have hw:=F.cS (b:=10) (n:=n) (by decide) (by decide) (Nat.lt_of_le_of_lt h (by decide));refine⟨F.eD (b:=10) (by decide) hw.1,hw.2,fun e=>?_⟩;by_cases hn:n=0
 ·rw[hn]at e;exact absurd e (by decide)
 ·have h1:=hw.2;rw[e]at h1;exact hn h1.symm
end Y
namespace Cn
open H (Hst HP Asc)
open Y (UP Ur zu Vis aN bG own hcut ath por sch aus nau sl tl cln hqy rdc beh)
theorem im:∀(f k n:Nat),n<10 ^ (k+1)->(F.wrF 10 f n).length<=k+1
 | 0,k,n,h=>by simp[F.wrF]
 | f+1,k,n,h=>by
  rw[F.wrF];split
  ·simp
  ·rename_i hn;cases k with
   | zero=>simp at h;omega
   | succ k =>
    have:=im f k (n / 10) (by rw[pow_succ]at h;omega);rw[length_append];simp;omega
theorem ju{p:Nat}(h0:1<=p)(h1:p<=65535):pt (F.wr 10 p)=p/\(F.wr 10 p).length<=5/\(∀ c∈F.wr 10 p,48<=c/\c<=57):=by obtain⟨a,b,c⟩:=Y.nG h1;have hl:(F.wr 10 p).length<=5:=im 64 4 p (by show p<100000;omega);refine⟨?_,hl,fun d hd=>of_decide_eq_true (List.all_eq_true.1 a d hd)⟩;unfold pt;rw[if_pos ⟨List.length_pos_iff.2 c,hl,a,by omega⟩,b]
theorem Can.ok{A:List Int->List Int->Int->Prop}(hA:Asc A){h:Hst}(c:Can A h)(hb:U.Bytes (H.txt h))(hX:∀ l a,X.prs l=some a->a.length=8/\X.Small a)(h8:h.2.2.2.1.length=8)(hs:X.Small h.2.2.2.1):
  Vis (H.txt h)/\Y.Hk (H.txt h)/\H.txt h≠[]:=by
 have r:=HP.rests hA hb c.hp c.e (by have:=c.l;omega) hX;obtain⟨a,b⟩:=Y.tc r h8 hs;refine⟨a,b,fun e=>?_⟩;have:=r.none.2 e;have:=c.k;omega
theorem uX{m:List Int}(hm:m=aN\/m=bG):(own m).isSome=true/\m≠Y.di/\Vis m/\m≠[]/\(∀ R,sch (m++58::R)=some (m,R))/\m.length<=5:=by
 rcases hm with rfl | rfl
 ·exact⟨by decide,by decide,fun c hc=>by simp[aN]at hc;omega,by decide,fun R=>rfl,by decide⟩
 ·exact⟨by decide,by decide,fun c hc=>by simp[bG]at hc;omega,by decide,fun R=>rfl,by decide⟩
theorem JX{A:List Int->List Int->Int->Prop}{m T:List Int}(hm:m=aN\/m=bG)(hv:Vis T)(hn:∀ c∈T,c≠47/\c≠63/\c≠35/\c≠92)(hl:T.length<=4000){r:Ur×Int}(x:UP A (m++58::47::47::T) r):
  ∃ h,(∀ y,Y.ask true T=some y->HP A y true h)/\r=(if (ath m T h).2≠0 then (zu,(ath m T h).2) else (tl true true (ath m T h).1 [],0)):=by
 obtain⟨ho,hf,hmv,hm0,hsch,hm5⟩:=uX hm;have hvis:Vis (m++58::47::47::T):=Vis.app hmv (Vis.cons (by decide) (by decide) (Vis.cons (by decide) (by decide) (Vis.cons (by decide) (by decide) hv)));have hc:cln (m++58::47::47::T)=m++58::47::47::T:=Y.Qt (fun c hc=>by have:=hvis c hc;omega) (fun c hc=>(hvis c (List.mem_of_head? hc)).1) (fun c hc=>(hvis c (mem_of_getLast? hc)).1);unfold UP at x;rw[if_neg (by simp;omega),hc]at x;obtain⟨h,h1,h2⟩:=x
 have ha:aus m (47::47::T)=some T:=by
  unfold aus;rw[if_pos ho]
  have:(47::47::T).dropWhile (sl true)=T:=by
   rw[List.dropWhile_cons_of_pos (by decide),List.dropWhile_cons_of_pos (by decide)];cases T with
   | nil=>rfl
   | cons c t =>
    have:=hn c (by simp);rw[List.dropWhile_cons_of_neg (by unfold sl;simp;omega)]
  rw[this]
 have hna:∀ c∈T,nau true c=true:=fun c hc=>by have:=hn c hc;unfold nau sl Y.qm;simp;omega
 obtain⟨t1,t2⟩:=Y.fG (f:=nau true) (p:=T) (q:=[]) hna (.inl rfl);rw[append_nil]at t1 t2;refine⟨h,fun y hy=>h1 y true ?_,?_⟩
 ·unfold hqy;rw[hsch];simp only;rw[if_neg hf,ha];simp only;rw[ho,t1,hy];rfl
 ·rw[h2];unfold rdc;rw[hsch];simp only;rw[if_neg hf,ha];simp only;rw[ho,t1,t2]
theorem xD(w:Ur):(tl true true w []).sch=w.sch/\(tl true true w []).usr=w.usr/\(tl true true w []).pas=w.pas/\(tl true true w []).hst=w.hst/\(tl true true w []).hp=w.hp/\(tl true true w []).prt=w.prt:=by unfold tl;rw[if_pos (.inl rfl)];exact⟨rfl,rfl,rfl,rfl,rfl,rfl⟩
theorem JZ{A:List Int->List Int->Int->Prop}{h:Hst}{p:Nat}(hk:Y.Hk (H.txt h))(hp0:1<=p)(hp1:p<=65535):hcut false (ttx h p)=(H.txt h,some (F.wr 10 p)):=by unfold ttx;rw[hk.h (58::F.wr 10 p)];have:hcut false (58::F.wr 10 p)=([],some (F.wr 10 p)):=Y.pD (some (F.wr 10 p));rw[this,append_nil]
theorem Eg{h:Hst}{p:Nat}(hv:Vis (H.txt h))(hk:Y.Hk (H.txt h))(hp0:1<=p)(hp1:p<=65535):Vis (ttx h p)/\∀ c∈ttx h p,c≠47/\c≠63/\c≠35/\c≠64/\c≠92:=by
 obtain⟨_,_,hd⟩:=ju hp0 hp1;refine⟨Vis.app hv (Vis.cons (by decide) (by decide) (fun c hc=>by have:=hd c hc;omega)),fun c hc=>?_⟩;rcases List.mem_append.1 hc with hc | hc
 ·exact hk.n c hc
 ·rcases List.mem_cons.1 hc with rfl | hc
  ·decide
  ·have:=hd c hc;omega
theorem AB.rests{A:List Int->List Int->Int->Prop}(hA:Asc A){h:Hst}{p:Nat}(c:Can A h)(hv:Vis (H.txt h))(hk:Y.Hk (H.txt h))(hne:H.txt h≠[])(hp0:1<=p)(hp1:p<=65535){m:List Int}(hm:m=aN\/m=bG){r:Hst×Nat}(x:AB A (m++58::47::47::ttx h p) r):r=(h,p):=by
 obtain⟨u,e,x1,x2⟩:=x;obtain⟨hw1,hw2,hw3⟩:=ju hp0 hp1;obtain⟨wa,wb,wc⟩:=Y.nG hp1;obtain⟨hov,hon⟩:=Eg hv hk hp0 hp1;obtain⟨ho,hf,_⟩:=uX hm;have hl:(ttx h p).length<=4000:=by unfold ttx;rw[length_append,length_cons];have:=c.l;omega
 have hcut':=JZ (A:=A) (h:=h) hk hp0 hp1;have h64:64∉ttx h p:=fun hh=>(hon 64 hh).2.2.2.1 rfl;have hbeh:beh (ttx h p)=ttx h p:=Y.tR (fun c hc=>(hon c hc).2.2.2.1);obtain⟨h',hq,hr⟩:=JX hm hov (fun c hc=>⟨(hon c hc).1,(hon c hc).2.1,(hon c hc).2.2.1,(hon c hc).2.2.2.2⟩) hl x1;have hask:Y.ask true (ttx h p)=some (H.txt h):=by unfold Y.ask;rw[if_neg (fun hh=>h64 hh.1),hbeh,hcut',if_neg (fun hh=>hne hh.1)]
 have hh:h'=h:=HP.one hA (hq _ hask) c.hp;subst hh;have hpo:por (own m) (some (F.wr 10 p))=(if own m=some p then some (false,0) else some (true,p)):=by unfold por;simp only;rw[if_neg wc,if_pos ⟨wa,by omega⟩,wb]
 have hath:ath m (ttx h' p) h'=({ zu with sch:=m,usr:=[],pas:=[],hh:=true,hst:=(h'.1,h'.2.1,h'.2.2.1,h'.2.2.2.1),hp:=(if own m=some p then false else true),prt:=(if own m=some p then 0 else p) },0):=by
  unfold ath;rw[ho,hask,if_neg (by simp),if_neg (by rw[c.e];simp),hbeh,hcut'];simp only;rw[hpo];by_cases hop:own m=some p
  ·rw[if_pos hop,if_pos hop,if_pos hop];simp only[if_neg h64]
  ·rw[if_neg hop,if_neg hop,if_neg hop];simp only[if_neg h64]
 rw[hath,if_neg (by simp)]at hr;obtain⟨rfl,rfl⟩:=Prod.mk.inj hr;have t:=xD { zu with sch:=m,usr:=[],pas:=[],hh:=true,hst:=(h'.1,h'.2.1,h'.2.2.1,h'.2.2.2.1),hp:=(if own m=some p then false else true),prt:=(if own m=some p then 0 else p) };obtain⟨t1,t2,t3,t4,t5,t6⟩:=t;simp only at t1 t2 t3 t4 t5 t6;rw[if_neg (by simp),t1,if_neg (by rcases hm with h | h <;> simp[h]),t2,t3,if_neg (by simp)]at x2;obtain⟨g,hg,rfl⟩:=x2;have huh:uh (tl true true { zu with sch:=m,usr:=[],pas:=[],hh:=true,hst:=(h'.1,h'.2.1,h'.2.2.1,h'.2.2.2.1),hp:=(if own m=some p then false else true),prt:=(if own m=some p then 0 else p) } [])=h':=by unfold uh;rw[t4];obtain⟨k,n,f,a,e⟩:=h';have:=c.e;simp only at this ⊢;rw[this]
 rw[huh]at hg;have hgh:=c.CH hA hg;subst hgh;rw[t5,t6]
 have hport:(if (if own m=some p then false else true)=true then (if own m=some p then 0 else p) else (own m).getD 0)=p:=by
  by_cases hop:own m=some p
  ·simp[hop]
  ·simp[hop]
 rw[hport];unfold fin;rw[if_neg (by rw[c.e];simp),if_neg (by omega)]
theorem JH{h:Hst}{p:Nat}(hp0:1<=p)(hp1:p<=65535):dD (ttx h p)=(H.txt h,some (F.wr 10 p)):=by
 obtain⟨_,_,hd⟩:=ju hp0 hp1;have hr:(ttx h p).reverse=(F.wr 10 p).reverse++58::(H.txt h).reverse:=by unfold ttx;simp
 have hnc:∀ c∈(F.wr 10 p).reverse,nc c=true:=fun c hc=>by have:=hd c (List.mem_reverse.1 hc);unfold nc;simp;omega
 obtain⟨a,b⟩:=Y.fG (f:=nc) (p:=(F.wr 10 p).reverse) (q:=58::(H.txt h).reverse) hnc (.inr ⟨58,_,rfl,by decide⟩);unfold dD;rw[hr,a,b,if_pos (by rfl)];simp
theorem AU.rests{A:List Int->List Int->Int->Prop}(hA:Asc A){h:Hst}{p q:Nat}(c:Can A h)(hv:Vis (H.txt h))(hk:Y.Hk (H.txt h))(hp0:1<=p)(hp1:p<=65535){r:Hst×Nat}(x:AU A (ttx h p) q r):r=(h,p):=by
 obtain⟨hw1,hw2,hw3⟩:=ju hp0 hp1;obtain⟨hov,hon⟩:=Eg hv hk hp0 hp1;have hl:(ttx h p).length<=4000:=by unfold ttx;rw[length_append,length_cons];have:=c.l;omega
 have h64:64∉ttx h p:=fun hh=>(hon 64 hh).2.2.2.1 rfl;have hb:¬ (ttx h p).any bad=true:=fun hh=>by obtain⟨d,hd,hbd⟩:=List.any_eq_true.1 hh;have:=hov d hd;unfold bad at hbd;simp at hbd;omega
 unfold AU at x;rw[if_neg (by omega),if_neg hb,if_neg h64,JH hp0 hp1]at x;obtain⟨y,hy,x⟩:=x;have hyh:=HP.one hA hy c.hp;subst hyh;rw[if_neg (by rw[c.e];simp)]at x;obtain⟨g,hg,x⟩:=x;have hgh:=c.CH hA hg;subst hgh;rw[if_neg (by rw[c.e];simp)]at x;simp only at x;rw[x,hw1];unfold fin;rw[if_neg (by rw[c.e];simp),if_neg (by omega)]
end Cn
namespace H
theorem so:∀ l a,X.prs l=some a->a.length=8/\X.Small a:=fun l a h=>⟨X.mR h,X.lJ h⟩
end H
namespace Cn
open F (bn)
open H (Hst hv aR eZ fa)
theorem eq_self(a:Tg)(w:World):(Op.equalIn 10000 29 (.agg a.cs) (.agg a.cs)).run prog w=.ok true w:=by
 rw[run_equalIn_struct w 9999 29 _ _ (by kernel_rfl) (by kernel_rfl)];have hf:=fields_target;generalize (prog.fieldsOf 29).toList=fs at hf ⊢;match fs,hf with
 | [],hf=>cases hf
 | [_],hf=>simp at hf
 | _::_::_::_,hf=>simp at hf
 | [f0,f1],hf =>
  simp only[map_cons,map_nil,List.cons.injEq,Prod.mk.injEq,decide_eq_false_iff_not,and_true]at hf;obtain⟨⟨t0,o0,n0⟩,⟨t1,o1,n1⟩⟩:=hf;have g16:∀ w,(isAgg 22).run prog w=.ok false w:=fun w=>by kernel_rfl
  simp only[Op.eqFields,ne_eq,n0,n1,not_false_eq_true,if_true,t0,t1,o0,o1,Sem.run_bind];rw[eF,Result.andThen_ok,eF,Result.andThen_ok];have e:=fa 9996 (a.k:Nat) a.nm (a.f:Nat) (a.x0:Nat) (a.x1:Nat) (a.x2:Nat) (a.x3:Nat) (a.x4:Nat) (a.x5:Nat) (a.x6:Nat) (a.x7:Nat) (a.k:Nat) a.nm (a.f:Nat) (a.x0:Nat) (a.x1:Nat) (a.x2:Nat) (a.x3:Nat) (a.x4:Nat) (a.x5:Nat) (a.x6:Nat) (a.x7:Nat) w;rw[eZ]at e;rw[show(.agg a.hs:Value)=hv (a.k:Nat) a.nm (a.f:Nat) (a.x0:Nat) (a.x1:Nat) (a.x2:Nat) (a.x3:Nat) (a.x4:Nat) (a.x5:Nat) (a.x6:Nat) (a.x7:Nat) from rfl,e,Result.andThen_ok];simp only[Bool.not_true,Bool.false_eq_true,if_false,Sem.run_bind];rw[aR _ g16 _ 11 (.int .u16 (a.p:Nat)) rfl,Result.andThen_ok,aR _ g16 _ 11 (.int .u16 (a.p:Nat)) rfl,Result.andThen_ok,run_equalIn_int w 9998 22 .u16 .u16 _ _ underlying22,Result.andThen_ok];simp
theorem pQ(a:Tg)(w:World):(binOp .eql 29 (.agg a.cs) (.agg a.cs)).run prog w=.ok (.bool true) w:=by rw[run_eql_struct,eq_self];rfl
theorem GV(a:Tg)(w:World):(binOp .neq 29 (.agg a.cs) (.agg a.cs)).run prog w=.ok (.bool false) w:=by rw[run_neq_struct,eq_self];rfl
theorem Da(a:Tg)(w:World):(binOp .eql 27 (.agg a.hs) (.agg a.hs)).run prog w=.ok (.bool true) w:=by have e:=fa 9997 (a.k:Nat) a.nm (a.f:Nat) (a.x0:Nat) (a.x1:Nat) (a.x2:Nat) (a.x3:Nat) (a.x4:Nat) (a.x5:Nat) (a.x6:Nat) (a.x7:Nat) (a.k:Nat) a.nm (a.f:Nat) (a.x0:Nat) (a.x1:Nat) (a.x2:Nat) (a.x3:Nat) (a.x4:Nat) (a.x5:Nat) (a.x6:Nat) (a.x7:Nat) w;rw[eZ]at e;rw[run_eql_struct,show(.agg a.hs:Value)=hv (a.k:Nat) a.nm (a.f:Nat) (a.x0:Nat) (a.x1:Nat) (a.x2:Nat) (a.x3:Nat) (a.x4:Nat) (a.x5:Nat) (a.x6:Nat) (a.x7:Nat) from rfl];rw[show(10000:Nat)=9997+3 from rfl,e];rfl
open F (bn aa aO hid)
open H (Hst Asc)
theorem Bm{A:List Int->List Int->Int->Prop}{G:World->Prop}(C:Ctr A G)(t:Tg)(h:Hst)(p:Nat)(w:World)(hG:G w)(ht:Tv t h p)(hl:Lm t)(he:h.2.2.2.2=0)(hp:p≠0)(hx:(ttx h p).length<=90000)
  (hau:∀ r,AU A (ttx h p) 0 r->r=(h,p)) (hab:∀ r,AB A ([104,116,116,112,58,47,47]++ttx h p) r->r=(h,p)) (hch:∀ r,CH A h r->r=h) :
  Calls prog 7 #[.agg (Tg.cs t)] w fun e W'=>e=.returned (.bool true)/\Below w.heap.size w W':=by
 have HK:Hid (∀ W,Below w.heap.size w W->G W):=fun W h=>C.keep w W hG h;have HC:=hid C;have HT:=hid ht;have HL:=hid hl;have HAU:=hid hau;have HAB:=hid hab;have HE:=hid he;have hwo:wo h=h:=by obtain⟨k,n,f,a,e⟩:=h;simp only at he;unfold wo;simp only;rw[he]
 have HCH:Hid (∀ r,CH A (wo h) r->r=h):=by intro r hr;rw[hwo]at hr;exact hch r hr
 have HM:Hid (∀ r,r=h->decide (r=wo h/\p≠0)=true):=fun r hr=>decide_eq_true ⟨by rw[hr,hwo],hp⟩;have HXL:=hid hx;have HHI:Hid ((prog.info? 27).map (·.size)=some (Tg.hs t).toList.length):=by show _=_;rw[Array.length_toList];exact aD t
 have HS:Hid (∀ b:Tg,Tv b h 0->Tg.hs b=Tg.hs t):=fun b hb=>by have e:({ t with p:=0 }:Tg)=b:=Tv.one (h:=h) (p:=0) ⟨ht.k,ht.n,ht.f,ht.x,rfl⟩ hb;rw[<-e];rfl
 have heq:=pQ t;have hhq:=Da t;obtain⟨V,hV⟩:=Ex' (w.alloc (.cells (Tg.cs t) 29));have R0:Hid (V.heap[w.heap.size]? = some (.cells (Tg.cs t) 29 (0,0))):=by rw[<-hV];exact aK w _ _
 have HB:Hid (Below w.heap.size w V):=by rw[<-hV];exact(Below.refl _ w).alloc (le_refl _) _
 have HTX:=hid (HC.out.ct t h p V HT.out HL.out (HK.out _ HB.out));clear C hG ht hl he hp hx hau hab hch hwo;go_enter func7,ntmps7;go_wp2_with(refine wpList_load_row rfl 29 (.tmp 1) rfl w.heap.size rfl 29 (Tg.cs t) (0,0) _ R0.out underlying29 rfl (aG t) ?_);clear hV;refine HTX.out.mono ?_;rintro e v1 ⟨⟨s,rfl,hs⟩,B⟩;replace R0:=hid (kept R0.out B);replace HB:=Bt' HB B;have hsz:s.size<=90000:=by rw[<-aa,hs];exact HXL.out
 have HBS:=hid hs;have HP2:=hid (HC.out.cu s 0 v1 (by omega) (by decide) (HK.out _ HB.out));clear hs B HTX;go_wp2_with fail;refine HP2.out.mono ?_;rintro e v2 ⟨⟨a,g,q,hP,ha,hla,rfl⟩,B⟩;rw[HBS.out]at hP;obtain⟨e1,e2⟩:=Prod.mk.inj (HAU.out _ hP);have e3:=e1.symm;have e4:=e2.symm;clear e1 e2 hP;subst e3;subst e4;have e5:=(Tv.one ha HT.out).symm;subst e5;rw[HE.out];clear ha hla;replace R0:=hid (kept R0.out B);replace HB:=Bt' HB B;have X2:=hid (aK v2 zt 29);obtain⟨pk,pb⟩:=eM v2 zt (Tg.cs t) 29;have R2:=hid pk;replace R0:=hid (kept R0.out pb);replace HB:=Bt' HB pb;have HBH:Hid (bn (⟨#[104,116,116,112,58,47,47]⟩++s)=[104,116,116,112,58,47,47]++ttx h p):=by show _=_;rw[aO,HBS.out];rfl
 have hsz2:(⟨#[104,116,116,112,58,47,47]⟩++s:ByteArray).size<=100000:=by rw[ByteArray.size_append];have:(⟨#[104,116,116,112,58,47,47]⟩:ByteArray).size=7:=rfl;omega
 have HP3:=hid (HC.out.ca _ _ hsz2 (HK.out _ HB.out));clear B pk pb HP2 hsz2;go_wp2_with(refine wpList_store_row rfl 29 (.tmp 4) (.tmp 15) rfl v2.heap.size (Tg.cs t) rfl rfl 29 zt X2.out (aG t) rfl (cT t) ?_);refine HP3.out.mono ?_;rintro e v3 ⟨⟨a,g,q,hP,ha,hla,rfl⟩,B⟩;rw[HBH.out]at hP;obtain⟨e1,e2⟩:=Prod.mk.inj (HAB.out _ hP);have e3:=e1.symm;have e4:=e2.symm;clear e1 e2 hP;subst e3;subst e4;have e5:=(Tv.one ha HT.out).symm;subst e5;rw[HE.out];clear ha hla;replace R0:=hid (kept R0.out B);replace R2:=hid (kept R2.out B);replace HB:=Bt' HB B;have X3:=hid (aK v3 zt 29);obtain⟨pk,pb⟩:=eM v3 zt (Tg.cs t) 29;have R3:=hid pk;replace R0:=hid (kept R0.out pb);replace R2:=hid (kept R2.out pb);replace HB:=Bt' HB pb;have M0:=hid (mY R0.out);have HP4:=hid (HC.out.ch t h p _ HT.out HL.out (HK.out _ HB.out));have e11:(Tg.hs t).toList.toArray=Tg.hs t:=rfl;clear B pk pb HP3;go_wp2_with(first | (refine wpList_store_row rfl 29 (.tmp 6) (.tmp 21) rfl v3.heap.size (Tg.cs t) rfl rfl 29 zt X3.out (aG t) rfl (cT t) ?_) | (refine wpList_load_mid rfl 27 (.tmp 24) rfl w.heap.size 0 rfl (Tg.hs t).toList _ M0.out underlying27 rfl HHI.out ?_));refine HP4.out.mono ?_;rintro e v4 ⟨⟨b,r,hr,hb,rfl⟩,B⟩;have er:=(HCH.out _ hr).symm;subst er;rw[HS.out b hb,HE.out];clear hr hb;replace R0:=hid (kept R0.out B);replace R2:=hid (kept R2.out B);replace R3:=hid (kept R3.out B);replace HB:=Bt' HB B;have X4:=hid (aK v4 zh 27);obtain⟨pk,pb⟩:=eM v4 zh (Tg.hs t) 27;have R4:=hid pk;replace R0:=hid (kept R0.out pb);replace R2:=hid (kept R2.out pb);replace R3:=hid (kept R3.out pb);replace HB:=Bt' HB pb;have HP5:=hid (HC.out.cm t h p _ HT.out HL.out (HK.out _ HB.out));clear B pk pb HP4 M0;go_wp2_with(first | (refine wpList_store_row rfl 27 (.tmp 8) (.tmp 27) rfl v4.heap.size (Tg.hs t) rfl rfl 27 zh X4.out (aD t) rfl (bW t) ?_) | (refine wpList_load_row rfl 29 (.tmp 1) rfl w.heap.size rfl 29 (Tg.cs t) (0,0) _ R0.out underlying29 rfl (aG t) ?_));refine HP5.out.mono ?_;rintro e v5 ⟨⟨b,r,hr,hb,rfl⟩,B⟩;rw[HM.out r (HCH.out _ hr)]at hb;subst hb;replace R0:=hid (kept R0.out B);replace R2:=hid (kept R2.out B);replace R3:=hid (kept R3.out B);replace R4:=hid (kept R4.out B);replace HB:=Bt' HB B;have M0:=hid (mY R0.out);clear B HP5 hr;go_wp2_with(first | (refine aP (by rfl) ?_;refine wpList_load_row rfl 29 (.tmp 1) rfl w.heap.size rfl 29 (Tg.cs t) (0,0) _ R0.out underlying29 rfl (aG t) ?_) | (refine aP (by rfl) ?_;refine wpList_load_row rfl 29 (.tmp 4) rfl v2.heap.size rfl 29 (Tg.cs t) (0,0) _ R2.out underlying29 rfl (aG t) ?_) | (refine aP (by rfl) ?_;refine wpList_load_row rfl 29 (.tmp 6) rfl v3.heap.size rfl 29 (Tg.cs t) (0,0) _ R3.out underlying29 rfl (aG t) ?_) | (refine aP (by rfl) ?_;refine wpList_load_row rfl 27 (.tmp 8) rfl v4.heap.size rfl 27 (Tg.hs t) (0,0) _ R4.out underlying27 rfl (aD t) ?_) | (refine aP (by rfl) ?_;refine wpList_load_mid rfl 27 (.tmp 55) rfl w.heap.size 0 rfl (Tg.hs t).toList _ M0.out underlying27 rfl HHI.out ?_));go_ret;exact⟨rfl,HB.out⟩
open F (bn hid)
open H (Hst non)
theorem tn{h g:Hst}{p q:Nat}{e:Int}(x:(h,p)=fin g q e)(h0:h.2.2.2.2≠0):(h,p)=(non h.2.2.2.2,0):=by
 unfold fin at x;split at x
 ·obtain⟨rfl,rfl⟩:=Prod.mk.inj x;rfl
 rename_i hh;split at x
 ·obtain⟨rfl,rfl⟩:=Prod.mk.inj x;rfl
 ·obtain⟨rfl,rfl⟩:=Prod.mk.inj x;exact absurd (Classical.byContradiction hh) h0
theorem fp{h:Hst}{p:Nat}{e:Int}(x:(h,p)=(non e,0)):(h,p)=(non h.2.2.2.2,0):=by obtain⟨rfl,rfl⟩:=Prod.mk.inj x;rfl
theorem AB.err{A:List Int->List Int->Int->Prop}{s:List Int}{h:Hst}{p:Nat}(x:AB A s (h,p))(h0:h.2.2.2.2≠0):(h,p)=(non h.2.2.2.2,0):=by
 obtain⟨u,e,_,x⟩:=x;split at x
 ·exact fp x
 split at x
 ·exact fp x
 split at x
 ·exact fp x
 obtain⟨g,_,x⟩:=x;exact tn x h0
theorem AU.err{A:List Int->List Int->Int->Prop}{s:List Int}{q:Nat}{h:Hst}{p:Nat}(x:AU A s q (h,p))(h0:h.2.2.2.2≠0):(h,p)=(non h.2.2.2.2,0):=by
 unfold AU at x;split at x
 ·exact fp x
 split at x
 ·exact fp x
 split at x
 ·exact fp x
 obtain⟨y,_,x⟩:=x;split at x
 ·exact fp x
 obtain⟨g,_,x⟩:=x;split at x
 ·exact fp x
 cases hp:(dD s).2 with
 | none=>rw[hp]at x;exact tn x h0
 | some d=>rw[hp]at x;exact tn x h0
theorem rU{a:Tg}{h:Hst}{p:Nat}{e:Int}(t:Tv a h p)(x:(h,p)=(non e,0)):a=ztg:=by obtain⟨rfl,rfl⟩:=Prod.mk.inj x;exact Tv.one t ⟨rfl,rfl,rfl,rfl,rfl⟩
theorem GS(W:World):(binOp .neq 29 (.agg (Tg.cs ztg)) (.agg #[.int .u8 0,.string ⟨#[]⟩,.int .u32 0,.int .u16 0,.int .u16 0,.int .u16 0,.int .u16 0,.int .u16 0,.int .u16 0,.int .u16 0,.int .u16 0,.int .u16 0])).run prog W=.ok (.bool false) W:=by have h:(.agg #[.int .u8 0,.string ⟨#[]⟩,.int .u32 0,.int .u16 0,.int .u16 0,.int .u16 0,.int .u16 0,.int .u16 0,.int .u16 0,.int .u16 0,.int .u16 0,.int .u16 0]:Value)=.agg (Tg.cs ztg):=rfl;rw[h];exact GV ztg W
structure NJ(A:List Int->List Int->Int->Prop)(h:Hst)(p:Nat):Prop where
 nz:p≠0
 l:(ttx h p).length<=90000
 au:∀ r,AU A (ttx h p) 0 r->r=(h,p)
 ab:∀ r,AB A ([104,116,116,112,58,47,47]++ttx h p) r->r=(h,p)
 ch:∀ r,CH A h r->r=h
theorem pH{A:List Int->List Int->Int->Prop}{G:World->Prop}(C:Ctr A G){t:Tg}{h:Hst}{p:Nat}(g:NJ A h p)(ht:Tv t h p)(hl:Lm t)(he:h.2.2.2.2=0)(w:World)(hG:G w):Calls prog 7 #[.agg (Tg.cs t)] w fun e W'=>e=.returned (.bool true)/\Below w.heap.size w W' :=
 Bm C t h p w hG ht hl he g.nz g.l g.au g.ab g.ch
theorem xV{A:List Int->List Int->Int->Prop}{G:World->Prop}(C:Ctr A G)(HWK:∀ W,G W->Calls prog 5 #[] W fun e W'=>e=.returned (.bool true)/\Below W.heap.size W W')
  (HA:∀(s:List Int) (h:Hst) (p:Nat),U.Bytes s->AB A s (h,p)->h.2.2.2.2=0->NJ A h p) (HU:∀(s:List Int) (q:Nat) (h:Hst) (p:Nat),q<=65535->AU A s q (h,p)->h.2.2.2.2=0->NJ A h p)
  (s:ByteArray) (q:Nat) (hq:q<=65535) (w:World) (hG:G w):Calls prog 3 #[.string s,.int .u16 (q:Nat)] w fun e W'=>e=.returned (.bool true)/\Below w.heap.size w W':=by
 have HK:Hid (∀ W,Below w.heap.size w W->G W):=fun W h=>C.keep w W hG h
 have HW:Hid (∀ W,Below w.heap.size w W->Calls prog 5 #[] W fun e W'=>e=.returned (.bool true)/\Below w.heap.size w W'):=fun W h=>(HWK W (HK.out W h)).mono (by
   rintro e W' ⟨rfl,hB⟩
   exact⟨rfl,h.trans (hB.mono h.size)⟩)
 have HB:Hid (Below w.heap.size w w):=Below.refl _ _;by_cases h9:900<s.size
 ·have h9z:(900:Int)<(s.size:Int):=by omega
  clear C HA HU HWK hG;go_enter func3,ntmps3;go_wp2_with(go_at_call 5;refine(HW.out _ HB.out).mono ?_;rintro e w2 ⟨rfl,B2⟩);go_ret;exact⟨rfl,B2⟩
 have h9z:¬ (900:Int)<(s.size:Int):=by omega
 have HP1:=hid (C.ca s w (by omega) hG);have HC:=hid C;have HHA:=hid (HA (bn s));have HHU:=hid (HU (bn s) q);have HQ:=hid hq;have HNZ:=GS;have hsz:s.size<=900:=by omega
 clear C HA HU HWK hG hq h9;go_enter func3,ntmps3;go_wp2_with fail;refine HP1.out.mono ?_;rintro e v1 ⟨⟨a,h,p,hP,ha,hla,rfl⟩,B⟩;replace HB:=Bt' HB B;have X1:=hid (aK v1 zt 29);obtain⟨pk,pb⟩:=eM v1 zt (Tg.cs a) 29;have R1:=hid pk;replace HB:=Bt' HB pb;clear B pk pb HP1;by_cases he:h.2.2.2.2=0
 ·have HR1:=hid (pH HC.out (HHA.out _ _ (U.aL s) hP he) ha hla he _ (HK.out _ HB.out));rw[he];clear hP ha hla he;go_wp2_with(first | (refine wpList_store_row rfl 29 (.tmp 5) (.tmp 16) rfl v1.heap.size (Tg.cs a) rfl rfl 29 zt X1.out (aG a) rfl (cT a) ?_) | (refine aP (by rfl) ?_;refine wpList_load_row rfl 29 (.tmp 5) rfl v1.heap.size rfl 29 (Tg.cs a) (0,0) _ R1.out underlying29 rfl (aG a) ?_));refine HR1.out.mono ?_;rintro e u1 ⟨rfl,B⟩;replace HB:=Bt' HB B;clear B HR1;have HP2:=hid (HC.out.cu s q _ (by omega) HQ.out (HK.out _ HB.out));go_wp2_with fail;refine HP2.out.mono ?_;rintro e v3 ⟨⟨a,h,p,hP,ha,hla,rfl⟩,B⟩;replace HB:=Bt' HB B;have X2:=hid (aK v3 zt 29);obtain⟨pk,pb⟩:=eM v3 zt (Tg.cs a) 29;have R2:=hid pk;replace HB:=Bt' HB pb;clear B pk pb HP2;by_cases he:h.2.2.2.2=0
  ·have HR2:=hid (pH HC.out (HHU.out _ _ HQ.out hP he) ha hla he _ (HK.out _ HB.out));rw[he];clear hP ha hla he;go_wp2_with(first | (refine wpList_store_row rfl 29 (.tmp 7) (.tmp 38) rfl v3.heap.size (Tg.cs a) rfl rfl 29 zt X2.out (aG a) rfl (cT a) ?_) | (refine aP (by rfl) ?_;refine wpList_load_row rfl 29 (.tmp 7) rfl v3.heap.size rfl 29 (Tg.cs a) (0,0) _ R2.out underlying29 rfl (aG a) ?_));refine HR2.out.mono ?_;rintro e u2 ⟨rfl,B⟩;replace HB:=Bt' HB B;clear B HR2;go_wp2_with(go_at_call 5;refine(HW.out _ HB.out).mono ?_;rintro e w2 ⟨rfl,B2⟩);go_ret;exact⟨rfl,B2⟩
  ·have hz:=rU ha (AU.err hP he);subst hz;obtain⟨er,her⟩:=Ex' (h.2.2.2.2);rw[her]at he ⊢;have hee:(er==0)=false:=by simpa using he
   have hen:(er != 0)=true:=by simpa using he
   clear hP ha hla he her;go_wp2_with(first | (refine wpList_store_row rfl 29 (.tmp 7) (.tmp 38) rfl v3.heap.size (Tg.cs ztg) rfl rfl 29 zt X2.out (aG ztg) rfl (cT ztg) ?_) | (refine aP (by rfl) ?_;refine wpList_load_row rfl 29 (.tmp 7) rfl v3.heap.size rfl 29 (Tg.cs ztg) (0,0) _ R2.out underlying29 rfl (aG ztg) ?_) | (go_at_call 5;refine(HW.out _ HB.out).mono ?_;rintro e w2 ⟨rfl,B2⟩));go_ret;exact⟨rfl,B2⟩
 ·have hz:=rU ha (AB.err hP he);subst hz;obtain⟨er,her⟩:=Ex' (h.2.2.2.2);rw[her]at he ⊢;have hee:(er==0)=false:=by simpa using he
  have hen:(er != 0)=true:=by simpa using he
  clear hP ha hla he her;have HP2:=hid (HC.out.cu s q _ (by omega) HQ.out (HK.out _ HB.out));go_wp2_with(first | (refine wpList_store_row rfl 29 (.tmp 5) (.tmp 16) rfl v1.heap.size (Tg.cs ztg) rfl rfl 29 zt X1.out (aG ztg) rfl (cT ztg) ?_) | (refine aP (by rfl) ?_;refine wpList_load_row rfl 29 (.tmp 5) rfl v1.heap.size rfl 29 (Tg.cs ztg) (0,0) _ R1.out underlying29 rfl (aG ztg) ?_));refine HP2.out.mono ?_;rintro e v3 ⟨⟨a,h,p,hP,ha,hla,rfl⟩,B⟩;replace HB:=Bt' HB B;have X2:=hid (aK v3 zt 29);obtain⟨pk,pb⟩:=eM v3 zt (Tg.cs a) 29;have R2:=hid pk;replace HB:=Bt' HB pb;clear B pk pb HP2;by_cases he:h.2.2.2.2=0
  ·have HR2:=hid (pH HC.out (HHU.out _ _ HQ.out hP he) ha hla he _ (HK.out _ HB.out));rw[he];clear hP ha hla he;go_wp2_with(first | (refine wpList_store_row rfl 29 (.tmp 7) (.tmp 38) rfl v3.heap.size (Tg.cs a) rfl rfl 29 zt X2.out (aG a) rfl (cT a) ?_) | (refine aP (by rfl) ?_;refine wpList_load_row rfl 29 (.tmp 7) rfl v3.heap.size rfl 29 (Tg.cs a) (0,0) _ R2.out underlying29 rfl (aG a) ?_));refine HR2.out.mono ?_;rintro e u2 ⟨rfl,B⟩;replace HB:=Bt' HB B;clear B HR2;go_wp2_with(go_at_call 5;refine(HW.out _ HB.out).mono ?_;rintro e w2 ⟨rfl,B2⟩);go_ret;exact⟨rfl,B2⟩
  ·have hz:=rU ha (AU.err hP he);subst hz;obtain⟨er,her⟩:=Ex' (h.2.2.2.2);rw[her]at he ⊢;have hee:(er==0)=false:=by simpa using he
   have hen:(er != 0)=true:=by simpa using he
   clear hP ha hla he her;go_wp2_with(first | (refine wpList_store_row rfl 29 (.tmp 7) (.tmp 38) rfl v3.heap.size (Tg.cs ztg) rfl rfl 29 zt X2.out (aG ztg) rfl (cT ztg) ?_) | (refine aP (by rfl) ?_;refine wpList_load_row rfl 29 (.tmp 7) rfl v3.heap.size rfl 29 (Tg.cs ztg) (0,0) _ R2.out underlying29 rfl (aG ztg) ?_) | (go_at_call 5;refine(HW.out _ HB.out).mono ?_;rintro e w2 ⟨rfl,B2⟩));go_ret;exact⟨rfl,B2⟩
open H (Hst HP Asc non dom)
open Y (UP Vis aN bG)
theorem Can.bytes{A:List Int->List Int->Int->Prop}(hA:Asc A){h:Hst}(c:Can A h)(h4:h.2.2.1<4294967296)(h8:h.2.2.2.1.length=8)(hs:X.Small h.2.2.2.1):U.Bytes (H.txt h):=by
 rcases c.k with hk | hk | hk
 ·have hx:=c.hp;have htx:H.txt h=h.2.1:=by unfold H.txt;rw[if_pos (.inl hk)]
  unfold HP at hx;rw[if_neg (by have:=c.l;omega)]at hx;split at hx
  ·exfalso;rw[hx]at hk;unfold H.six at hk;split at hk
   ·split at hk <;> cases hk
   ·cases hk
  rw[if_neg (by simp)]at hx;obtain⟨d,r,hd,hdm⟩:=hx;unfold dom at hdm;split at hdm
  ·rw[hdm]at hk;cases hk
  rename_i hr;split at hdm
  ·split at hdm <;> (rw[hdm]at hk;cases hk)
  have hr0:r=0:=Classical.byContradiction fun e=>hr (.inl e);rw[hr0]at hd;rw[htx,hdm];exact fun b hb=>by have:=hA.low hd b hb;exact⟨this.1,by omega⟩
 ·have:H.txt h=F.txt h.2.2.1:=by unfold H.txt;rw[if_neg (by omega),if_pos hk]
  rw[this];exact fun b hb=>by have:=H.iq h4 b hb;exact⟨by omega,by omega⟩
 ·have:H.txt h=91::(X.txt h.2.2.2.1++[93]):=by unfold H.txt;rw[if_neg (by omega),if_neg (by omega),if_pos hk]
  rw[this];intro b hb;rcases List.mem_cons.1 hb with rfl | hb
  ·decide
  ·rcases List.mem_append.1 hb with hb | hb
   ·have:=Y.od h8 hs hb;exact⟨by omega,by omega⟩
   ·rw[List.mem_singleton.1 hb];decide
theorem tK{x:Hst}{b:Bool}(he:(ch x b).2.2.2.2=0):(ch x b).2.2.1=x.2.2.1/\(ch x b).2.2.2.1=x.2.2.2.1:=by
 unfold ch at he ⊢;split at he
 ·cases he
 rename_i h;rw[if_neg h];split at he
 ·rename_i h1;rw[if_pos h1];exact⟨rfl,rfl⟩
 ·rename_i h1;rw[if_neg h1];split at he
  ·rename_i h2;rw[if_pos h2];exact⟨rfl,rfl⟩
  ·cases he
structure Tgt(A:List Int->List Int->Int->Prop)(h:Hst)(p:Nat):Prop where
 c:Can A h
 p0:1<=p
 p1:p<=65535
 f:h.2.2.1<4294967296
 a:h.2.2.2.1.length=8
 s:X.Small h.2.2.2.1
 v:Vis (H.txt h)
 k:Y.Hk (H.txt h)
 n:H.txt h≠[]
theorem nS{A:List Int->List Int->Int->Prop}(hA:Asc A)(hD:qy A)(hX:∀ l a,X.prs l=some a->a.length=8/\X.Small a){x h:Hst}{p:Nat}(hx:x.2.2.2.2=0)(hc:CH A x h)(he:h.2.2.2.2=0)(f:x.2.2.1<4294967296)(a:x.2.2.2.1.length=8)(s:X.Small x.2.2.2.1)(p0:1<=p)(p1:p<=65535):Tgt A h p:=by
 have c:=CH.can hA hD hx hc he (by have:=H.kf f;omega) (by have:=(X.iT a).2;omega);obtain⟨b,m,rfl⟩:=hc;obtain⟨e1,e2⟩:=tK he;have f':(ch x b).2.2.1<4294967296:=by rw[e1];exact f
 have a':(ch x b).2.2.2.1.length=8:=by rw[e2];exact a
 have s':X.Small (ch x b).2.2.2.1:=by rw[e2];exact s
 obtain⟨v,k,n⟩:=c.ok hA (c.bytes hA f' a' s') hX a' s';exact⟨c,p0,p1,f',a',s',v,k,n⟩
theorem pO{h g:Hst}{p q:Nat}{e:Int}(x:(h,p)=fin g q e)(he0:e≠0)(h0:h.2.2.2.2=0):h=g/\p=q/\g.2.2.2.2=0/\q≠0:=by
 unfold fin at x;split at x
 ·rename_i hh;obtain⟨rfl,rfl⟩:=Prod.mk.inj x;exact absurd h0 hh
 rename_i hh;split at x
 ·obtain⟨rfl,rfl⟩:=Prod.mk.inj x;exact absurd h0 he0
 ·rename_i hq;obtain⟨rfl,rfl⟩:=Prod.mk.inj x;exact⟨rfl,rfl,h0,hq⟩
theorem AB.tgt{A:List Int->List Int->Int->Prop}(hA:Asc A)(hD:qy A)(hX:∀ l a,X.prs l=some a->a.length=8/\X.Small a){s:List Int}(hs:U.Bytes s){h:Hst}{p:Nat}(x:AB A s (h,p))(h0:h.2.2.2.2=0):Tgt A h p:=by
 obtain⟨u,e,x1,x2⟩:=x;obtain⟨l1,l2,l3,l4,l5,_⟩:=UP.lim hA hs x1;have dead:∀ {k:Int},k≠0->(h,p)≠(non k,0):=fun hk hh=>by obtain⟨rfl,_⟩:=Prod.mk.inj hh;exact hk h0
 split at x2
 ·rename_i he;exact absurd x2 (dead he)
 split at x2
 ·exact absurd x2 (dead (by decide))
 rename_i hsc;split at x2
 ·exact absurd x2 (dead (by decide))
 obtain⟨g,hg,hr⟩:=x2;obtain⟨rfl,rfl,hg0,hp0⟩:=pO hr (by decide) h0;refine nS hA hD hX (x:=uh u) rfl hg hg0 l2 l3 l4 (by omega) ?_;split
 ·omega
 ·by_cases h1:u.sch=aN
  ·rw[h1];decide
  ·have h2:u.sch=bG:=Classical.byContradiction fun h2=>hsc ⟨h1,h2⟩;rw[h2];decide
theorem HP.lims{A:List Int->List Int->Int->Prop}(hX:∀ l a,X.prs l=some a->a.length=8/\X.Small a){s:List Int}{sp:Bool}{h:Hst}(x:HP A s sp h):h.2.2.1<4294967296/\h.2.2.2.1.length=8/\X.Small h.2.2.2.1:=by
 have z:∀ e:Int,(non e).2.2.1<4294967296/\(non e).2.2.2.1.length=8/\X.Small (non e).2.2.2.1:=fun e=>⟨by show 0<4294967296;decide,rfl,H.dN⟩;unfold HP at x;split at x
 ·rw[x];exact z 4
 split at x
 ·rw[x];unfold H.six;split
  ·split
   ·rename_i a ha;exact⟨by show 0<4294967296;decide,hX _ _ ha⟩
   ·exact z 70
  ·exact z 70
 split at x
 ·rw[x];unfold H.opq;split
  ·exact z 70
  split
  ·exact z 0
  ·exact⟨by show 0<4294967296;decide,rfl,H.dN⟩
 obtain⟨d,r,_,rfl⟩:=x;unfold dom;split
 ·exact z 70
 split
 ·split
  ·rename_i hp;exact⟨H.sH d hp,rfl,H.dN⟩
  ·exact z 70
 ·exact⟨by show 0<4294967296;decide,rfl,H.dN⟩
theorem AU.tgt{A:List Int->List Int->Int->Prop}(hA:Asc A)(hD:qy A)(hX:∀ l a,X.prs l=some a->a.length=8/\X.Small a){s:List Int}{q:Nat}(hq:q<=65535){h:Hst}{p:Nat}(x:AU A s q (h,p))(h0:h.2.2.2.2=0):Tgt A h p:=by
 have dead:∀ {k:Int},k≠0->(h,p)≠(non k,0):=fun hk hh=>by obtain⟨rfl,_⟩:=Prod.mk.inj hh;exact hk h0
 unfold AU at x;split at x
 ·exact absurd x (dead (by decide))
 split at x
 ·exact absurd x (dead (by decide))
 split at x
 ·exact absurd x (dead (by decide))
 obtain⟨y,hy,x⟩:=x;obtain⟨l2,l3,l4⟩:=HP.lims hX hy;split at x
 ·exact absurd x (dead (by decide))
 rename_i hy0;obtain⟨g,hg,x⟩:=x;split at x
 ·exact absurd x (dead (by decide))
 have hy0':y.2.2.2.2=0:=Classical.byContradiction hy0;cases hp:(dD s).2 with
 | none =>
  rw[hp]at x;obtain⟨rfl,rfl,hg0,hp0⟩:=pO x (by decide) h0;exact nS hA hD hX hy0' hg hg0 l2 l3 l4 (by omega) hq
 | some d =>
  rw[hp]at x;obtain⟨rfl,rfl,hg0,hp0⟩:=pO x (by decide) h0;refine nS hA hD hX hy0' hg hg0 l2 l3 l4 (by omega) ?_;unfold pt;split
  ·rename_i hh;exact hh.2.2.2
  ·exact zero_le _
theorem Tgt.rests{A:List Int->List Int->Int->Prop}(hA:Asc A){h:Hst}{p:Nat}(t:Tgt A h p):(∀ q r,AU A (ttx h p) q r->r=(h,p))/\(∀ m r,m=aN\/m=bG->AB A (m++58::47::47::ttx h p) r->r=(h,p))/\(∀ r,CH A h r->r=h) :=
 ⟨fun q r x=>AU.rests hA t.c t.v t.k t.p0 t.p1 x,fun m r hm x=>AB.rests hA t.c t.v t.k t.n t.p0 t.p1 hm x,fun r x=>t.c.CH hA x⟩
open H (Hst)
open Y (GU aN)
theorem Oo{d:Int}(h:(Lit.int .u16 d).wf=true):∃ q:Nat,d=q/\q<=65535:=by
 have h2:(0:Int)<=d/\d<=65535:=by simp[Lit.wf,IntKind.min,IntKind.max,IntKind.bits,IntKind.signed]at h;omega
 exact⟨d.toNat,by omega,by omega⟩
theorem Tgt.goes{h:Hst}{p:Nat}(t:Tgt H.IA h p):NJ H.IA h p where
 nz:=by have:=t.p0;omega
 l:=by unfold ttx;rw[length_append,length_cons];have h1:=t.c.l;have h2:=(ju t.p0 t.p1).2.1;omega
 au:=fun r x=>(t.rests H.asc).1 0 r x
 ab:=fun r x=>(t.rests H.asc).2.1 aN r (.inl rfl) x
 ch:=fun r x=>(t.rests H.asc).2.2 r x
theorem rests_at(s:ByteArray)(z:Int)(w:World)(hG:GU w)(hs:s.size<=maxLen)(hz:(Lit.int .u16 z).wf=true):Calls prog 3 #[.string s,.int .u16 z] w fun e W'=>e=.returned (.bool true)/\Below w.heap.size w W':=by obtain⟨q,rfl,hq⟩:=Oo hz;exact xV ctr (fun W h=>works_at W h) (fun s h p hb x h0=>(AB.tgt H.asc MT H.so hb x h0).goes) (fun s q h p hq x h0=>(AU.tgt H.asc MT H.so hq x h0).goes) s q hq w hG
end Cn
end Go.Proofs.YtmkompnhefhngaaGreatDoor
