/- Contracts and plain facts. -/
import Derived.Test.YtmkompnhefhngaaGreatDoorZ8
set_option maxRecDepth 100000
set_option maxHeartbeats 16000000
set_option linter.unusedVariables false
set_option linter.unnecessarySimpa false
open ByteArray (size_append)
open Nat (le_refl zero_le pow_succ)
open List (flatMap_cons length_append cons_append dropWhile_cons_of_neg append_assoc append_nil getElem?_eq_getElem map_cons map_nil nil_append flatMap_nil all_cons mem_of_mem_drop mem_of_getLast? zip_cons_cons zip_nil_right mem_cons length_cons filter_append mem_append)
open Bool (and_eq_true not_eq_true)
namespace Go.Proofs.YtmkompnhefhngaaGreatDoor
open Go.Proofs.Tryz Go.RowKit
namespace F
theorem pj{n:Nat}(h:n<16):hx (dg n)=n:=by unfold hx dg;(repeat' split) <;> omega
theorem nJ{b:Nat}(h2:2<=b)(h16:b<=16):∀(f n:Nat),n<b ^ (f+1)->ok b (wrF b f n)=true/\vl b (wrF b f n)=n
 | 0,n,h=>by
  have hn:n<b:=by simpa using h
  have hm:n % b=n:=Nat.mod_eq_of_lt hn;have hd:=pj (n:=n) (by omega);rw[wrF,hm];refine⟨?_,?_⟩
  ·unfold ok ij;simp[hd];omega
  ·unfold vl;simp[hd]
 | f+1,n,h=>by
  rw[wrF];split
  ·rename_i hn;have hd:=pj (n:=n) (by omega);refine⟨?_,?_⟩
   ·unfold ok ij;simp[hd];omega
   ·unfold vl;simp[hd]
  ·rename_i hn
   have hq:n / b<b ^ (f+1):=by
    rw[Nat.div_lt_iff_lt_mul (by omega)]
    rwa [pow_succ]at h
   obtain⟨i1,i2⟩:=nJ h2 h16 f (n / b) hq;have hm:n % b<b:=Nat.mod_lt _ (by omega);have hd:=pj (n:=n % b) (by omega);refine⟨?_,?_⟩
   ·rw[sL,i1];unfold ij;simp[hd];omega
   ·rw[ke,i2,hd];have:=Nat.div_add_mod n b;simp only[Int.toNat_natCast];rw[Nat.mul_comm];exact this
theorem kv{b:Nat}(h2:2<=b):2 ^ 64<=b ^ 65:=Nat.le_trans (Nat.pow_le_pow_right (by decide) (by decide:64<=65)) (Nat.pow_le_pow_left h2 65)
theorem cS{b n:Nat}(h2:2<=b)(h16:b<=16)(hn:n<2 ^ 64):ok b (wr b n)=true/\vl b (wr b n)=n:=nJ h2 h16 64 n (Nat.lt_of_lt_of_le hn (kv h2))
theorem nK(b f n:Nat):wrF b f n≠[]:=by
 cases f with
 | zero=>simp[wrF]
 | succ f=>rw[wrF];split <;> simp
theorem nI(b n:Nat):wr b n≠[]:=nK b 64 n
theorem fV{b:Nat}(h2:2<=b)(h16:b<=16):∀(f n:Nat),n<b ^ (f+1)->0<n->(wrF b f n)[0]?.getD 0≠48
 | 0,n,h,h0=>by
  have hn:n<b:=by simpa using h
  rw[wrF,Nat.mod_eq_of_lt hn];simp;unfold dg;split <;> omega
 | f+1,n,h,h0=>by
  rw[wrF];split
  ·simp;unfold dg;split <;> omega
  ·rename_i hn
   have hq:n / b<b ^ (f+1):=by
    rw[Nat.div_lt_iff_lt_mul (by omega)]
    rwa [pow_succ]at h
   have hp:0<n / b:=Nat.div_pos (by omega) (by omega);have ih:=fV h2 h16 f (n / b) hq hp;have hl:0<(wrF b f (n / b)).length:=List.length_pos_iff.2 (nK b f _)
   rwa [List.getElem?_append_left hl]
theorem rY{b:Nat}(h:0<b):wr b 0=[48]:=by unfold wr;rw[wrF,if_pos h];rfl
theorem jO{l:List Int}{b:Nat}{r:List Int}{n:Nat}(hl:l≠[])(hb:base l=b)(hr:rest l=r)(hok:ok b r=true)(hv:vl b r=n):num l=if 4294967296<=n then (0,4) else (n,0):=by unfold num;rw[if_neg hl,hb,hr,hok,if_neg (by simp),hv]
theorem GD{r:List Int}{n:Nat}(hok:ok 16 r=true)(hv:vl 16 r=n):num (48::120::r)=if 4294967296<=n then (0,4) else (n,0):=by
 have hx:isX (48::120::r)=true:=by unfold isX;simp
 exact jO (by simp) (by unfold base;rw[if_pos hx]) (by unfold rest;rw[if_pos hx];rfl) hok hv
theorem yD{b:Nat}{r:List Int}(hr:r≠[])(hok:ok b r=true):¬ (r[0]?.getD 0=120\/r[0]?.getD 0=88):=by
 cases r with
 | nil=>exact absurd rfl hr
 | cons c r =>
  unfold ok at hok;rw[all_cons,and_eq_true]at hok;have:=of_decide_eq_true hok.1;intro h;simp at h;rcases h with rfl | rfl
  ·exact absurd this.1 (by decide)
  ·exact absurd this.1 (by decide)
theorem GI{r:List Int}{n:Nat}(hr:r≠[])(hok:ok 8 r=true)(hv:vl 8 r=n):num (48::r)=if 4294967296<=n then (0,4) else (n,0):=by
 have hg:=yD hr hok;have hl:0<r.length:=List.length_pos_iff.2 hr;have hx:isX (48::r)=false:=by unfold isX;refine decide_eq_false (fun h=>hg ?_);have:=h.2.2;simpa using this
 have ho:isO (48::r)=true:=by unfold isO;simp;omega
 exact jO (by simp) (by unfold base;rw[hx,if_neg (by simp),if_pos ho]) (by unfold rest;rw[hx,if_neg (by simp),if_pos ho];rfl) hok hv
theorem GF{r:List Int}{n:Nat}(hr:r≠[])(h0:r.length=1\/r[0]?.getD 0≠48)(hok:ok 10 r=true)(hv:vl 10 r=n):num r=if 4294967296<=n then (0,4) else (n,0):=by
 have ho:isO r=false:=by
  unfold isO;refine decide_eq_false (fun h=>?_);rcases h0 with h1 | h1
  ·omega
  ·exact h1 h.2
 have hx:isX r=false:=by unfold isX;unfold isO at ho;have:=of_decide_eq_false ho;exact decide_eq_false (fun h=>this ⟨h.1,h.2.1⟩)
 exact jO hr (by unfold base;rw[hx,ho];rfl) (by unfold rest;rw[hx,ho];rfl) hok hv
theorem kC{k n:Nat}(hn:n<2 ^ 64):num (wrt k n)=if 4294967296<=n then (0,4) else (n,0):=by
 unfold wrt;split
 ·obtain⟨h1,h2⟩:=cS (b:=16) (by decide) (by decide) hn;exact GD h1 h2
 ·split
  ·obtain⟨h1,h2⟩:=cS (b:=8) (by decide) (by decide) hn;exact GI (nI 8 n) h1 h2
  ·obtain⟨h1,h2⟩:=cS (b:=10) (by decide) (by decide) hn;refine GF (nI 10 n) ?_ h1 h2;by_cases h0:n=0
   ·left;rw[h0,rY (by decide)];rfl
   ·right;exact fV (by decide) (by decide) 64 n (Nat.lt_of_lt_of_le hn (kv (by decide))) (by omega)
end F
namespace X
open F (hx)
theorem kq(b:Int):∀(ps:List (List Int)),ps≠[]->(∀ p∈ps,¬ b∈p)->spB b (ah b ps)=ps
 | [],h,_=>absurd rfl h
 | [p],_,h=>dR b p (h p (by simp))
 | p::q::r,_,h=>by rw[ah,ko b p _ (h p (by simp)),kq b (q::r) (by simp) (fun x hx=>h x (by simp at hx ⊢;right;exact hx))]
theorem bV:∀(ps:List (List Int)),ps≠[]->(∀ p∈ps,Txt p)->ah 58 ps≠[]/\(ah 58 ps).getLast? ≠ some 58/\(ah 58 ps).head? ≠ some 58/\cc (ah 58 ps)=0
 | [],h,_=>absurd rfl h
 | [p],_,h=>by
  have hp:=h p (by simp);exact⟨hp.1,kG hp,head_ne hp,fw p hp.2⟩
 | p::q::r,_,h=>by
  have hp:=h p (by simp);obtain⟨i1,i2,i3,i4⟩:=bV (q::r) (by simp) (fun x hx=>h x (by simp at hx ⊢;right;exact hx));rw[ah];refine⟨by simp,?_,?_,?_⟩
  ·obtain⟨z,hz⟩:=Ex' (ah 58 (q::r));rw[hz]at i1 i2 ⊢;cases z with
   | nil=>exact absurd rfl i1
   | cons c t=>simpa using i2
  ·cases p with
   | nil=>exact absurd rfl hp.1
   | cons c t =>
    have:=head_ne hp;simpa using this
  ·rw[cQ,fw p hp.2];have e:(58::ah 58 (q::r))=[58]++ah 58 (q::r):=rfl;rw[e,cQ,i4];have e1:cc [58]=0:=rfl;rw[e1,if_neg (fun hh=>i3 hh.2),if_neg (fun hh=>kG hp hh.1)]
theorem cA{last:Bool}{ps:List (List Int)}(h:∀ p∈ps,Txt p):pieces last (ah 58 ps)=pcs last ps:=by
 cases hps:ps with
 | nil=>rfl
 | cons p r =>
  rw[<-hps];have hne:ps≠[]:=by rw[hps];simp
  unfold pieces;rw[if_neg (bV ps hne h).1,kq 58 ps hne (fun p hp=>(h p hp).2)]
theorem sF{ps:List (List Int)}(h:∀ p∈ps,Txt p):prs (ah 58 ps)=full (pcs true ps):=by
 have hc:cc (ah 58 ps)=0:=by
  cases hps:ps with
  | nil=>rfl
  | cons p r=>rw[<-hps];exact(bV ps (by rw[hps];simp) h).2.2.2
 unfold prs;rw[if_pos hc,cA h]
theorem sG{fs bs:List (List Int)}(hf:∀ p∈fs,Txt p)(hb:∀ p∈bs,Txt p):prs (ah 58 fs++58::58::ah 58 bs)=both (pcs false fs) (pcs true bs):=by
 have f0:cc (ah 58 fs)=0/\(ah 58 fs).getLast? ≠ some 58:=by
  cases hps:fs with
  | nil=>exact⟨rfl,by simp[ah]⟩
  | cons p r=>rw[<-hps];have:=bV fs (by rw[hps];simp) hf;exact⟨this.2.2.2,this.2.1⟩
 have b0:cc (ah 58 bs)=0/\(ah 58 bs).head? ≠ some 58:=by
  cases hps:bs with
  | nil=>exact⟨rfl,by simp[ah]⟩
  | cons p r=>rw[<-hps];have:=bV bs (by rw[hps];simp) hb;exact⟨this.2.2.2,this.2.2.1⟩
 have c1:cc (ah 58 fs++[58])=0:=by rw[cQ,f0.1,if_neg (fun hh=>f0.2 hh.1)];rfl
 have c2:cc (ah 58 fs++58::58::ah 58 bs)=1:=by
  have e:ah 58 fs++58::58::ah 58 bs=(ah 58 fs++[58])++([58]++ah 58 bs):=by simp
  rw[e,cQ,c1,cQ,b0.1,if_neg (fun hh=>b0.2 hh.2),if_pos ⟨by simp,by simp⟩];rfl
 have p1:=wY (ah 58 fs) (ah 58 bs) c1;unfold prs;rw[c2,if_neg (by decide),if_pos rfl,p1];have t1:(ah 58 fs++58::58::ah 58 bs).take (ah 58 fs).length=ah 58 fs:=List.take_left;have t2:(ah 58 fs++58::58::ah 58 bs).drop ((ah 58 fs).length+2)=ah 58 bs:=by rw[<-List.drop_drop,List.drop_left];rfl
 rw[t1,t2,cA hf,cA hb]
open F (hx)
theorem pC{cap nts:Bool}{n:Nat}(h:n<65536):dt (aM cap nts n)=none:=by unfold dt;rw[dR 46 _ (fun hm=>by have:=kP h hm;omega)];show kS [dn (aM cap nts n)]=none;cases dn (aM cap nts n) <;> rfl
theorem sW{last cap nts:Bool}{n:Nat}(h:n<65536):lst last (aM cap nts n)=some [n]:=by unfold lst;rw[pC h,jb h];cases last <;> rfl
theorem ea{last cap nts:Bool}:∀(vs:List Nat),(∀ v∈vs,v<65536)->pcs last (vs.map (aM cap nts))=some vs
 | [],_=>rfl
 | [v],h=>sW (h v (by simp))
 | v::u::r,h=>by have ih:=ea (last:=last) (cap:=cap) (nts:=nts) (u::r) (fun x hx=>h x (by simp at hx ⊢;right;exact hx));show put (pc (aM cap nts v)) (pcs last ((u::r).map (aM cap nts)))=_;rw[ih,jb (h v (by simp))];rfl
theorem Small.take{a:List Nat}(h:Small a)(i:Nat):Small (a.take i):=fun v hv=>h v (List.mem_of_mem_take hv)
theorem Small.drop{a:List Nat}(h:Small a)(i:Nat):Small (a.drop i):=fun v hv=>h v (mem_of_mem_drop hv)
theorem gL{cap nts:Bool}{a:List Nat}(h:Small a):∀ p∈a.map (aM cap nts),Txt p:=fun p hp=>by obtain⟨v,hv,rfl⟩:=List.mem_map.1 hp;exact kO (h v hv)
theorem ou{cap nts:Bool}{a:List Nat}(h:Small a):prs (ah 58 (a.map (aM cap nts)))=if a.length=8 then some a else none:=by rw[sF (gL h),ea a h];rfl
theorem ov{cap nts:Bool}{f b:List Nat}(hf:Small f)(hb:Small b):prs (ah 58 (f.map (aM cap nts))++58::58::ah 58 (b.map (aM cap nts)))=if f.length+b.length<=7 then some (f++List.replicate (8 - b.length - f.length) 0++b) else none:=by rw[sG (gL hf) (gL hb),ea f hf,ea b hb];rfl
theorem nC{a:List Nat}{i k:Nat}(hl:a.length=8)(hik:i<=k)(hk:k<=8)(hz:∀ j,i<=j->j<k->a[j]?.getD 1=0):a.take i++List.replicate (k - i) 0++a.drop k=a:=by
 apply List.ext_getElem?;intro j;by_cases h1:j<i
 ·rw[append_assoc,List.getElem?_append_left (by simp;omega),List.getElem?_take,if_pos h1]
 ·by_cases h2:j<k
  ·rw[append_assoc,List.getElem?_append_right (by simp;omega),List.getElem?_append_left (by simp;omega)];have h3:j<a.length:=by omega
   have:=hz j (by omega) h2;rw[getElem?_eq_getElem h3]at this ⊢;simp at this;rw[this,List.getElem?_replicate,if_pos (by simp;omega)]
  ·rw[List.getElem?_append_right (by simp;omega),List.getElem?_drop];congr 1;simp;omega
theorem sE{a:List Nat}(hl:a.length=8)(hs:Small a):prs (txt a)=some a:=by
 rcases iS hl with⟨_,h,_⟩ | ⟨p,m,_,_,h2,h8,hz,h⟩
 ·rw[h,ou hs,if_pos hl]
 ·rw[h,ov (hs.take p) (hs.drop (p+m))];rw[List.length_take,List.length_drop,if_pos (by omega)];have:=nC (a:=a) (i:=p) (k:=p+m) hl (by omega) h8 (fun j h3 h4=>hz j h3 h4);rw[show 8 - (a.length - (p+m)) - min p a.length=p+m - p by omega,this]
end X
namespace U
open Go.RowKit Go.Shelf
attribute [local go_sem] Oper.semAt_some
def val(l:List Int):Bool:=(scl l).all fun x=>x.1.2
theorem nO(l:List Int)(h:l≠[])(hl:Bytes l):val l=((nx l).2.2&&val (l.drop (nx l).2.1)):=by unfold val;rw[kt l h,all_cons,mM l hl]
theorem back:∀(zs:List Int),zs.all ar=true->dec (aj zs)=zs/\val (aj zs)=true
 | [],_=>⟨rfl,rfl⟩
 | c::t,h=>by
  rw[all_cons,and_eq_true]at h;have ih:=back t h.2;have e:aj (c::t)=enc c++aj t:=by simp[aj]
  have hx:=sN c h.1 (aj t);have hlen:=eA c;have hne:enc c++aj t≠[]:=fun hh=>by have:=congrArg List.length hh;rw[length_append,List.length_nil]at this;omega
  have hb:Bytes (enc c++aj t):=fun b hb=>(List.mem_append.1 hb).elim (cL c (by have:=h.1;unfold ar at this;rw[decide_eq_true_eq]at this;omega) (by have:=h.1;unfold ar at this;rw[decide_eq_true_eq]at this;omega) b) (cY t (fun c hc=>by have:=List.all_eq_true.1 h.2 c hc;unfold ar at this;rw[decide_eq_true_eq]at this;omega) b);have hd:(enc c++aj t).drop (enc c).length=aj t:=by simp
  rw[e,bg _ hne hb,nO _ hne hb,hx];simp only[hd,ih.1,ih.2];exact⟨trivial,rfl⟩
end U
namespace E
theorem gx{c:Int}{t:List Int}(h:c≠37):de (c::t)=c::de t:=IS (fun hh=>h hh.1)
theorem yx:∀ k:Fin 7,inS 37 k.val=decide (k.val=6):=by decide
theorem bI:∀ {l:List Int},(∀ c∈l,c<128)->U.aj l=l
 | [],_=>rfl
 | c::l,h=>by have e:U.aj (c::l)=U.enc c++U.aj l:=flatMap_cons;rw[e,dk (h c (by simp)),bI (fun x hx=>h x (by simp[hx]))];rfl
theorem ma{l:List Int}(h:∀ c∈l,U.ar c=true):U.dec (U.aj l)=l:=(U.back l (List.all_eq_true.2 h)).1
theorem ji{l:List Int}(h:∀ c∈l,0<=c/\c<128):U.dec l=l:=by
 have e:=bI (l:=l) (fun c hc=>(h c hc).2);have s:∀ c∈l,U.ar c=true:=fun c hc=>by have:=h c hc;unfold U.ar;simp;omega
 have:=ma s
 rwa [e]at this
theorem eB{k:Nat}:∀ {l:List Int},(∀ c∈l,c<128/\inS c k=false)->en k l=l
 | [],_=>rfl
 | c::l,h=>by have hc:=h c (by simp);rw[kX,eB (fun x hx=>h x (by simp[hx]))];unfold tok;rw[hc.2,if_neg (by decide),dk hc.1];rfl
theorem pT{k:Nat}(hk:k<=5){l:List Int}(h:∀ c∈l,U.ar c=true):en k (U.dec (en k l))=en k l:=by
 have hs:=iL (k:=k) (by omega) h;rw[ji (fun c hc=>by have:=hs c hc;omega)]
 exact eB (fun c hc=>by
   have:=hs c hc
   refine⟨by omega,?_⟩
   cases hi:inS c k with
   | false=>rfl
   | true =>
     have e:=this.2.2 hi
     rw[e]at hi
     have:=yx ⟨k,by omega⟩
     simp only at this
     rw[this]at hi
     exact absurd (of_decide_eq_true hi) (by omega))
end E
namespace F
theorem dM:∀(ps:List (List Int)),ps≠[]->(∀ p∈ps,¬ 46∈p)->spl (join ps)=ps
 | [],h,_=>absurd rfl h
 | [p],_,h=>cn p (h p (by simp))
 | p::q::r,_,h=>by rw[join,cG p _ (h p (by simp)),dM (q::r) (by simp) (fun x hx=>h x (by simp at hx ⊢;right;exact hx))]
theorem df:∀(ps:List (List Int)),ps≠[]->(∀ p∈ps,¬ 46∈p)->spl (join ps++[46])=ps++[[]]
 | [],h,_=>absurd rfl h
 | [p],_,h=>by
  show spl (p++46::[])=_;rw[cG p _ (h p (by simp))];rfl
 | p::q::r,_,h=>by rw[join,append_assoc];show spl (p++46::(join (q::r)++[46]))=_;rw[cG p _ (h p (by simp)),df (q::r) (by simp) (fun x hx=>h x (by simp at hx ⊢;right;exact hx))];rfl
theorem iz{ps:List (List Int)}(hne:ps≠[])(hd:∀ p∈ps,¬ 46∈p)(hl:ps.getLast? ≠ some []):prt (join ps)=ps:=by unfold prt;rw[dM ps hne hd,if_neg (fun h=>hl h.2)]
theorem sD{ps:List (List Int)}(hne:ps≠[])(hd:∀ p∈ps,¬ 46∈p):prt (join ps++[46])=ps:=by have hl:0<ps.length:=List.length_pos_iff.2 hne;unfold prt;rw[df ps hne hd,if_pos ⟨by simp;omega,by simp⟩];simp
theorem pF{b:Nat}{c:Int}(hb:b<=10)(h:ij b c=true):ten c=true:=by
 have:=of_decide_eq_true h;unfold ten;refine decide_eq_true ?_;unfold hx at this;split at this
 ·assumption
 ·split at this
  ·omega
  ·split at this <;> omega
theorem pG{b:Nat}{c:Int}(h:ij b c=true):c≠46:=fun e=>by rw[e]at h;have:=of_decide_eq_true h;exact absurd this.1 (by decide)
theorem jN{b:Nat}{l:List Int}(h:ok b l=true):¬ 46∈l:=fun hm=>pG (List.all_eq_true.1 h 46 hm) rfl
theorem rV{k n:Nat}(hn:n<2 ^ 64):¬ 46∈wrt k n:=by
 unfold wrt;split
 ·have:=jN (cS (b:=16) (by decide) (by decide) hn).1;simp[this]
 ·split
  ·have:=jN (cS (b:=8) (by decide) (by decide) hn).1;simp[this]
  ·exact jN (cS (b:=10) (by decide) (by decide) hn).1
theorem nE(k n:Nat):wrt k n≠[]:=by
 unfold wrt;split
 ·simp
 ·split
  ·simp
  ·exact nI 10 n
theorem eD{b:Nat}{l:List Int}(hb:b<=10)(h:ok b l=true):l.all ten=true:=List.all_eq_true.2 (fun c hc=>pF hb (List.all_eq_true.1 h c hc))
theorem tt{k n:Nat}(hn:n<2 ^ 64):pR (wrt k n)=true:=by
 unfold pR;by_cases h0:k=0
 ·have hx:isX (wrt k n)=true:=by unfold wrt isX;rw[if_pos h0];simp
  have he:(num (wrt k n)).2≠8:=by rw[kC hn];split <;> simp
  rw[hx,decide_eq_true he];simp
 ·have:(wrt k n).all ten=true:=by
   unfold wrt;rw[if_neg h0];split
   ·rw[all_cons,eD (b:=8) (by decide) (cS (by decide) (by decide) hn).1];rfl
   ·exact eD (b:=10) (by decide) (cS (by decide) (by decide) hn).1
  rw[this,decide_eq_true (nE k n)];rfl
def cP(vs:List (Nat×Nat)):List (Nat×Int):=vs.map fun v=>if 4294967296<=v.2 then (0,4) else (v.2,0)
theorem nD{vs:List (Nat×Nat)}(h:∀ v∈vs,v.2<2 ^ 64):(cO vs).map num=cP vs:=by unfold cO cP;rw[List.map_map];apply List.map_congr_left;intro v hv;exact kC (h v hv)
theorem lA(vs:List (Nat×Nat)):(cP vs).any (fun x=>decide (x.2=8))=false:=by rw[List.any_eq_false];intro x hx;obtain⟨v,_,rfl⟩:=List.mem_map.1 hx;split <;> simp
theorem iR{vs:List (Nat×Nat)}(h4:vs.length<=4)(h:∀ v∈vs,v.2<2 ^ 64):adr (cO vs)=if lg vs.length (cP vs)=true then (0,4) else (sm 0 (cP vs),0):=by
 unfold adr;have hl:(cO vs).length=vs.length:=by unfold cO;simp
 rw[hl,if_neg (by omega),nD h,lA,if_neg (by simp)]
theorem eH{vs:List (Nat×Nat)}(h:∀ v∈vs,v.2<2 ^ 64):∀ p∈cO vs,¬ 46∈p:=by intro p hp;obtain⟨v,hv,rfl⟩:=List.mem_map.1 hp;exact rV (h v hv)
theorem fU{vs:List (Nat×Nat)}:(cO vs).getLast? ≠ some []:=by intro e;obtain⟨v,_,hv⟩:=List.mem_map.1 (mem_of_getLast? e);exact nE _ _ hv
theorem oy{vs:List (Nat×Nat)}(hne:vs≠[])(h4:vs.length<=4)(h:∀ v∈vs,v.2<2 ^ 64):prs (join (cO vs))=(if lg vs.length (cP vs)=true then (0,4) else (sm 0 (cP vs),0))/\prs (join (cO vs)++[46])=(if lg vs.length (cP vs)=true then (0,4) else (sm 0 (cP vs),0)):=by
 have hw:cO vs≠[]:=by unfold cO;simpa using hne
 unfold prs;rw[iz hw (eH h) fU,sD hw (eH h)];exact⟨iR h4 h,iR h4 h⟩
theorem gq{vs:List (Nat×Nat)}(hne:vs≠[])(h:∀ v∈vs,v.2<2 ^ 64):ends (join (cO vs))=true:=by
 have hw:cO vs≠[]:=by unfold cO;simpa using hne
 unfold ends;rw[iz hw (eH h) fU];cases hl:(cO vs).getLast? with
 | none=>exact absurd (List.getLast?_eq_none_iff.1 hl) hw
 | some p =>
  obtain⟨v,hv,rfl⟩:=List.mem_map.1 (mem_of_getLast? hl);exact tt (h v hv)
theorem tD{a n:Nat}(ha:a<4294967296)(h1:1<=n)(h4:n<=4){ks:List Nat}(hk:ks.length=n):lg n (cP (ks.zip (cut a n)))=false/\sm 0 (cP (ks.zip (cut a n)))=a:=by
 have g:∀ x:Nat,x<4294967296->(if 4294967296<=x then ((0:Nat),(4:Int)) else (x,0))=(x,0):=fun x hx=>if_neg (by omega);obtain rfl | rfl | rfl | rfl:n=1\/n=2\/n=3\/n=4:=by omega
 ·match ks,hk with
  | [k1],_ =>
   simp only[cut,zip_cons_cons,zip_nil_right,cP,map_cons,map_nil,g a ha];exact⟨by simp[lg];omega,rfl⟩
 ·match ks,hk with
  | [k1,k2],_ =>
   simp only[cut,zip_cons_cons,zip_nil_right,cP,map_cons,map_nil,g (a / 16777216) (by omega),g (a % 16777216) (by omega)];exact⟨by simp[lg];omega,by simp[sm];omega⟩
 ·match ks,hk with
  | [k1,k2,k3],_ =>
   simp only[cut,zip_cons_cons,zip_nil_right,cP,map_cons,map_nil,g (a / 16777216) (by omega),g (a / 65536 % 256) (by omega),g (a % 65536) (by omega)];exact⟨by simp[lg];omega,by simp[sm];omega⟩
 ·match ks,hk with
  | [k1,k2,k3,k4],_ =>
   simp only[cut,zip_cons_cons,zip_nil_right,cP,map_cons,map_nil,g (a / 16777216) (by omega),g (a / 65536 % 256) (by omega),g (a / 256 % 256) (by omega),g (a % 256) (by omega)];exact⟨by simp[lg];omega,by simp[sm];omega⟩
end F
namespace H
theorem bX:∀(n:Nat) (l:List Int),l.length<=n->(∀ c∈l,c≠37)->E.de l=l
 | 0,[],_,_=>rfl
 | n+1,[],_,_=>rfl
 | n+1,c::l,h,hc=>by rw[E.gx (hc c (by simp)),bX n l (by simpa using h) (fun x hx=>hc x (by simp[hx]))]
theorem gn{c:Int}(h:fd c=false):fb c=false/\32<=c/\c≠37/\c≠127:=by unfold fd at h;simp only[Bool.or_eq_false_iff,decide_eq_false_iff_not]at h;exact⟨h.1,by omega,h.2.2.1,h.2.2.2⟩
theorem dW{p:Int->Bool}{l:List Int}(h:¬ l.any p=true):∀ c∈l,p c=false:=by intro c hc;rw[not_eq_true,List.any_eq_false]at h;simpa using h c hc
theorem nU:∀ n:Fin 128,(48<=n.val/\n.val<=57\/n.val=46)->fd (n.val:Int)=false/\fb (n.val:Int)=false:=by decide
theorem jF{c:Int}(h:48<=c/\c<=57\/c=46):fd c=false/\fb c=false:=by obtain⟨k,rfl⟩:∃ k:Nat,c=k:=⟨c.toNat,by omega⟩;exact nU ⟨k,by omega⟩ (by simp only;omega)
theorem iD:∀(ls:List (List Int)) (c:Int),c∈F.join ls->c=46\/∃ l∈ls,c∈l
 | [],c,h=>by simp[F.join]at h
 | [a],c,h=>.inr ⟨a,by simp,by simpa[F.join]using h⟩
 | a::b::l,c,h=>by
  rw[F.join,mem_append,mem_cons]at h;rcases h with h | rfl | h
  ·exact .inr ⟨a,by simp,h⟩
  ·exact .inl rfl
  ·rcases iD (b::l) c h with rfl | ⟨x,hx,hc⟩
   ·exact .inl rfl
   ·exact .inr ⟨x,by simp at hx ⊢;exact .inr hx,hc⟩
theorem eJ{a:Nat}(ha:a<4294967296):∀ v∈F.jE (F.cut a 4),v.2<2 ^ 64:=by intro v hv;unfold F.jE F.cut at hv;simp at hv;rcases hv with rfl | rfl | rfl | rfl <;> simp only <;> omega
theorem iq{a:Nat}(ha:a<4294967296):∀ c∈F.txt a,48<=c/\c<=57\/c=46:=by
 intro c hc;rcases iD _ c hc with rfl | ⟨l,hl,hcl⟩
 ·exact .inr rfl
 ·left;unfold F.cO at hl;obtain⟨v,hv,rfl⟩:=List.mem_map.1 hl;have h2:v.1=2:=by unfold F.jE at hv;obtain⟨n,_,rfl⟩:=List.mem_map.1 hv;rfl
  have hw:F.wrt v.1 v.2=F.wr 10 v.2:=by unfold F.wrt;rw[h2];rfl
  rw[hw]at hcl;have h3:=F.eD (b:=10) (by decide) (F.cS (b:=10) (by decide) (by decide) (eJ ha v hv)).1;exact of_decide_eq_true (List.all_eq_true.1 h3 c hcl)
theorem lB{a:Nat}(ha:a<4294967296):F.prs (F.txt a)=(a,0)/\F.ends (F.txt a)=true/\F.txt a≠[]:=by
 have hv:=eJ ha;have hne:F.jE (F.cut a 4)≠[]:=by unfold F.jE F.cut;simp
 have hz:F.jE (F.cut a 4)=[2,2,2,2].zip (F.cut a 4):=rfl;have hc:=F.tD ha (n:=4) (by decide) (by decide) (ks:=[2,2,2,2]) rfl;refine⟨?_,F.gq hne hv,?_⟩
 ·have h:=(F.oy hne (show 4<=4 from le_refl _) hv).1;unfold F.txt;rw[h];have hl:(F.jE (F.cut a 4)).length=4:=rfl;rw[hl,hz,hc.1,hc.2];rfl
 ·intro e;have h:=F.gq hne hv;unfold F.txt at e;rw[e]at h;exact absurd h (by decide)
theorem kF:∀(n:Nat) (l:List Int),l.length<=n->U.Bytes l->∀ c∈U.dec l,c<128->c∈l
 | 0,[],_,_,c,h,_=>by simp[U.eC]at h
 | n+1,[],_,_,c,h,_=>by simp[U.eC]at h
 | n+1,a::l,hn,hl,c,h,hc=>by
  rw[U.bg (a::l) (by simp) hl]at h;rcases List.mem_cons.1 h with rfl | h
  ·rcases U.oK (a::l) (by simp) hl with⟨a',t,e,h0,h1,e2⟩ | ⟨a',b,t,e,h1,h2,h3,h4,e2⟩ | ⟨a',b,d,t,e,h1,h2,h3,h4,h5,h6,e2⟩ | ⟨a',b,d,f,t,e,h1,h2,h3,h4,h5,h6,h7,h8,e2⟩ | ⟨m,_,_,e2⟩
   ·rw[e2];cases e;simp
   ·rw[e2]at hc;simp only at hc;omega
   ·rw[e2]at hc;simp only at hc;have hlo:a'=224->160<=b:=fun h=>by unfold U.aU at h3;rw[h]at h3;simpa using h3
    have hl2:128<=b:=by unfold U.aU at h3;(repeat' split at h3) <;> omega
    by_cases h224:a'=224
    ·have:=hlo h224;omega
    ·omega
   ·rw[e2]at hc;simp only at hc;have hlo:a'=240->144<=b:=fun h=>by unfold U.aU at h3;rw[h]at h3;simpa using h3
    have hl2:128<=b:=by unfold U.aU at h3;(repeat' split at h3) <;> omega
    by_cases h240:a'=240
    ·have:=hlo h240;omega
    ·omega
   ·rw[e2]at hc;simp only at hc;omega
  ·have hnx:=(U.oJ (a::l) (by simp)).1;have:=kF n _ (by rw[List.length_drop];simp at hn ⊢;omega) (fun b hb=>hl b (mem_of_mem_drop hb)) c h hc;exact mem_of_mem_drop this
theorem pA:∀ n:Fin 128,(48<=n.val/\n.val<=57\/65<=n.val/\n.val<=70\/n.val=37)->fb (n.val:Int)=false:=by decide
theorem eW{c:Int}(h:48<=c/\c<=57\/65<=c/\c<=70\/c=37):fb c=false:=by obtain⟨k,rfl⟩:∃ k:Nat,c=k:=⟨c.toNat,by omega⟩;exact pA ⟨k,by omega⟩ (by simp only;omega)
theorem pW{n:Int}(h0:0<=n)(h1:n<=15):48<=E.dg n/\E.dg n<=57\/65<=E.dg n/\E.dg n<=70:=by unfold E.dg;split <;> omega
theorem eB{s:List Int}(hs:U.Bytes s)(h:∀ c∈s,fb c=false):∀ y∈E.en 0 (U.dec s),fb y=false:=by
 intro y hy;obtain⟨c,hc,hyc⟩:=List.mem_flatMap.1 hy;have hsc:U.ar c=true:=List.all_eq_true.1 (U.dm s.length s (le_refl _) hs) c hc;unfold E.tok at hyc;split at hyc
 ·obtain⟨b,hb,hyb⟩:=List.mem_flatMap.1 hyc;have hbb:0<=b/\b<=255:=U.cL c (E.aS hsc).1 (E.aS hsc).2 b hb;unfold E.pe at hyb;simp at hyb;rcases hyb with rfl | rfl | rfl
  ·exact eW (.inr (.inr rfl))
  ·rcases pW (n:=b / 16) (by omega) (by omega) with h | h
   ·exact eW (.inl h)
   ·exact eW (.inr (.inl h))
  ·rcases pW (n:=b % 16) (by omega) (by omega) with h | h
   ·exact eW (.inl h)
   ·exact eW (.inr (.inl h))
 ·rename_i hin;have hbd:=E.yw (k:=0) (by decide) (by simpa using hin);rw[E.dk (by omega)]at hyc;obtain rfl:=List.mem_singleton.1 hyc;exact h y (kF s.length s (le_refl _) hs y hc (by omega))
theorem yT{s:List Int}(hs:U.Bytes s)(h:s≠[]):U.dec s≠[]:=by rw[U.bg s h hs];simp
theorem xC(k:Nat)(c:Int)(hc:U.ar c=true):E.tok k c≠[]:=by
 have he:U.enc c≠[]:=by unfold U.enc;(repeat' split) <;> simp
 unfold E.tok;split
 ·intro e;have:=congrArg List.length e;rw[E.iV]at this;have h2:=List.length_pos_iff.2 he;simp at this;omega
 ·exact he
theorem IG{k:Nat}{l:List Int}(hl:l≠[])(hs:∀ c∈l,U.ar c=true):E.en k l≠[]:=by
 cases l with
 | nil=>exact absurd rfl hl
 | cons c l =>
  rw[E.kX];intro e;exact xC k c (hs c (by simp)) (List.append_eq_nil_iff.1 e).1
theorem gQ{l:List Int}(h:∀ c∈l,fb c=false):¬ l.head? = some 91:=by intro e;have:=h 91 (List.mem_of_mem_head? e);exact absurd this (by decide)
theorem qp{p:Int->Bool}{l:List Int}(h:∀ c∈l,p c=false):l.any p=false:=by rw[List.any_eq_false];intro c hc;rw[h c hc];simp
structure xv(A:List Int->List Int->Int->Prop)(sp:Bool)(h:Hst):Prop where
 same:HP A (txt h) sp h
 free:h.1≠3->∀ c∈txt h,fb c=false/\32<=c/\c<=126/\(h.1=1->fd c=false)
 none:h.1=0↔txt h=[]
 kind:h.1<=4/\(h.1=4->sp=false)/\(sp=true->h.1≠0)
theorem HP.rests{A:List Int->List Int->Int->Prop}(hA:Asc A){s:List Int}{sp:Bool}{h:Hst}(hs:U.Bytes s)(x:HP A s sp h)(h0:h.2.2.2.2=0)(hl:(txt h).length<=4096)
  (hX:∀ l a,X.prs l=some a->a.length=8/\X.Small a):xv A sp h:=by
 unfold HP at x;split at x
 ·rw[x]at h0;cases h0
 split at x
 ·unfold six at x;split at x
  ·cases hp:X.prs ((s.drop 1).dropLast) with
   | none=>rw[hp]at x;rw[x]at h0;cases h0
   | some a =>
    rw[hp]at x;obtain⟨h8,hsm⟩:=hX _ _ hp;have ht:txt h=91::(X.txt a++[93]):=by rw[x];rfl
    refine⟨?_,fun hk=>absurd (by rw[x]) hk,?_,?_⟩
    ·unfold HP;rw[if_neg (by omega),ht,if_pos (show(91::(X.txt a++[93])).head? = some 91 from rfl),x];unfold six;rw[if_pos ⟨by rw[length_cons,length_append,List.length_singleton];omega,List.getLast?_concat (l:=91::X.txt a) (a:=93)⟩];have:((91::(X.txt a++[93])).drop 1).dropLast=X.txt a:=by simp
     rw[this,X.sE h8 hsm]
    ·rw[ht,x];simp
    ·rw[x];simp
  ·rw[x]at h0;cases h0
 split at x
 ·rename_i hsp;unfold opq at x;split at x
  ·rw[x]at h0;cases h0
  ·rename_i hfb;have hfb':=dW hfb;split at x
   ·have ht:txt h=[]:=by rw[x];rfl
    refine⟨?_,(fun _ c hc=>by rw[ht]at hc;simp at hc),?_,?_⟩
    ·unfold HP;rw[ht,if_neg (by simp),if_neg (by simp),if_pos hsp,x];rfl
    ·rw[ht,x];simp[non]
    ·rw[x];simp[non,hsp]
   ·rename_i hne;have ht:txt h=E.en 0 (U.dec s):=by rw[x];rfl
    have hsc:∀ c∈U.dec s,U.ar c=true:=List.all_eq_true.1 (U.dm s.length s (le_refl _) hs);have hfree:=eB hs hfb';have htn:=IG (k:=0) (yT hs hne) hsc;refine⟨?_,?_,?_,?_⟩
    ·unfold HP;rw[if_neg (by omega),ht,if_neg (gQ hfree),if_pos hsp,x];unfold opq;rw[qp hfree,if_neg (by simp),if_neg htn,E.pT (by decide) hsc]
    ·intro _ c hc;rw[ht]at hc;have h3:=E.iL (k:=0) (by decide) hsc c hc;exact⟨hfree c hc,h3.1,h3.2.1,fun hk=>by rw[x]at hk;simp at hk⟩
    ·rw[ht,x];simp[htn]
    ·rw[x];simp[hsp]
 ·rename_i hsp;obtain⟨d,r,hAd,x⟩:=x;have hspt:sp=true:=by simpa using hsp
  unfold dom at x;split at x
  ·rw[x]at h0;cases h0
  ·rename_i hd
   have hr:r=0:=by
    by_cases h:r=0
    ·exact h
    ·exact absurd (.inl h) hd
   have hdn:d≠[]:=fun h=>hd (.inr (.inl h));have hdf:=dW (p:=fd) (l:=d) (fun h=>hd (.inr (.inr h)));subst hr;split at x
   ·split at x
    ·rename_i hend hp0;have hbd:=sH d hp0;obtain⟨a,ha⟩:=Ex' ((F.prs d).1);rw[ha]at x hbd;have ht:txt h=F.txt a:=by rw[x];rfl
     have htt:=iq hbd;obtain⟨hb1,hb2,hb3⟩:=lB hbd;refine⟨?_,?_,?_,?_⟩
     ·unfold HP;rw[if_neg (by omega),ht,if_neg (gQ (fun c hc=>(jF (htt c hc)).2)),if_neg hsp];refine⟨F.txt a,0,?_,?_⟩
      ·rw[bX _ _ (le_refl _) (fun c hc=>by have:=htt c hc;omega)];exact hA.num (fun c hc=>.inr (htt c hc))
      ·rw[x];unfold dom
       rw[if_neg (by
         rintro(h | h | h)
         · exact h rfl
         · exact hb3 h
         · rw[qp (fun c hc=>(jF (htt c hc)).1)]at h;cases h),if_pos hb2,hb1]
       rfl
     ·intro _ c hc;rw[ht]at hc;have h3:=htt c hc;exact⟨(jF h3).2,by omega,by omega,fun hk=>by rw[x]at hk;simp at hk⟩
     ·rw[ht,x];simp[hb3]
     ·rw[x];simp
    ·rw[x]at h0;cases h0
   ·rename_i hend;have ht:txt h=d:=by rw[x];rfl
    have hlow:=hA.low hAd;refine⟨?_,?_,?_,?_⟩
    ·unfold HP;rw[if_neg (by omega),ht,if_neg (gQ (fun c hc=>(gn (hdf c hc)).1)),if_neg hsp];refine⟨d,0,?_,?_⟩
     ·rw[bX _ _ (le_refl _) (fun c hc=>(gn (hdf c hc)).2.2.1)];exact hA.rest hAd
     ·rw[x];unfold dom;rw[if_neg hd,if_neg hend]
    ·intro _ c hc;rw[ht]at hc;have h3:=gn (hdf c hc);have h4:=hlow c hc;exact⟨h3.1,h3.2.1,by omega,fun _=>hdf c hc⟩
    ·rw[ht,x];simp[hdn]
    ·rw[x];simp
theorem eZ(k:Int)(n:ByteArray)(f:Int)(a:List Int):eqh k n f a k n f a=true:=by unfold eqh;simp
end H
namespace Cn
open H (Hst HP Asc May non fd dom)
theorem dE:∀ l:List Int,F.spl (l++[46])=F.spl l++[[]]
 | []=>rfl
 | c::l=>by
  have ih:=dE l;rw[cons_append,F.spl,F.spl,ih];split
  ·rfl
  ·have:=F.aV l;cases h:F.spl l with
   | nil=>exact absurd h this
   | cons a t=>rfl
theorem dL:∀ {l:List Int},l.getLast? = some 46->(F.spl l).getLast? = some []
 | [],h=>by cases h
 | [c],h=>by
  have:c=46:=by simpa using h
  rw[this];rfl
 | c::d::l,h=>by
  have ih:=dL (l:=d::l) (by simpa using h);rw[F.spl];cases e:F.spl (d::l) with
  | nil=>exact absurd e (F.aV _)
  | cons a t =>
   rw[e]at ih;split
   ·rw[List.getLast?_cons_cons];exact ih
   ·simp only[List.headD_cons,List.tail_cons];cases t with
    | nil =>
     exfalso
     -- what ends with a dot has two pieces at the least
     have:∀(m:List Int) (x:List Int),m.getLast? = some 46->F.spl m≠[x]:=by
      intro m x hm
      obtain⟨k,rfl⟩:∃ k,m=k++[46]:=by
       have hne:m≠[]:=fun e=>by rw[e]at hm;cases hm
       refine⟨m.dropLast,?_⟩;have h3:=List.dropLast_concat_getLast hne;rw[List.getLast?_eq_some_getLast hne]at hm;rw[<-Option.some.inj hm];exact h3.symm
      rw[dE];intro h4;have h5:=congrArg List.length h4;rw[length_append]at h5;have h6:=List.length_pos_iff.2 (F.aV k);simp only[List.length_singleton]at h5;omega
     exact this (d::l) a (by simpa using h) e
    | cons b t=>rw[List.getLast?_cons_cons]at ih ⊢;exact ih
theorem fY{l:List Int}(h:okn l=true):l≠[]/\l.getLast? ≠ some 46/\l.length<=253/\(F.spl l).getLast? ≠ some []:=by
 unfold okn at h;rw[and_eq_true]at h;have hall:=List.all_eq_true.1 h.2;have hl:(F.spl l).getLast? ≠ some []:=fun e=>by have:=of_decide_eq_true (hall [] (mem_of_getLast? e));simp at this
 refine⟨fun e=>?_,fun e=>hl (dL e),of_decide_eq_true h.1,hl⟩;rw[e]at hl;exact hl rfl
theorem kW{m:List Int}(h:(F.spl m).getLast? ≠ some []):F.ends (m++[46])=F.ends m:=by
 have h1:F.prt (m++[46])=F.spl m:=by unfold F.prt;rw[dE,if_pos ⟨by rw[length_append];have:=List.length_pos_iff.2 (F.aV m);simp;omega,by simp⟩];simp
 have h2:F.prt m=F.spl m:=by unfold F.prt;rw[if_neg (fun e=>h e.2)]
 unfold F.ends;rw[h1,h2]
structure Can(A:List Int->List Int->Int->Prop)(h:Hst):Prop where
 hp:HP A (H.txt h) true h
 e:h.2.2.2.2=0
 k:h.1=1\/h.1=2\/h.1=3
 l:(H.txt h).length<=3900
 u:h.1=1->okn h.2.1=true
theorem Can.may{A:List Int->List Int->Int->Prop}(hA:Asc A){h:Hst}(c:Can A h){b:Bool}(m:May A h b):b=true:=by
 have hk:=c.k;have hne:h≠non 0:=fun e=>by rw[e]at hk;simp[non]at hk
 unfold May at m;rw[if_neg hne,if_neg (by have:=c.l;omega)]at m;obtain⟨x,hx,rfl⟩:=m;have h4:decide (h.1≠4)=true:=decide_eq_true (by omega);rw[h4]at hx;rw[HP.one hA hx c.hp];exact decide_eq_true ⟨c.e,rfl,by omega⟩
theorem Can.ch{A:List Int->List Int->Int->Prop}{h:Hst}(c:Can A h):ch h true=h:=by
 have hk:=c.k;have he:=c.e;unfold Cn.ch;rw[if_neg (by rintro(h | h | h) <;> first | cases h | omega)];obtain⟨k,n,f,a,e⟩:=h;simp only at hk he ⊢;subst he;by_cases h1:k=1
 ·rw[if_neg (by omega)];have ho:=c.u h1;simp only at ho;have hu:und n=n:=by unfold und;rw[if_neg (fY ho).2.1]
  rw[hu,if_pos ho,h1]
 ·rw[if_pos h1]
theorem Can.CH{A:List Int->List Int->Int->Prop}(hA:Asc A){h r:Hst}(c:Can A h)(x:Cn.CH A h r):r=h:=by obtain⟨b,m,rfl⟩:=x;rw[c.may hA m,c.ch]
theorem CH.can{A:List Int->List Int->Int->Prop}(hA:Asc A)(hD:qy A){x h:Hst}(hx:x.2.2.2.2=0)(c:CH A x h)(he:h.2.2.2.2=0)(h4:(F.txt x.2.2.1).length<=3000)(h6:(X.txt x.2.2.2.1).length<=3000):Can A h:=by
 obtain⟨b,m,rfl⟩:=c;unfold ch at he ⊢;split at he
 ·cases he
 rename_i hk;rw[if_neg hk]
 have hb:b=true:=by cases b with
  | true=>rfl
  | false=>exact absurd (.inl rfl) hk
 subst hb;have hk0:x.1≠0:=fun e=>hk (.inr (.inl e));have hk4:x.1≠4:=fun e=>hk (.inr (.inr e));have hne:x≠non 0:=fun e=>hk0 (by rw[e];rfl);unfold May at m;rw[if_neg hne]at m;split at m
 ·cases m
 rename_i hlen;obtain⟨y,hy,hd⟩:=m;have hd':=of_decide_eq_true hd.symm;have hyx:y=x:=by obtain⟨k,n,f,a,e⟩:=y;obtain⟨k',n',f',a',e'⟩:=x;obtain⟨h1,h2,h3⟩:=hd';simp only at h1 h2 hx;simp only[Prod.mk.injEq]at h2;obtain⟨rfl,rfl,rfl,rfl⟩:=h2;rw[h1,hx]
 subst hyx;rw[decide_eq_true hk4]at hy;split at he
 ·rename_i h1;rw[if_pos h1];have e0:(y.1,y.2.1,y.2.2.1,y.2.2.2.1,(0:Int))=y:=by obtain⟨k,n,f,a,e⟩:=y;simp only at hx;rw[hx]
  rw[e0]
  have hkk:y.1<=4:=by
   unfold HP at hy;split at hy
   ·rw[hy];exact zero_le _
   split at hy
   ·rw[hy];unfold H.six;split
    ·split
     ·show 3<=4;decide
     ·exact zero_le _
    ·exact zero_le _
   split at hy
   ·rename_i hh;cases hh
   obtain⟨d,r,_,rfl⟩:=hy;unfold dom;split
   ·exact zero_le _
   split
   ·split
    ·show 2<=4;decide
    ·exact zero_le _
   ·show 1<=4;decide
  refine⟨hy,hx,by omega,?_,fun h=>absurd h h1⟩;unfold H.txt;rw[if_neg (by omega)];split
  ·omega
  ·split
   ·simp;omega
   ·simp
 ·rename_i h1;have h1':y.1=1:=Classical.byContradiction h1;rw[if_neg h1];split at he
  ·rename_i ho;rw[if_pos ho];obtain⟨hn0,hl46,hl253,hsl⟩:=fY ho;have htx:H.txt y=y.2.1:=by unfold H.txt;rw[if_pos (.inl h1')]
   rw[htx]at hy
   -- what a domain is
   have hdm:∃ r,A (E.de y.2.1) y.2.1 0/\r=0/\y.2.1.any fd=false/\F.ends y.2.1=false/\y=(1,y.2.1,0,H.z8,0)/\¬ y.2.1.head? = some 91:=by
    unfold HP at hy;split at hy
    ·rw[hy]at h1';cases h1'
    split at hy
    ·exfalso;rw[hy]at h1';unfold H.six at h1';split at h1'
     ·split at h1' <;> cases h1'
     ·cases h1'
    rename_i h91;split at hy
    ·rename_i hh;cases hh
    obtain⟨d,r,hda,hyd⟩:=hy;unfold dom at hyd;split at hyd
    ·rw[hyd]at h1';cases h1'
    rename_i hr;split at hyd
    ·split at hyd <;> (rw[hyd]at h1';cases h1')
    rename_i hen;have hr0:r=0:=Classical.byContradiction fun e=>hr (.inl e);have hdn:y.2.1=d:=by rw[hyd]
    rw[hdn]at h91 ⊢;rw[hr0]at hda;refine⟨0,?_,rfl,not_eq_true _ ▸ (fun e=>hr (.inr (.inr e))),not_eq_true _ ▸ hen,?_,h91⟩
    ·rw[<-hdn];rw[<-hdn]at hda;exact hda
    ·exact hyd
   obtain⟨_,ha,_,hfd,hen,hyy,h91⟩:=hdm;have hfree:∀ c∈y.2.1,fd c=false:=fun c hc=>by have:=List.any_eq_false.1 hfd c hc;simpa using this
   have h37:∀ c∈y.2.1,c≠37:=fun c hc=>(H.gn (hfree c hc)).2.2.1;rw[H.bX _ _ (le_refl _) h37]at ha;have hbyt:U.Bytes y.2.1:=fun c hc=>by have:=hA.low ha c hc;exact⟨this.1,by omega⟩
   -- the name without its dot
   have hm:A (und y.2.1) (und y.2.1) 0/\F.ends (und y.2.1)=false/\(∀ c∈und y.2.1,c∈y.2.1):=by
    unfold und at ho hsl ⊢;split at ho
    ·rename_i h46;rw[if_pos h46]at hsl ⊢;have hne:y.2.1≠[]:=fun e=>by rw[e]at h46;cases h46
     have hc:y.2.1=y.2.1.dropLast++[46]:=by have h3:=List.dropLast_concat_getLast hne;rw[List.getLast?_eq_some_getLast hne]at h46;rw[Option.some.inj h46]at h3;exact h3.symm
     have hbt:U.Bytes y.2.1.dropLast:=fun c hc=>hbyt c (List.dropLast_subset _ hc);refine⟨hD.cut hbt (by rw[<-hc];exact ha),?_,fun c hc=>List.dropLast_subset _ hc⟩;rw[hc,kW hsl]at hen;exact hen
    ·rename_i h46;rw[if_neg h46];exact⟨ha,hen,fun c hc=>hc⟩
   obtain⟨hma,hme,hmm⟩:=hm;have hf:y.2.2.1=0:=by rw[hyy]
   have hs:y.2.2.2.1=H.z8:=by rw[hyy]
   have htt:H.txt (1,und y.2.1,y.2.2.1,y.2.2.2.1,0)=und y.2.1:=by unfold H.txt;rw[if_pos (.inl rfl)]
   refine⟨?_,rfl,.inl rfl,by rw[htt];omega,fun _=>ho⟩;rw[htt];unfold HP;rw[if_neg (by omega),if_neg ?_,if_neg (by simp)]
   ·refine⟨und y.2.1,0,?_,?_⟩
    ·rw[H.bX _ _ (le_refl _) (fun c hc=>h37 c (hmm c hc))];exact hma
    ·unfold dom;rw[if_neg,if_neg (by rw[hme];simp),hf,hs];rintro(h | h | h)
     ·exact h rfl
     ·exact hn0 h
     ·obtain⟨c,hc,hcf⟩:=List.any_eq_true.1 h;rw[hfree c (hmm c hc)]at hcf;cases hcf
   ·intro h;have:=hfree 91 (hmm 91 (List.mem_of_head? h));exact absurd this (by decide)
  ·cases he
end Cn
namespace Y
def Vis(l:List Int):Prop:=∀ c∈l,33<=c/\c<=126
theorem Vis.app{a b:List Int}(ha:Vis a)(hb:Vis b):Vis (a++b):=fun c hc=>(List.mem_append.1 hc).elim (ha c) (hb c)
theorem Vis.cons{c:Int}{b:List Int}(h0:33<=c)(h1:c<=126)(hb:Vis b):Vis (c::b):=fun d hd=>by
 rcases List.mem_cons.1 hd with rfl | hd
 ·exact⟨h0,h1⟩
 ·exact hb d hd
theorem Vis.nil:Vis []:=fun c hc=>by simp at hc
theorem kI{b:Int}:∀ {ls:List (List Int)} {c:Int},c∈X.ah b ls->c=b\/∃ l∈ls,c∈l
 | [],c,h=>by simp[X.ah]at h
 | [p],c,h=>.inr ⟨p,by simp,by simpa[X.ah]using h⟩
 | p::q::r,c,h=>by
  rw[X.ah,mem_append,mem_cons]at h;rcases h with h | rfl | h
  ·exact .inr ⟨p,by simp,h⟩
  ·exact .inl rfl
  ·rcases kI h with rfl | ⟨l,hl,hc⟩
   ·exact .inl rfl
   ·exact .inr ⟨l,by simp at hl ⊢;exact .inr hl,hc⟩
theorem yz{n:Nat}(h:n<65536){c:Int}(hc:c∈X.aM false false n):48<=c/\c<=57\/97<=c/\c<=102:=by
 unfold X.aM at hc;rw[if_neg (by simp)]at hc;obtain⟨d,hd,rfl⟩:=List.mem_map.1 hc;have:=X.tA h d hd;unfold X.dgc;split
 ·omega
 ·rw[if_neg (by simp)];omega
theorem od{a:List Nat}(hl:a.length=8)(hs:X.Small a){c:Int}(hc:c∈X.txt a):c=58\/48<=c/\c<=57\/97<=c/\c<=102:=by
 have hj:∀ l:List Nat,(∀ v∈l,v∈a)->∀ c∈X.ah 58 (l.map (X.aM false false)),c=58\/48<=c/\c<=57\/97<=c/\c<=102:=fun l hla c hc=>by
  rcases kI hc with rfl | ⟨p,hp,hcp⟩
  ·exact .inl rfl
  ·obtain⟨v,hv,rfl⟩:=List.mem_map.1 hp;exact .inr (yz (hs v (hla v hv)) hcp)
 rcases X.iS hl with⟨_,h,_⟩ | ⟨p,m,_,_,_,_,_,h⟩
 ·rw[h]at hc;exact hj a (fun v hv=>hv) c hc
 ·rw[h]at hc;rcases List.mem_append.1 hc with hc | hc
  ·exact hj _ (fun v hv=>List.mem_of_mem_take hv) c hc
  ·simp only[mem_cons]at hc;rcases hc with rfl | rfl | hc
   ·exact .inl rfl
   ·exact .inl rfl
   ·exact hj _ (fun v hv=>mem_of_mem_drop hv) c hc
theorem dw:∀ {x q:List Int},(∀ c∈x,c≠58/\c≠91/\c≠93)->hcut false (x++q)=(x++(hcut false q).1,(hcut false q).2)
 | [],q,_=>rfl
 | c::x,q,h=>by have hc:=h c (by simp);show hcut false (c::(x++q))=_;rw[hcut,if_neg (by simp[hc.1]),if_neg hc.2.1,if_neg hc.2.2,dw (fun d hd=>h d (by simp[hd]))];rfl
theorem kQ:∀ {x q:List Int},(∀ c∈x,c≠91/\c≠93)->hcut true (x++93::q)=(x++93::(hcut false q).1,(hcut false q).2)
 | [],q,_=>by
  show hcut true (93::q)=_;rw[hcut,if_neg (by simp),if_neg (by decide),if_pos rfl];rfl
 | c::x,q,h=>by have hc:=h c (by simp);show hcut true (c::(x++93::q))=_;rw[hcut,if_neg (by simp),if_neg hc.1,if_neg hc.2,kQ (fun d hd=>h d (by simp[hd]))];rfl
theorem pD(p:Option (List Int)):hcut false (match p with | none=>[] | some t=>58::t)=([],p):=by
 cases p with
 | none=>rfl
 | some t=>show hcut false (58::t)=_;rw[hcut,if_pos ⟨rfl,rfl⟩]
structure Hk(t:List Int):Prop where
 v:Vis t\/∀ c∈t,32<=c/\c<=126
 n:∀ c∈t,c≠47/\c≠63/\c≠35/\c≠64/\c≠92
 h:∀ q,hcut false (t++q)=(t++(hcut false q).1,(hcut false q).2)
theorem Av:∀ n:Fin 128,H.fb (n.val:Int)=false->n.val≠47/\n.val≠63/\n.val≠35/\n.val≠64/\n.val≠92/\n.val≠58/\n.val≠91/\n.val≠93/\n.val≠32:=by decide +kernel
theorem tc{A:List Int->List Int->Int->Prop}{sp:Bool}{h:H.Hst}(r:H.xv A sp h)(h8:h.2.2.2.1.length=8)(hs:X.Small h.2.2.2.1):Vis (H.txt h)/\Hk (H.txt h):=by
 by_cases h3:h.1=3
 ·have e:H.txt h=91::(X.txt h.2.2.2.1++[93]):=by unfold H.txt;rw[h3];rfl
  have hm:∀ c∈X.txt h.2.2.2.1,c=58\/48<=c/\c<=57\/97<=c/\c<=102:=fun c hc=>od h8 hs hc;have hv:Vis (H.txt h):=by rw[e];refine Vis.cons (by decide) (by decide) (Vis.app (fun c hc=>?_) (Vis.cons (by decide) (by decide) Vis.nil));have:=hm c hc;omega
  refine⟨hv,⟨.inl hv,fun c hc=>?_,fun q=>?_⟩⟩
  ·rw[e]at hc;simp only[mem_cons,mem_append,List.not_mem_nil,or_false]at hc;rcases hc with rfl | hc | rfl
   ·decide
   ·have:=hm c hc;omega
   ·decide
  ·rw[e];show hcut false (91::((X.txt h.2.2.2.1++[93])++q))=_;rw[append_assoc];show hcut false (91::(X.txt h.2.2.2.1++93::q))=_;rw[hcut,if_neg (by decide),if_pos rfl,kQ (fun c hc=>by have:=hm c hc;omega)];simp
 ·have hf:=r.free h3;have hn:∀ c∈H.txt h,c≠47/\c≠63/\c≠35/\c≠64/\c≠92/\c≠58/\c≠91/\c≠93/\c≠32:=fun c hc=>by obtain⟨f1,f2,f3,_⟩:=hf c hc;obtain⟨k,rfl⟩:∃ k:Nat,c=k:=⟨c.toNat,by omega⟩;have:=Av ⟨k,by omega⟩ f1;simp only at this;omega
  have hv:Vis (H.txt h):=fun c hc=>by have h1:=hf c hc;have h2:=hn c hc;omega
  refine⟨hv,⟨.inl hv,fun c hc=>?_,fun q=>dw (fun c hc=>?_)⟩⟩
  ·have:=hn c hc;omega
  ·have:=hn c hc;omega
theorem tR{B:List Int}(hB:∀ c∈B,c≠64):beh B=B:=by unfold beh;obtain⟨e1,_⟩:=fG (f:=oP) (p:=B.reverse) (q:=[]) (fun c hc=>by unfold oP;exact decide_eq_true (hB c (List.mem_reverse.1 hc))) (.inl rfl);rw[append_nil]at e1;rw[e1,List.reverse_reverse]
theorem nG{n:Nat}(h:n<=65535):(F.wr 10 n).all F.ten=true/\F.vl 10 (F.wr 10 n)=n/\F.wr 10 n≠[]:=by
 have hw:=F.cS (b:=10) (n:=n) (by decide) (by decide) (Nat.lt_of_le_of_lt h (by decide));refine⟨F.eD (b:=10) (by decide) hw.1,hw.2,fun e=>?_⟩;by_cases hn:n=0
 ·rw[hn]at e;exact absurd e (by decide)
 ·have h1:=hw.2;rw[e]at h1;exact hn h1.symm
end Y
namespace Cn
open H (Hst HP Asc)
open Y (Vis)
theorem im:∀(f k n:Nat),n<10 ^ (k+1)->(F.wrF 10 f n).length<=k+1
 | 0,k,n,h=>by simp[F.wrF]
 | f+1,k,n,h=>by
  rw[F.wrF];split
  ·simp
  ·rename_i hn;cases k with
   | zero=>simp at h;omega
   | succ k =>
    have:=im f k (n / 10) (by rw[pow_succ]at h;omega);rw[length_append];simp;omega
theorem ju{p:Nat}(h0:1<=p)(h1:p<=65535):pt (F.wr 10 p)=p/\(F.wr 10 p).length<=5/\(∀ c∈F.wr 10 p,48<=c/\c<=57):=by obtain⟨a,b,c⟩:=Y.nG h1;have hl:(F.wr 10 p).length<=5:=im 64 4 p (by show p<100000;omega);refine⟨?_,hl,fun d hd=>of_decide_eq_true (List.all_eq_true.1 a d hd)⟩;unfold pt;rw[if_pos ⟨List.length_pos_iff.2 c,hl,a,by omega⟩,b]
theorem Can.ok{A:List Int->List Int->Int->Prop}(hA:Asc A){h:Hst}(c:Can A h)(hb:U.Bytes (H.txt h))(hX:∀ l a,X.prs l=some a->a.length=8/\X.Small a)(h8:h.2.2.2.1.length=8)(hs:X.Small h.2.2.2.1):
  Vis (H.txt h)/\Y.Hk (H.txt h)/\H.txt h≠[]:=by
 have r:=HP.rests hA hb c.hp c.e (by have:=c.l;omega) hX;obtain⟨a,b⟩:=Y.tc r h8 hs;refine⟨a,b,fun e=>?_⟩;have:=r.none.2 e;have:=c.k;omega
end Cn
namespace U
def IsRow(k:IntKind)(w:World)(a:Option Addr)(len cap:Nat)(zs:List Int):Prop :=
 (a=none/\len=0/\cap=0/\zs=[]) \/
 ∃ x,a=some x/\len<=cap/\cap<=maxLen/\zs.length=cap/\(∀ i,i<zs.length->w.cell? (x.add i)=some (.int k (zs.getD i 0)))/\∀ n∈zs,(Lit.int k n).wf=true
theorem KR{k:IntKind}{w:World}{a:Option Addr}{len cap:Nat}{zs:List Int}(h:IsRow k w a len cap zs):len<=maxLen:=by
 rcases h with⟨_,rfl,_,rfl⟩ | ⟨x,_,hl,hm,_⟩
 ·exact zero_le _
 ·omega
end U
namespace H
theorem so:∀ l a,X.prs l=some a->a.length=8/\X.Small a:=fun l a h=>⟨X.mR h,X.lJ h⟩
theorem HP.spelled{s t:List Int}(hs:U.Bytes (E.de s))(ha:I.bL (E.de s) (E.de t))(ls:s.length<=4096)(lt:t.length<=4096)(b1:¬ s.head? = some 91)(b2:¬ t.head? = some 91){h:Hst}(x:HP IA s true h):HP IA t true h:=by unfold HP at x ⊢;rw[if_neg (by omega),if_neg b1,if_neg (by simp)]at x;rw[if_neg (by omega),if_neg b2,if_neg (by simp)];obtain⟨d,r,⟨T,hT,hA⟩,hd⟩:=x;refine⟨d,r,⟨T,hT,?_⟩,hd⟩;have e:=I.lv (E.de s).length (E.de s) (E.de t) (le_refl _) hs ha;unfold I.Mp at hA ⊢;rw[e];exact hA
end H
namespace Cn
open H (hv aR eZ fa)
theorem eq_self(a:Tg)(w:World):(Op.equalIn 10000 29 (.agg a.cs) (.agg a.cs)).run prog w=.ok true w:=by
 rw[run_equalIn_struct w 9999 29 _ _ (by kernel_rfl) (by kernel_rfl)];have hf:=fields_target;generalize (prog.fieldsOf 29).toList=fs at hf ⊢;match fs,hf with
 | [],hf=>cases hf
 | [_],hf=>simp at hf
 | _::_::_::_,hf=>simp at hf
 | [f0,f1],hf =>
  simp only[map_cons,map_nil,List.cons.injEq,Prod.mk.injEq,decide_eq_false_iff_not,and_true]at hf;obtain⟨⟨t0,o0,n0⟩,⟨t1,o1,n1⟩⟩:=hf;have g16:∀ w,(isAgg 22).run prog w=.ok false w:=fun w=>by kernel_rfl
  simp only[Op.eqFields,ne_eq,n0,n1,not_false_eq_true,if_true,t0,t1,o0,o1,Sem.run_bind];rw[eF,Result.andThen_ok,eF,Result.andThen_ok];have e:=fa 9996 (a.k:Nat) a.nm (a.f:Nat) (a.x0:Nat) (a.x1:Nat) (a.x2:Nat) (a.x3:Nat) (a.x4:Nat) (a.x5:Nat) (a.x6:Nat) (a.x7:Nat) (a.k:Nat) a.nm (a.f:Nat) (a.x0:Nat) (a.x1:Nat) (a.x2:Nat) (a.x3:Nat) (a.x4:Nat) (a.x5:Nat) (a.x6:Nat) (a.x7:Nat) w;rw[eZ]at e;rw[show(.agg a.hs:Value)=hv (a.k:Nat) a.nm (a.f:Nat) (a.x0:Nat) (a.x1:Nat) (a.x2:Nat) (a.x3:Nat) (a.x4:Nat) (a.x5:Nat) (a.x6:Nat) (a.x7:Nat) from rfl,e,Result.andThen_ok];simp only[Bool.not_true,Bool.false_eq_true,if_false,Sem.run_bind];rw[aR _ g16 _ 11 (.int .u16 (a.p:Nat)) rfl,Result.andThen_ok,aR _ g16 _ 11 (.int .u16 (a.p:Nat)) rfl,Result.andThen_ok,run_equalIn_int w 9998 22 .u16 .u16 _ _ underlying22,Result.andThen_ok];simp
theorem pQ(a:Tg)(w:World):(binOp .eql 29 (.agg a.cs) (.agg a.cs)).run prog w=.ok (.bool true) w:=by rw[run_eql_struct,eq_self];rfl
end Cn
namespace Y
def ntb(c:Int):Bool:=!tab c
theorem Kh{c:Int}(h:ntb c=false):blk c=true:=by unfold ntb tab at h;simp at h;unfold blk;exact decide_eq_true (by omega)
theorem iK:∀ l:List Int,(l.filter ntb).dropWhile blk=(l.dropWhile blk).filter ntb
 | []=>rfl
 | c::l=>by
  by_cases hb:blk c=true
  ·rw[List.dropWhile_cons_of_pos hb,<-iK l];by_cases hn:ntb c=true
   ·rw[List.filter_cons_of_pos hn,List.dropWhile_cons_of_pos hb]
   ·rw[List.filter_cons_of_neg hn]
  ·have hn:ntb c=true:=by
    cases h:ntb c with
    | true=>rfl
    | false=>exact absurd (Kh h) hb
   rw[dropWhile_cons_of_neg hb,List.filter_cons_of_pos hn,dropWhile_cons_of_neg hb]
theorem tp(l:List Int):(strip l).filter ntb=strip (l.filter ntb):=by unfold strip;rw[List.filter_reverse,<-iK,List.filter_reverse,<-iK]
theorem yX(s:List Int):cln s=U.aj (strip ((U.dec s).filter ntb)):=by rw[<-tp];rfl
theorem ux{a l:List Int}(h:∀ c∈a,blk c=true):strip (a++l)=strip l:=by unfold strip;rw[List.dropWhile_append_of_pos h]
theorem wS{b:List Int}(h:∀ c∈b,blk c=true):∀ l:List Int,((l++b).dropWhile blk).reverse.dropWhile blk=(l.dropWhile blk).reverse.dropWhile blk
 | []=>by
  have e:b.dropWhile blk=[]:=by have:=List.dropWhile_append_of_pos (p:=blk) (l₁:=b) (l₂:=[]) h;simpa using this
  rw[nil_append,e];rfl
 | c::l=>by
  by_cases hb:blk c=true
  ·rw[cons_append,List.dropWhile_cons_of_pos hb,List.dropWhile_cons_of_pos hb,wS h l]
  ·rw[cons_append,dropWhile_cons_of_neg hb,dropWhile_cons_of_neg hb];have e:(c::(l++b)).reverse=b.reverse++(c::l).reverse:=by simp
   rw[e,List.dropWhile_append_of_pos (fun x hx=>h x (List.mem_reverse.1 hx))]
theorem xL{b l:List Int}(h:∀ c∈b,blk c=true):strip (l++b)=strip l:=by unfold strip;rw[wS h l]
theorem yY{s t f m b:List Int}(hf:∀ c∈f,blk c=true)(hb:∀ c∈b,blk c=true)(hm:m.filter ntb=(U.dec s).filter ntb)(ht:U.dec t=f++(m++b)):cln t=cln s:=by rw[yX,yX,ht,filter_append,filter_append,hm,ux (fun c hc=>hf c (List.mem_filter.1 hc).1),xL (fun c hc=>hb c (List.mem_filter.1 hc).1)]
end Y
namespace Cn
open H (Hst HP Asc non dom)
open Y (UP Vis aN bG)
theorem Can.bytes{A:List Int->List Int->Int->Prop}(hA:Asc A){h:Hst}(c:Can A h)(h4:h.2.2.1<4294967296)(h8:h.2.2.2.1.length=8)(hs:X.Small h.2.2.2.1):U.Bytes (H.txt h):=by
 rcases c.k with hk | hk | hk
 ·have hx:=c.hp;have htx:H.txt h=h.2.1:=by unfold H.txt;rw[if_pos (.inl hk)]
  unfold HP at hx;rw[if_neg (by have:=c.l;omega)]at hx;split at hx
  ·exfalso;rw[hx]at hk;unfold H.six at hk;split at hk
   ·split at hk <;> cases hk
   ·cases hk
  rw[if_neg (by simp)]at hx;obtain⟨d,r,hd,hdm⟩:=hx;unfold dom at hdm;split at hdm
  ·rw[hdm]at hk;cases hk
  rename_i hr;split at hdm
  ·split at hdm <;> (rw[hdm]at hk;cases hk)
  have hr0:r=0:=Classical.byContradiction fun e=>hr (.inl e);rw[hr0]at hd;rw[htx,hdm];exact fun b hb=>by have:=hA.low hd b hb;exact⟨this.1,by omega⟩
 ·have:H.txt h=F.txt h.2.2.1:=by unfold H.txt;rw[if_neg (by omega),if_pos hk]
  rw[this];exact fun b hb=>by have:=H.iq h4 b hb;exact⟨by omega,by omega⟩
 ·have:H.txt h=91::(X.txt h.2.2.2.1++[93]):=by unfold H.txt;rw[if_neg (by omega),if_neg (by omega),if_pos hk]
  rw[this];intro b hb;rcases List.mem_cons.1 hb with rfl | hb
  ·decide
  ·rcases List.mem_append.1 hb with hb | hb
   ·have:=Y.od h8 hs hb;exact⟨by omega,by omega⟩
   ·rw[List.mem_singleton.1 hb];decide
theorem tK{x:Hst}{b:Bool}(he:(ch x b).2.2.2.2=0):(ch x b).2.2.1=x.2.2.1/\(ch x b).2.2.2.1=x.2.2.2.1:=by
 unfold ch at he ⊢;split at he
 ·cases he
 rename_i h;rw[if_neg h];split at he
 ·rename_i h1;rw[if_pos h1];exact⟨rfl,rfl⟩
 ·rename_i h1;rw[if_neg h1];split at he
  ·rename_i h2;rw[if_pos h2];exact⟨rfl,rfl⟩
  ·cases he
structure Tgt(A:List Int->List Int->Int->Prop)(h:Hst)(p:Nat):Prop where
 c:Can A h
 p0:1<=p
 p1:p<=65535
 f:h.2.2.1<4294967296
 a:h.2.2.2.1.length=8
 s:X.Small h.2.2.2.1
 v:Vis (H.txt h)
 k:Y.Hk (H.txt h)
 n:H.txt h≠[]
theorem nS{A:List Int->List Int->Int->Prop}(hA:Asc A)(hD:qy A)(hX:∀ l a,X.prs l=some a->a.length=8/\X.Small a){x h:Hst}{p:Nat}(hx:x.2.2.2.2=0)(hc:CH A x h)(he:h.2.2.2.2=0)(f:x.2.2.1<4294967296)(a:x.2.2.2.1.length=8)(s:X.Small x.2.2.2.1)(p0:1<=p)(p1:p<=65535):Tgt A h p:=by
 have c:=CH.can hA hD hx hc he (by have:=H.kf f;omega) (by have:=(X.iT a).2;omega);obtain⟨b,m,rfl⟩:=hc;obtain⟨e1,e2⟩:=tK he;have f':(ch x b).2.2.1<4294967296:=by rw[e1];exact f
 have a':(ch x b).2.2.2.1.length=8:=by rw[e2];exact a
 have s':X.Small (ch x b).2.2.2.1:=by rw[e2];exact s
 obtain⟨v,k,n⟩:=c.ok hA (c.bytes hA f' a' s') hX a' s';exact⟨c,p0,p1,f',a',s',v,k,n⟩
theorem pO{h g:Hst}{p q:Nat}{e:Int}(x:(h,p)=fin g q e)(he0:e≠0)(h0:h.2.2.2.2=0):h=g/\p=q/\g.2.2.2.2=0/\q≠0:=by
 unfold fin at x;split at x
 ·rename_i hh;obtain⟨rfl,rfl⟩:=Prod.mk.inj x;exact absurd h0 hh
 rename_i hh;split at x
 ·obtain⟨rfl,rfl⟩:=Prod.mk.inj x;exact absurd h0 he0
 ·rename_i hq;obtain⟨rfl,rfl⟩:=Prod.mk.inj x;exact⟨rfl,rfl,h0,hq⟩
theorem AB.tgt{A:List Int->List Int->Int->Prop}(hA:Asc A)(hD:qy A)(hX:∀ l a,X.prs l=some a->a.length=8/\X.Small a){s:List Int}(hs:U.Bytes s){h:Hst}{p:Nat}(x:AB A s (h,p))(h0:h.2.2.2.2=0):Tgt A h p:=by
 obtain⟨u,e,x1,x2⟩:=x;obtain⟨l1,l2,l3,l4,l5,_⟩:=UP.lim hA hs x1;have dead:∀ {k:Int},k≠0->(h,p)≠(non k,0):=fun hk hh=>by obtain⟨rfl,_⟩:=Prod.mk.inj hh;exact hk h0
 split at x2
 ·rename_i he;exact absurd x2 (dead he)
 split at x2
 ·exact absurd x2 (dead (by decide))
 rename_i hsc;split at x2
 ·exact absurd x2 (dead (by decide))
 obtain⟨g,hg,hr⟩:=x2;obtain⟨rfl,rfl,hg0,hp0⟩:=pO hr (by decide) h0;refine nS hA hD hX (x:=uh u) rfl hg hg0 l2 l3 l4 (by omega) ?_;split
 ·omega
 ·by_cases h1:u.sch=aN
  ·rw[h1];decide
  ·have h2:u.sch=bG:=Classical.byContradiction fun h2=>hsc ⟨h1,h2⟩;rw[h2];decide
end Cn
namespace Y
def sg(x:List Int):List Int:=(x.reverse.dropWhile blk).reverse
def cr(x:List Int):List Int:=U.aj (sg ((U.dec x).filter ntb))
theorem uy{p x:List Int}(h:∀ c,p.getLast? = some c->33<=c)(hp:p≠[]):sg (p++x)=p++sg x:=by
 unfold sg;rw[List.reverse_append];cases hx:x.reverse.dropWhile blk with
 | nil =>
  have hall:∀ c∈x.reverse,blk c=true:=by have:=List.takeWhile_append_dropWhile (p:=blk) (l:=x.reverse);rw[hx,append_nil]at this;intro c hc;rw[<-this]at hc;exact(gB hc).1
  rw[List.dropWhile_append_of_pos hall];cases hr:p.reverse with
  | nil=>exact absurd (List.reverse_eq_nil_iff.1 hr) hp
  | cons c t =>
   have hc:=h c (by rw[<-List.head?_reverse,hr];rfl);rw[dropWhile_cons_of_neg (by unfold blk;simp;omega),<-hr];simp
 | cons c t =>
  rw[List.dropWhile_append,hx];simp
theorem mc:∀ {p x:List Int},(∀ c∈p,0<=c/\c<128)->U.Bytes x->U.dec (p++x)=p++U.dec x
 | [],x,_,_=>rfl
 | c::p,x,h,hx=>by
  have hc:=h c (by simp)
  have hb:U.Bytes (p++x):=fun b hb=>by
   rcases List.mem_append.1 hb with hb | hb
   ·have:=h b (by simp[hb]);omega
   ·exact hx b hb
  have:=I.ng c (p++x) hc.1 hc.2 hb 0 [] (le_refl _) (fun b hb=>by simp at hb);rw[nil_append,U.eC,nil_append]at this;show U.dec (c::(p++x))=_;rw[this,mc (fun d hd=>h d (by simp[hd])) hx];rfl
theorem Vis.ntb{p:List Int}(h:Vis p):p.filter Y.ntb=p:=by rw[List.filter_eq_self];intro c hc;have:=h c hc;unfold Y.ntb tab;simp;omega
theorem cW(a b:List Int):U.aj (a++b)=U.aj a++U.aj b:=by show(a++b).flatMap U.enc=a.flatMap U.enc++b.flatMap U.enc;simp
theorem Nf{p x:List Int}(hp:Vis p)(hne:p≠[])(hx:U.Bytes x):cln (p++x)=p++cr x:=by
 rw[yX,mc (fun c hc=>by have:=hp c hc;omega) hx,filter_append,hp.ntb]
 have hs:strip (p++(U.dec x).filter Y.ntb)=p++sg ((U.dec x).filter Y.ntb):=by
  rw[<-uy (fun c hc=>(hp c (mem_of_getLast? hc)).1) hne];unfold strip sg;congr 3;cases p with
  | nil=>exact absurd rfl hne
  | cons c t =>
   have:=hp c (by simp);rw[cons_append,dropWhile_cons_of_neg (by unfold blk;simp;omega)]
 rw[hs,cW,E.bI (fun c hc=>by have:=hp c hc;omega)];rfl
end Y
namespace Cn
open H (Hst HP Asc fd IA)
open Y (UP Ur zu aN own hcut ath por sch aus nau sl tl qf cln hqy rdc beh)
def Wp(c:Int)(g:List Int):Prop :=
 g=[c]\/((97<=c/\c<=122)/\g=[c - 32])\/(∃ a b,g=[37,a,b]/\(48<=a/\a<=57\/97<=a/\a<=102)/\(48<=b/\b<=57\/97<=b/\b<=102)/\16 * E.hx a+E.hx b=c)\/((97<=c/\c<=122)/\g=[c+65248])
def Wps:List Int->List Int->Prop
 | [],t=>t=[]
 | c::n,t=>∃ g u,Wp c g/\Wps n u/\t=g++u
theorem Wps.snoc{c:Int}{g:List Int}(h:Wp c g):∀ {n t:List Int},Wps n t->Wps (n++[c]) (t++g)
 | [],t,x=>⟨g,[],h,rfl,by rw[show t=[] from x];simp⟩
 | d::n,t,⟨g',u,h1,h2,e⟩=>⟨g',u++g,h1,Wps.snoc h h2,by rw[e,append_assoc]⟩
def Ws(l:List Int):Prop:=∀ c∈l,(33<=c/\c<=126/\c≠47/\c≠63/\c≠35/\c≠64/\c≠92/\c≠58/\c≠91/\c≠93)\/(65345<=c/\c<=65370)
theorem Wp.ws{c:Int}{g:List Int}(h:Wp c g)(hc:fd c=false)(h0:c<=126):Ws g:=by
 have hf:=H.gn hc;have hb:c≠47/\c≠63/\c≠35/\c≠64/\c≠92/\c≠58/\c≠91/\c≠93/\c≠32:=by have:=Y.Av ⟨c.toNat,by omega⟩;simp only at this;rw[Int.toNat_of_nonneg (by omega)]at this;have:=this hf.1;omega
 intro d hd;rcases h with rfl | ⟨hl,rfl⟩ | ⟨a,b,rfl,ha,hb',_⟩ | ⟨hl,rfl⟩
 ·rw[List.mem_singleton.1 hd];left;omega
 ·rw[List.mem_singleton.1 hd];left;omega
 ·simp at hd;left;omega
 ·rw[List.mem_singleton.1 hd];right;omega
theorem Wps.ws:∀ {n t:List Int},Wps n t->(∀ c∈n,fd c=false/\c<=126)->Ws t
 | [],t,x,h=>by rw[show t=[] from x];intro c hc;cases hc
 | d::n,t,⟨g,u,h1,h2,e⟩,h=>by
  intro c hc;rw[e]at hc;rcases List.mem_append.1 hc with hc | hc
  ·exact h1.ws (h d (by simp)).1 (h d (by simp)).2 c hc
  ·exact Wps.ws h2 (fun x hx=>h x (by simp[hx])) c hc
theorem Ws.ar{l:List Int}(h:Ws l):∀ c∈l,U.ar c=true:=fun c hc=>by have:=h c hc;unfold U.ar;simp;omega
theorem NU{a:Int}(h:48<=a/\a<=57\/97<=a/\a<=102):0<=E.hx a:=by unfold E.hx;(repeat' split) <;> omega
theorem Ay:∀(g u:List Int),(∀ c∈g,128<=c)->E.de (g++u)=g++E.de u
 | [],u,_=>rfl
 | c::g,u,h=>by rw[cons_append,E.gx (by have:=h c (by simp);omega),Ay g u (fun x hx=>h x (by simp[hx]))];rfl
theorem uf{c:Int}(h:97<=c/\c<=122):∀ d∈U.enc (c+65248),128<=d:=by
 have:∀ k:Fin 128,97<=k.val/\k.val<=122->∀ d∈U.enc ((k.val:Int)+65248),128<=d:=by decide +kernel
 have h2:=this ⟨c.toNat,by omega⟩ (by simp only;omega);simp only at h2;rw[Int.toNat_of_nonneg (by omega)]at h2;exact h2
theorem ft{c:Int}(h:c<128):U.enc c=[c]:=by unfold U.enc;rw[if_pos h]
theorem Wps.alts:∀ {n t:List Int},Wps n t->(∀ c∈n,c≠37/\c<=126)->I.bL n (E.de (U.aj t))
 | [],t,x,h=>by rw[show t=[] from x];exact I.bL.nil
 | c::n,t,⟨g,u,h1,h2,e⟩,h=>by
  have ih:=Wps.alts h2 (fun x hx=>h x (by simp[hx]));have hc:=h c (by simp);rw[e,Y.cW];rcases h1 with rfl | ⟨hl,rfl⟩ | ⟨a,b,rfl,ha,hb,hv⟩ | ⟨hl,rfl⟩
  ·have e1:U.aj [c]=[c]:=by unfold U.aj;rw[flatMap_cons,flatMap_nil,ft (by omega)];rfl
   rw[e1,cons_append,nil_append,E.gx hc.1];exact I.bL.cons (I.Alt.same _) ih
  ·have e1:U.aj [c - 32]=[c - 32]:=by unfold U.aj;rw[flatMap_cons,flatMap_nil,ft (by omega)];rfl
   rw[e1,cons_append,nil_append,E.gx (by omega)];exact I.bL.cons (I.Alt.cap _ hl) ih
  ·have e1:U.aj [37,a,b]=[37,a,b]:=by unfold U.aj;rw[flatMap_cons,flatMap_cons,flatMap_cons,flatMap_nil,ft (by decide),ft (by omega),ft (by omega)];rfl
   rw[e1];show I.bL _ (E.de (37::a::b::U.aj u));rw[E.IQ (NU ha) (NU hb),hv];exact I.bL.cons (I.Alt.same _) ih
  ·have e1:U.aj [c+65248]=U.enc (c+65248):=by unfold U.aj;rw[flatMap_cons,flatMap_nil,append_nil]
   rw[e1,Ay _ _ (uf hl)];exact I.bL.cons (I.Alt.wide _ (.inl hl)) ih
theorem Ws.bytes{l:List Int}(h:Ws l):∀ b∈U.aj l,(33<=b/\b<=126/\b≠47/\b≠63/\b≠35/\b≠64/\b≠92/\b≠58/\b≠91/\b≠93)\/(128<=b/\b<=255):=by
 intro b hb;unfold U.aj at hb;obtain⟨c,hc,hbc⟩:=List.mem_flatMap.1 hb;rcases h c hc with h1 | h1
 ·rw[ft (by omega)]at hbc;rw[List.mem_singleton.1 hbc];exact .inl h1
 ·have h2:=uf (c:=c - 65248) (by omega) b (by rw[show c - 65248+65248=c by omega];exact hbc);have h3:=U.cL c (by omega) (by omega) b hbc;exact .inr ⟨h2,h3.2⟩
theorem Cp:∀ {x q:List Int},(∀ c∈x,c≠58/\c≠91/\c≠93)->hcut false (x++58::q)=(x,some q):=by intro x q h;rw[Y.dw h];have:hcut false (58::q)=([],some q):=Y.pD (some q);rw[this,append_nil]
theorem AU.goes{A:List Int->List Int->Int->Prop}(hA:Asc A){T:List Int}{x h:Hst}{p q:Nat}(hT:∀ b∈T,(33<=b/\b<=126/\b≠64)\/128<=b)(hl:T.length<=4000)(hx:HP A T true x)(x0:x.2.2.2.2=0)(hg:∀ g,CH A x g->g=h)(h0:h.2.2.2.2=0)(hp0:1<=p)(hp1:p<=65535){r:Hst×Nat}(a:AU A (T++58::F.wr 10 p) q r):r=(h,p):=by
 obtain⟨hw1,hw2,hd⟩:=ju hp0 hp1
 have hall:∀ b∈T++58::F.wr 10 p,(33<=b/\b<=126/\b≠64)\/128<=b:=fun b hb=>by
  rcases List.mem_append.1 hb with hb | hb
  ·exact hT b hb
  ·rcases List.mem_cons.1 hb with rfl | hb
   ·decide
   ·have:=hd b hb;omega
 have hac:dD (T++58::F.wr 10 p)=(T,some (F.wr 10 p)):=by
  have hr:(T++58::F.wr 10 p).reverse=(F.wr 10 p).reverse++58::T.reverse:=by simp
  have hnc:∀ c∈(F.wr 10 p).reverse,nc c=true:=fun c hc=>by have:=hd c (List.mem_reverse.1 hc);unfold nc;simp;omega
  obtain⟨a,b⟩:=Y.fG (f:=nc) (p:=(F.wr 10 p).reverse) (q:=58::T.reverse) hnc (.inr ⟨58,_,rfl,by decide⟩);unfold dD;rw[hr,a,b,if_pos (by rfl)];simp
 unfold AU at a
 rw[if_neg (by rw[length_append,length_cons];omega),if_neg (fun hh=>by
   obtain⟨d,hd,hbd⟩:=List.any_eq_true.1 hh
   have:=hall d hd
   unfold bad at hbd
   simp at hbd;omega),if_neg (fun hh=>by have:=hall 64 hh;omega),hac]at a
 obtain⟨y,hy,a⟩:=a;have hyx:=HP.one hA hy hx;subst hyx;rw[if_neg (by rw[x0];simp)]at a;obtain⟨g,hcg,a⟩:=a;have:=hg g hcg;subst this;rw[if_neg (by rw[h0];simp)]at a;simp only at a;rw[a,hw1];unfold fin;rw[if_neg (by rw[h0];simp),if_neg (by omega)]
theorem wC(u:Ur)(l:List Int):(Y.fr u l).sch=u.sch/\(Y.fr u l).usr=u.usr/\(Y.fr u l).pas=u.pas/\(Y.fr u l).hst=u.hst/\(Y.fr u l).hp=u.hp/\(Y.fr u l).prt=u.prt:=by cases l <;> exact⟨rfl,rfl,rfl,rfl,rfl,rfl⟩
theorem Fi(sp:Bool)(u:Ur):∀ l:List Int,(qf sp u l).sch=u.sch/\(qf sp u l).usr=u.usr/\(qf sp u l).pas=u.pas/\(qf sp u l).hst=u.hst/\(qf sp u l).hp=u.hp/\(qf sp u l).prt=u.prt
 | []=>⟨rfl,rfl,rfl,rfl,rfl,rfl⟩
 | c::r=>by
  by_cases h:c=63
  ·have e:qf sp u (c::r)=Y.fr { u with hq:=true,qry:=E.en (if sp=true then 3 else 2) (U.dec (r.takeWhile Y.kD)) } (r.dropWhile Y.kD):=if_pos h;rw[e];exact wC _ _
  ·have e:qf sp u (c::r)=Y.fr u (c::r):=if_neg h;rw[e];exact wC _ _
theorem Es(w:Ur)(l:List Int):(tl true true w l).sch=w.sch/\(tl true true w l).usr=w.usr/\(tl true true w l).pas=w.pas/\(tl true true w l).hst=w.hst/\(tl true true w l).hp=w.hp/\(tl true true w l).prt=w.prt:=by unfold tl;rw[if_pos (.inl rfl)];exact Fi true { w with pth:=Y.lst true (l.takeWhile Y.npq) } _
theorem AB.goes{A:List Int->List Int->Int->Prop}(hA:Asc A){s M q T R:List Int}{x h:Hst}{p:Nat}(hs:s.length<=4096)(hc:cln s=M++58::(q++(T++58::(F.wr 10 p++R))))(hM:∀ Z,sch (M++58::Z)=some (aN,Z))(hq:∀ c∈q,sl true c=true)(hR:R=[]\/∃ t,R=47::t)
  (hT:∀ b∈T,b≠47/\b≠63/\b≠35/\b≠64/\b≠92/\b≠58/\b≠91/\b≠93) (hne:T≠[]) (hx:HP A T true x) (x0:x.2.2.2.2=0) (hg:∀ g,CH A (x.1,x.2.1,x.2.2.1,x.2.2.2.1,0) g->g=h) (h0:h.2.2.2.2=0) (hp0:1<=p) (hp1:p<=65535) {r:Hst×Nat} (a:AB A s r):r=(h,p):=by
 obtain⟨hw1,hw2,hd⟩:=ju hp0 hp1;obtain⟨wa,wb,wc⟩:=Y.nG hp1;obtain⟨u,e,x1,x2⟩:=a;obtain⟨V,hV⟩:=Ex' (T++58::F.wr 10 p)
 have hVn:∀ b∈V,b≠47/\b≠63/\b≠35/\b≠64/\b≠92:=fun b hb=>by
  rw[<-hV]at hb;rcases List.mem_append.1 hb with hb | hb
  ·have:=hT b hb;omega
  ·rcases List.mem_cons.1 hb with rfl | hb
   ·decide
   ·have:=hd b hb;omega
 have hVR:T++58::(F.wr 10 p++R)=V++R:=by rw[<-hV];simp
 rw[hVR]at hc;unfold UP at x1;rw[if_neg (by omega),hc]at x1;obtain⟨g,g1,g2⟩:=x1;have ho:(own aN).isSome=true:=by decide
 have hf:aN≠Y.di:=by decide
 have hVne:∃ c t,V=c::t:=by
  cases V with
  | nil=>exact absurd (List.append_eq_nil_iff.1 hV).1 hne
  | cons c t=>exact⟨c,t,rfl⟩
 have ha:aus aN (q++(V++R))=some (V++R):=by unfold aus;rw[if_pos ho,List.dropWhile_append_of_pos hq];obtain⟨c,t,rfl⟩:=hVne;have:=hVn c (by simp);rw[cons_append,dropWhile_cons_of_neg (by unfold sl;simp;omega)]
 have hna:∀ c∈V,nau true c=true:=fun c hc=>by have:=hVn c hc;unfold nau sl Y.qm;simp;omega
 obtain⟨t1,t2⟩:=Y.fG (f:=nau true) (p:=V) (q:=R) hna (by
   rcases hR with h | ⟨t,h⟩
   · exact .inl h
   · exact .inr ⟨47,t,h,by decide⟩)
 have h64:64∉V:=fun hh=>(hVn 64 hh).2.2.2.1 rfl;have hbeh:beh V=V:=Y.tR (fun c hc=>(hVn c hc).2.2.2.1);have hcut':hcut false V=(T,some (F.wr 10 p)):=by rw[<-hV];exact Cp (fun c hc=>by have:=hT c hc;omega)
 have hask:Y.ask true V=some T:=by unfold Y.ask;rw[if_neg (fun hh=>h64 hh.1),hbeh,hcut',if_neg (fun hh=>hne hh.1)]
 have hgx:g=x:=HP.one hA (g1 T true (by
   unfold hqy
   rw[hM]
   simp only
   rw[if_neg hf,ha]
   simp only
   rw[ho,t1,hask];rfl)) hx
 subst hgx;have hpo:por (own aN) (some (F.wr 10 p))=(if own aN=some p then some (false,0) else some (true,p)):=by unfold por;simp only;rw[if_neg wc,if_pos ⟨wa,by omega⟩,wb]
 have hath:ath aN V g=({ zu with sch:=aN,usr:=[],pas:=[],hh:=true,hst:=(g.1,g.2.1,g.2.2.1,g.2.2.2.1),hp:=(if own aN=some p then false else true),prt:=(if own aN=some p then 0 else p) },0):=by
  unfold ath;rw[ho,hask,if_neg (by simp),if_neg (by rw[x0];simp),hbeh,hcut'];simp only;rw[hpo];by_cases hop:own aN=some p
  ·rw[if_pos hop,if_pos hop,if_pos hop];simp only[if_neg h64]
  ·rw[if_neg hop,if_neg hop,if_neg hop];simp only[if_neg h64]
 have hr:rdc (M++58::(q++(V++R))) g=(tl true true (ath aN V g).1 R,0):=by unfold rdc;rw[hM];simp only;rw[if_neg hf,ha];simp only;rw[ho,t1,t2,hath,if_neg (by simp)]
 rw[hr,hath]at g2;simp only at g2;obtain⟨rfl,rfl⟩:=Prod.mk.inj g2;obtain⟨t1,t2,t3,t4,t5,t6⟩:=Es { zu with sch:=aN,usr:=[],pas:=[],hh:=true,hst:=(g.1,g.2.1,g.2.2.1,g.2.2.2.1),hp:=(if own aN=some p then false else true),prt:=(if own aN=some p then 0 else p) } R;simp only at t1 t2 t3 t4 t5 t6;rw[if_neg (by simp),t1,if_neg (by simp),t2,t3,if_neg (by simp)]at x2;obtain⟨k,hk,rfl⟩:=x2;unfold uh at hk;rw[t4]at hk;have:=hg k hk;subst this;rw[t5,t6]
 have hport:(if (if own aN=some p then false else true)=true then (if own aN=some p then 0 else p) else (own aN).getD 0)=p:=by
  by_cases hop:own aN=some p
  ·simp[hop]
  ·simp[hop]
 rw[hport];unfold fin;rw[if_neg (by rw[h0];simp),if_neg (by omega)]
open H (Hst HP May fd dom IA)
open Y (Vis aN sch cln cr sg)
def qF:List Int:=[104,84,84,112]
theorem xd{L path:List Int}(hL:∀ c∈L,U.ar c=true/\33<=c)(hp:U.Bytes path):∃ z,cln (32::(qF++58::([92,47]++(U.aj L++47::path))))=qF++58::([92,47]++(U.aj L++47::z)):=by
 have hsc:L.all U.ar=true:=List.all_eq_true.2 (fun c hc=>(hL c hc).1);have hbL:U.Bytes (U.aj L):=Y.cY (fun c hc=>(hL c hc).1);obtain⟨x,hx⟩:=Ex' (U.aj L++47::path)
 have hbx:U.Bytes x:=by
  rw[<-hx];intro b hb;rcases List.mem_append.1 hb with hb | hb
  ·exact hbL b hb
  ·rcases List.mem_cons.1 hb with rfl | hb
   ·decide
   ·exact hp b hb
 have hP:Vis [104,84,84,112,58,92,47]:=fun c hc=>by simp at hc;omega
 have hPx:qF++58::([92,47]++x)=[104,84,84,112,58,92,47]++x:=rfl
 have hbP:U.Bytes ([104,84,84,112,58,92,47]++x):=fun b hb=>by
  rcases List.mem_append.1 hb with hb | hb
  ·have:=hP b hb;exact⟨by omega,by omega⟩
  ·exact hbx b hb
 have e1:cln (32::([104,84,84,112,58,92,47]++x))=cln ([104,84,84,112,58,92,47]++x):=by refine Y.yY (f:=[32]) (m:=U.dec ([104,84,84,112,58,92,47]++x)) (b:=[]) (fun c hc=>by rw[List.mem_singleton.1 hc];decide) (fun c hc=>by cases hc) rfl ?_;have:=Y.mc (p:=[32]) (x:=[104,84,84,112,58,92,47]++x) (fun c hc=>by rw[List.mem_singleton.1 hc];decide) hbP;rw[append_nil];exact this
 have e3:U.dec x=(L++[47])++U.dec path:=by rw[<-hx,I.ng 47 path (by decide) (by decide) hp _ _ (le_refl _) hbL,(U.back L hsc).1];simp
 have hfl:(L++[47]).filter Y.ntb=L++[47]:=by
  rw[List.filter_eq_self];intro c hc
  have:33<=c:=by
   rcases List.mem_append.1 hc with hc | hc
   ·exact(hL c hc).2
   ·rw[List.mem_singleton.1 hc];decide
  unfold Y.ntb Y.tab;simp;omega
 have e4:cr x=U.aj L++47::U.aj (sg ((U.dec path).filter Y.ntb)):=by
  unfold cr
  rw[e3,filter_append,hfl,Y.uy (fun c hc=>by
    rw[List.getLast?_concat]at hc
    have:=Option.some.inj hc
    omega) (by simp),Y.cW,Y.cW]
  have:U.aj [47]=[47]:=rfl;rw[this,append_assoc];rfl
 refine⟨U.aj (sg ((U.dec path).filter Y.ntb)),?_⟩;rw[hx,hPx,e1,Y.Nf hP (by simp) hbx,e4];rfl
theorem Iq(Z:List Int):sch (qF++58::Z)=some (aN,Z):=rfl
theorem Tgt.name{h:Hst}{p:Nat}(t:Tgt IA h p)(hk:h.1=1):h=(1,h.2.1,0,H.z8,0)/\IA h.2.1 h.2.1 0/\(∀ c∈h.2.1,fd c=false/\0<=c/\c<=126)/\F.ends h.2.1=false/\okn h.2.1=true/\¬ h.2.1.head? = some 91:=by
 have hx:=t.c.hp;have htx:H.txt h=h.2.1:=by unfold H.txt;rw[if_pos (.inl hk)]
 have hl:=t.c.l;rw[htx]at hl;unfold HP at hx;rw[htx,if_neg (by omega)]at hx;split at hx
 ·exfalso;rw[hx]at hk;unfold H.six at hk;split at hk
  ·split at hk <;> cases hk
  ·cases hk
 rename_i h91;rw[if_neg (by simp)]at hx;obtain⟨d,r,hd,hdm⟩:=hx;unfold dom at hdm;split at hdm
 ·rw[hdm]at hk;cases hk
 rename_i hr;split at hdm
 ·split at hdm <;> (rw[hdm]at hk;cases hk)
 rename_i hen;have hr0:r=0:=Classical.byContradiction fun e=>hr (.inl e);have hdn:h.2.1=d:=by rw[hdm]
 have hfd:∀ c∈d,fd c=false:=H.dW (fun e=>hr (.inr (.inr e)));rw[hr0]at hd;have hlow:=H.asc.low hd;have h37:∀ c∈d,c≠37:=fun c hc=>(H.gn (hfd c hc)).2.2.1;have ha:IA d d 0:=H.asc.rest hd;have ho:=t.c.u hk;rw[hdn]at ho h91 ⊢;refine⟨hdm,ha,fun c hc=>⟨hfd c hc,(hlow c hc).1,?_⟩,not_eq_true _ ▸ hen,ho,h91⟩;have h1:=hlow c hc;have h2:=(H.gn (hfd c hc)).2.2.2;omega
theorem Tgt.dotted{h:Hst}{p:Nat}(t:Tgt IA h p)(hk:h.1=1)(dot:Bool):∃ n,n=(if dot=true then h.2.1++[46] else h.2.1)/\HP IA n true (1,n,0,H.z8,0)/\(∀ g,CH IA (1,n,0,H.z8,0) g->g=h)/\(∀ c∈n,fd c=false/\c≠37/\0<=c/\c<=126)/\n.length<=254/\¬ n.head? = some 91/\n≠[]:=by
 obtain⟨e,ha,hc,hen,ho,h91⟩:=t.name hk;obtain⟨hn0,hl46,hl,hsl⟩:=fY ho;have hb:U.Bytes h.2.1:=fun b hb=>by have:=hc b hb;exact⟨by omega,by omega⟩
 have base:∀ n:List Int,IA n n 0->(∀ c∈n,fd c=false/\c≠37/\0<=c/\c<=126)->F.ends n=false->n≠[]->n.length<=254->¬ n.head? = some 91->HP IA n true (1,n,0,H.z8,0):=fun n h1 h2 h3 h4 h5 h6=>by
  unfold HP;rw[if_neg (by omega),if_neg h6,if_neg (by simp)];refine⟨n,0,?_,?_⟩
  ·rw[H.bX _ _ (le_refl _) (fun c hc=>(h2 c hc).2.1)];exact h1
  ·unfold dom;rw[if_neg,if_neg (by rw[h3];simp)];rintro(h | h | h)
   ·exact h rfl
   ·exact h4 h
   ·obtain⟨c,hc,hcf⟩:=List.any_eq_true.1 h;rw[(h2 c hc).1]at hcf;cases hcf
 have hcc:∀ c∈h.2.1,fd c=false/\c≠37/\0<=c/\c<=126:=fun c h1=>⟨(hc c h1).1,(H.gn (hc c h1).1).2.2.1,(hc c h1).2⟩;cases dot with
 | false =>
  refine⟨h.2.1,by simp,base _ ha hcc hen hn0 (by omega) h91,fun g hg=>?_,hcc,by omega,h91,hn0⟩;rw[<-e]at hg;exact t.c.CH H.asc hg
 | true =>
  have hcd:∀ c∈h.2.1++[46],fd c=false/\c≠37/\0<=c/\c<=126:=fun c h1=>by
   rcases List.mem_append.1 h1 with h1 | h1
   ·exact hcc c h1
   ·rw[List.mem_singleton.1 h1];decide
  have hd:=H.IA.dot hb ha
  have hh:¬ (h.2.1++[46]).head? = some 91:=by
   cases hn:h.2.1 with
   | nil=>exact absurd hn hn0
   | cons c l=>rw[hn]at h91;simpa using h91
  have hhp:=base _ hd hcd (by rw[kW hsl];exact hen) (by simp) (by simp;omega) hh;refine⟨h.2.1++[46],by simp,hhp,fun g hg=>?_,hcd,by simp;omega,hh,by simp⟩;obtain⟨b,m,rfl⟩:=hg;have htx:H.txt (1,h.2.1++[46],0,H.z8,0)=h.2.1++[46]:=by unfold H.txt;rw[if_pos (.inl rfl)]
  have hb1:b=true:=by unfold May at m;rw[htx,if_neg (fun e=>by cases e),if_neg (by simp;omega)]at m;obtain⟨x,hx,rfl⟩:=m;rw[HP.one H.asc hx hhp];exact decide_eq_true ⟨rfl,rfl,by simp⟩
  subst hb1;have hu:und (h.2.1++[46])=h.2.1:=by unfold und;rw[if_pos (by simp)];simp
  unfold ch;rw[if_neg (by simp),if_neg (by simp)];simp only;rw[hu,if_pos ho];exact e.symm
open H (Hst HP non IA)
open Y (UP)
theorem Wps.len:∀ {n t:List Int},Wps n t->t.length<=3 * n.length
 | [],t,x=>by rw[show t=[] from x];simp
 | c::n,t,⟨g,u,h1,h2,e⟩=>by
  have ih:=Wps.len h2;have hg:g.length<=3:=by rcases h1 with rfl | ⟨_,rfl⟩ | ⟨a,b,rfl,_⟩ | ⟨_,rfl⟩ <;> simp
  rw[e,length_append,length_cons];omega
theorem jU:∀ {l:List Int},(∀ c∈l,c<128)->U.aj l=l
 | [],_=>rfl
 | c::l,h=>by
  have ih:=jU (l:=l) (fun x hx=>h x (by simp[hx]));have e:U.aj (c::l)=U.enc c++U.aj l:=by unfold U.aj;rw[flatMap_cons]
  rw[e,ih,ft (h c (by simp))];rfl
theorem Tgt.spelled{h:Hst}{p:Nat}(t:Tgt IA h p)(hk:h.1=1)(dot:Bool){L L':List Int}(hL:Wps h.2.1 L)(hL':L'=if dot=true then L++[46] else L):
  (∀ q r,AU IA (U.aj L'++58::F.wr 10 p) q r->r=(h,p)) /\
  (∀ path r,U.Bytes path->AB IA (32::(qF++58::([92,47]++((U.aj L'++58::F.wr 10 p)++47::path)))) r->r=(h,p)\/r=(non 4,0))/\(U.aj L').length<=3100:=by
 obtain⟨n,hn,hhp,hch,hcc,hnl,h91,hne⟩:=t.dotted hk dot
 have hW:Wps n L':=by
  rw[hn,hL'];cases dot with
  | false=>simpa using hL
  | true=>simpa using hL.snoc (c:=46) (g:=[46]) (.inl rfl)
 have hws:=hW.ws (fun c hc=>⟨(hcc c hc).1,(hcc c hc).2.2.2⟩);have hby:=hws.bytes;have hdn:E.de n=n:=H.bX _ _ (le_refl _) (fun c hc=>(hcc c hc).2.1);have hbn:U.Bytes (E.de n):=by rw[hdn];exact fun b hb=>by have:=hcc b hb;exact⟨by omega,by omega⟩
 have ha:I.bL (E.de n) (E.de (U.aj L')):=by rw[hdn];exact hW.alts (fun c hc=>⟨(hcc c hc).2.1,(hcc c hc).2.2.2⟩)
 have hlen:(U.aj L').length<=3100:=by have h1:=U.dQ L';have h2:=hW.len;omega
 have hx:HP IA (U.aj L') true (1,n,0,H.z8,0):=H.HP.spelled hbn ha (by omega) (by omega) h91 (fun e=>by
   have:=hby 91 (List.mem_of_head? e);omega) hhp
 obtain⟨hw1,hw2,hd⟩:=ju t.p0 t.p1
 have hTne:U.aj L'≠[]:=by
  intro e;rw[e]at ha;cases hn2:n with
  | nil=>exact hne hn2
  | cons c l =>
   rw[hdn,hn2]at ha;obtain⟨g,u,hg,_,he⟩:=ha
   have:g≠[]:=by
    rcases hg with rfl | ⟨_,rfl⟩ | ⟨_,rfl⟩
    ·simp
    ·simp
    ·intro e2;have:=(U.eA (c+65248)).1;rw[e2]at this;simp at this
   have h3:E.de ([]:List Int)=[]:=rfl;rw[h3]at he;exact this (List.append_eq_nil_iff.1 he.symm).1
 refine⟨fun q r x=>?_,fun path r hp x=>?_,hlen⟩
 ·exact AU.goes H.asc (fun b hb=>by have:=hby b hb;omega) (by omega) hx rfl hch t.c.e t.p0 t.p1 x
 ·by_cases hs:4096<(32::(qF++58::([92,47]++((U.aj L'++58::F.wr 10 p)++47::path)))).length
  ·right;obtain⟨u,e,x1,x2⟩:=x;unfold UP at x1;rw[if_pos hs]at x1;obtain⟨rfl,rfl⟩:=Prod.mk.inj x1;rw[if_pos (by decide)]at x2;exact x2
  ·left
   have hV:U.aj (L'++58::F.wr 10 p)=U.aj L'++58::F.wr 10 p:=by
    rw[Y.cW,jU (l:=58::F.wr 10 p) (fun c hc=>by
      rcases List.mem_cons.1 hc with rfl | hc
      · decide
      · have:=hd c hc;omega)]
   obtain⟨z,hz⟩:=xd (L:=L'++58::F.wr 10 p) (path:=path) (fun c hc=>by
     rcases List.mem_append.1 hc with hc | hc
     · exact⟨hws.ar c hc,by have:=hws c hc;omega⟩
     · rcases List.mem_cons.1 hc with rfl | hc
       · decide
       · have:=hd c hc
         exact⟨by unfold U.ar;simp;omega,by omega⟩) hp
   rw[hV]at hz;refine AB.goes H.asc (M:=qF) (q:=[92,47]) (T:=U.aj L') (R:=47::z) (by omega) (by rw[hz];simp) Iq (fun c hc=>by simp at hc;rcases hc with rfl | rfl <;> decide) (.inr ⟨z,rfl⟩) (fun b hb=>by have:=hby b hb;omega) hTne hx rfl hch t.c.e t.p0 t.p1 x
end Cn
namespace H
open F (bn aa)
theorem RL:∀ n:Fin 16,∀ h:n.val<(⟨#[48,49,50,51,52,53,54,55,56,57,97,98,99,100,101,102]⟩:ByteArray).size,E.hx (((⟨#[48,49,50,51,52,53,54,55,56,57,97,98,99,100,101,102]⟩:ByteArray)[n.val]'h).toNat:Int)=n.val:=by decide
theorem rM(w:World)(x:Int)(h0:0<=x)(h1:x<=255):∃ q:ByteArray,(convert 36 9 (.slice (some ⟨w.heap.size,0,none⟩) 1 1)).run prog (w.alloc (.cells #[.int .u8 x] 5))=.ok (.string q) (w.alloc (.cells #[.int .u8 x] 5))/\bn q=[x]/\q.size=1:=by
 have aq:(w.alloc (.cells #[.int .u8 x] 5)).ownsRow w.heap.size 5 1 (.slice (some ⟨w.heap.size,0,none⟩) 1 1) 1 ([x].map (Value.int .u8)) :=
  ⟨rfl,.inr ⟨w.heap.size,1,_,rfl,le_refl _,World.alloc_heap_new w _,le_refl _,by unfold maxLen;omega,rfl,rfl⟩⟩
 obtain⟨q,h,hq⟩:=U.bB _ w.heap.size _ 1 [x] rfl (fun b hb=>by simp at hb;omega) aq;exact⟨q,h,hq,by rw[<-aa,show bn q=[x] from hq];rfl⟩
theorem NX(w:World)(x y:Int)(h0:0<=x)(h1:x<=255)(g0:0<=y)(g1:y<=255):∃ q:ByteArray,(convert 36 9 (.slice (some ⟨w.heap.size,0,none⟩) 2 2)).run prog (w.alloc (.cells #[.int .u8 x,.int .u8 y] 5))=.ok (.string q) (w.alloc (.cells #[.int .u8 x,.int .u8 y] 5))/\bn q=[x,y]/\q.size=2:=by
 have aq:(w.alloc (.cells #[.int .u8 x,.int .u8 y] 5)).ownsRow w.heap.size 5 1 (.slice (some ⟨w.heap.size,0,none⟩) 2 2) 2 ([x,y].map (Value.int .u8)) :=
  ⟨rfl,.inr ⟨w.heap.size,2,_,rfl,le_refl _,World.alloc_heap_new w _,le_refl _,by unfold maxLen;omega,rfl,rfl⟩⟩
 obtain⟨q,h,hq⟩:=U.bB _ w.heap.size _ 2 [x,y] rfl (fun b hb=>by simp at hb;omega) aq;exact⟨q,h,hq,by rw[<-aa,show bn q=[x,y] from hq];rfl⟩
theorem QT{d:Int}(h:(Lit.int .u8 d).wf=true):0<=d/\d<=255:=by simp[Lit.wf,IntKind.min,IntKind.max,IntKind.bits,IntKind.signed]at h;omega
theorem ui{w:World}{a:Option Addr}{len cap:Nat}{zs:List Int}(h:U.IsRow .u8 w a len cap zs)(k:Nat)(hk:k<len):∃ b off d,a=some ⟨b,off,none⟩/\w.cell? ⟨b,off+k,none⟩=some (.int .u8 d)/\0<=d/\d<=255:=by
 rcases h with⟨_,rfl,_⟩ | ⟨x,rfl,hl,_,hz,hc,hw⟩
 ·omega
 ·obtain⟨b,off,rfl,hc'⟩:=ints_at hc (by omega);refine⟨b,off,zs.getD k 0,rfl,hc' k (by omega),QT (hw _ ?_)⟩;rw[List.getD_eq_getElem?_getD,getElem?_eq_getElem (by omega)];exact List.getElem_mem _
theorem jV{B:Nat}{a w:World}(h:Below B a w):Below B a w.drew:=h.trans ⟨rfl,rfl,rfl,le_refl _,fun _ _=>rfl⟩
theorem lt_of_cell{w:World}{p:Addr}{v:Value}(h:w.cell? p=some v):p.block<w.heap.size:=by
 unfold World.cell? at h;rcases Nat.lt_or_ge p.block w.heap.size with hb | hb
 ·exact hb
 ·rw[Array.getElem?_eq_none hb]at h;cases h
end H
namespace Cn
open F (bn aa aO bJ cM hid aw)
open H (Hst HP non IA rM NX RL ui jV lt_of_cell)
theorem JU:∀ k:Fin 123,97<=k.val->bn (Utf8.encode ((k.val:Int)+65248))=U.enc ((k.val:Int)+65248)/\(Utf8.encode ((k.val:Int)+65248)).size=3:=by decide +kernel
theorem RU(w:World)(y:Int)(h0:97<=y)(h1:y<=122):∃ q:ByteArray,(convert 37 9 (.slice (some ⟨w.heap.size,0,none⟩) 1 1)).run prog (w.alloc (.cells #[.int .i32 (y+65248)] 21))=.ok (.string q) (w.alloc (.cells #[.int .i32 (y+65248)] 21))/\bn q=U.enc (y+65248)/\q.size=3:=by
 have hl:=run_loadCells_list (P:=prog) (w.alloc (.cells #[.int .i32 (y+65248)] 21)) ⟨w.heap.size,0,none⟩ ([y+65248].map (Value.int .i32)) (fun j v hj=>U.ee w 21 _ j v hj);have hw:=JU ⟨y.toNat,by omega⟩ (by simp only;omega);simp only at hw;rw[Int.toNat_of_nonneg (by omega)]at hw;refine⟨ByteArray.empty++Utf8.encode (y+65248),?_,?_,?_⟩
 ·rw[run_convert_runes_string _ 37 9 21 _ _ _ underlying37 underlying21 underlying9];exact run_runesToString _ _ 1 1 [y+65248] hl
 ·rw[aO,hw.1];rfl
 ·rw[size_append,hw.2];rfl
def Sp3(nm:ByteArray)(L:List Int)(i:Nat)(T:ByteArray):Prop:=Wps ((bn nm).take i) L/\bn T=U.aj L
theorem Sp3.step{nm T q:ByteArray}{L g:List Int}{i:Nat}{y:Int}(h:Sp3 nm L i T)(hi:i<nm.size)(hy:(bn nm)[i]?.getD 0=y)(hg:Wp y g)(hq:bn q=U.aj g):Sp3 nm (L++g) (i+1) (T++q):=by
 have hl:i<(bn nm).length:=by rw[aa];exact hi
 refine⟨?_,by rw[aO,h.2,hq,Y.cW]⟩;rw[List.take_add_one,getElem?_eq_getElem hl];rw[getElem?_eq_getElem hl]at hy;have:(bn nm)[i]=y:=hy;rw[this];exact h.1.snoc hg
theorem wN{c:Int}:U.aj [c]=U.enc c:=by unfold U.aj;rw[flatMap_cons,flatMap_nil,append_nil]
theorem gv{c:Int}(h:c<128):U.aj [c]=[c]:=by rw[wN,ft h]
theorem Sv:∀ n:Fin 16,∀ h:n.val<(⟨#[48,49,50,51,52,53,54,55,56,57,97,98,99,100,101,102]⟩:ByteArray).size,(48<=(((⟨#[48,49,50,51,52,53,54,55,56,57,97,98,99,100,101,102]⟩:ByteArray)[n.val]'h).toNat:Int)/\(((⟨#[48,49,50,51,52,53,54,55,56,57,97,98,99,100,101,102]⟩:ByteArray)[n.val]'h).toNat:Int)<=57)\/(97<=(((⟨#[48,49,50,51,52,53,54,55,56,57,97,98,99,100,101,102]⟩:ByteArray)[n.val]'h).toNat:Int)/\(((⟨#[48,49,50,51,52,53,54,55,56,57,97,98,99,100,101,102]⟩:ByteArray)[n.val]'h).toNat:Int)<=102):=by decide
theorem ig(k:Nat)(hk:k<16):∃ hb:k<(⟨#[48,49,50,51,52,53,54,55,56,57,97,98,99,100,101,102]⟩:ByteArray).size,∃ x:Int,(((⟨#[48,49,50,51,52,53,54,55,56,57,97,98,99,100,101,102]⟩:ByteArray)[k]'hb).toNat:Int)=x/\Hid ((48<=x/\x<=57\/97<=x/\x<=102)/\E.hx x=(k:Int)):=⟨hk,_,rfl,Sv ⟨k,hk⟩ hk,RL ⟨k,hk⟩ hk⟩
structure Sp2(h:Hst)(p:Nat)(T:ByteArray):Prop where
 au:∀ r,AU IA (bn T++58::F.wr 10 p) 0 r->r=(h,p)
 ab:∀ path r,U.Bytes path->AB IA (32::(qF++58::([92,47]++((bn T++58::F.wr 10 p)++47::path)))) r->r=(h,p)\/r=(non 4,0)
theorem Tgt.sp2{h:Hst}{p:Nat}(t:Tgt IA h p)(hk:h.1=1){nm T:ByteArray}{L:List Int}(hn:bn nm=h.2.1)(x:Sp3 nm L nm.size T):Sp2 h p T/\Sp2 h p (T++⟨#[46]⟩):=by
 have hw:Wps h.2.1 L:=by have:=x.1;rw[List.take_of_length_le (by rw[aa];exact le_refl _),hn]at this;exact this
 have e:bn (T++⟨#[46]⟩)=U.aj (L++[46]):=by rw[aO,x.2,Y.cW,gv (by decide)];rfl
 have a:=t.spelled hk false hw rfl;have b:=t.spelled hk true hw rfl;simp only[Bool.false_eq_true,if_false,if_true]at a b;rw[<-x.2]at a;rw[<-e]at b;exact⟨⟨fun r y=>a.1 0 r y,a.2.1⟩,⟨fun r y=>b.1 0 r y,b.2.1⟩⟩
theorem Tgt.tail{h:Hst}{p:Nat}(t:Tgt IA h p)(hk:h.1=1){nm full:ByteArray}(hn:bn nm=h.2.1)(hf:bn full=ttx h p):nm.size<=253/\nm.size<=full.size/\full.size<=300/\bn (full.extract nm.size full.size)=58::F.wr 10 p:=by
 obtain⟨hh,_,_,_,ho,_⟩:=t.name hk;have hw:=(ju t.p0 t.p1).2.1;have hx:H.txt h=h.2.1:=by rw[hh];rfl
 have hl:h.2.1.length<=253:=by unfold okn at ho;simp only[and_eq_true,decide_eq_true_eq]at ho;exact ho.1
 have e:bn full=bn nm++58::F.wr 10 p:=by rw[hf,hn];unfold ttx;rw[hx]
 have l1:=congrArg List.length e;rw[length_append,length_cons,aa,aa]at l1;have l2:=congrArg List.length hn;rw[aa]at l2;refine⟨by omega,by omega,by omega,?_⟩;rw[aw,e,<-aa nm,List.drop_left]
theorem Gs{G:World->Prop}(C:Ctr IA G)(HWK:∀ W,G W->Calls prog 5 #[] W fun e W'=>e=.returned (.bool true)/\Below W.heap.size W W')
  (HA:∀(s:List Int) (h:Hst) (p:Nat),U.Bytes s->AB IA s (h,p)->h.2.2.2.2=0->Tgt IA h p)
  (s:ByteArray) (x:Option Addr) (len cap:Nat) (zs:List Int) (d:Bool) (path:ByteArray) (w:World) (hG:G w) (hs:s.size<=maxLen) (hr:U.IsRow .u8 w x len cap zs) (hpa:path.size<=maxLen) :
  Calls prog 4 #[.string s,.slice x len cap,.bool d,.string path] w fun e W'=>e=.returned (.bool true)/\Below w.heap.size w W':=by
 have hm:=U.KR hr;unfold maxLen at hs hm hpa;have HK:Hid (∀ W,Below w.heap.size w W->G W):=fun W h=>C.keep w W hG h
 have HW:Hid (∀ W,Below w.heap.size w W->Calls prog 5 #[] W fun e W'=>e=.returned (.bool true)/\Below w.heap.size w W'):=fun W h=>(HWK W (HK.out W h)).mono (by
   rintro e W' ⟨rfl,hB⟩
   exact⟨rfl,h.trans (hB.mono h.size)⟩)
 have HB:Hid (Below w.heap.size w w):=Below.refl _ _;by_cases hbig:600<s.size\/300<len\/300<path.size
 ·have hbz:(600:Int)<(s.size:Int)\/(¬ (600:Int)<(s.size:Int)/\(300:Int)<(len:Int))\/(¬ (600:Int)<(s.size:Int)/\¬ (300:Int)<(len:Int)/\(300:Int)<(path.size:Int)):=by omega
  clear C HA HWK hG hr hbig;rcases hbz with b1 | ⟨b1,b2⟩ | ⟨b1,b2,b3⟩
  all_goals
   go_enter func4,ntmps4;go_wp2_with(go_at_call 5;refine(HW.out _ HB.out).mono ?_;rintro e w2 ⟨rfl,B2⟩);go_ret;exact⟨rfl,B2⟩
 have b1:¬ (600:Int)<(s.size:Int):=by omega
 have b2:¬ (300:Int)<(len:Int):=by omega
 have b3:¬ (300:Int)<(path.size:Int):=by omega
 have HP1:=hid (C.ca s w (by omega) hG);have HC:=hid C;have HHA:=hid (HA (bn s));have HROW:=hid (fun k hk=>ui hr k hk);have hpl:path.size<=300:=by omega
 clear C HA HWK hG hr hbig;go_enter func4,ntmps4;go_wp2_with fail;refine HP1.out.mono ?_;rintro e v1 ⟨⟨a,h,p,hP,ha,hla,rfl⟩,B⟩;replace HB:=Bt' HB B;have X1:=hid (aK v1 zt 29);obtain⟨pk,pb⟩:=eM v1 zt (Tg.cs a) 29;have R1:=hid pk;replace HB:=Bt' HB pb;clear B pk pb HP1;by_cases he:h.2.2.2.2=0;rotate_left
 ·obtain⟨er,her⟩:=Ex' (h.2.2.2.2);rw[her]at he ⊢;have hee:(er==0)=false:=by simpa using he
  have hen:(er != 0)=true:=by simpa using he
  clear hP ha hla he her HROW;go_wp2_with(first | (refine wpList_store_row rfl 29 (.tmp 9) (.tmp 40) rfl v1.heap.size (Tg.cs a) rfl rfl 29 zt X1.out (aG a) rfl (cT a) ?_) | (go_at_call 5;refine(HW.out _ HB.out).mono ?_;rintro e w2 ⟨rfl,B2⟩));go_ret;exact⟨rfl,B2⟩
 have HTG:=hid (HHA.out _ _ (U.aL s) hP he);rw[he];have HE:=hid he;have HTV:=hid ha;have HLM:=hid hla;obtain⟨v2,hv2⟩:=Ex' ((v1.alloc (.cells zt 29)).setRow v1.heap.size (Tg.cs a));rw[hv2]at R1 HB;have C0:v2.cell? ⟨v1.heap.size,0,none⟩=some (.int .u8 (a.k:Nat)):=cell_of_row _ _ 0 _ _ _ R1.out;have C1:v2.cell? ⟨v1.heap.size,1,none⟩=some (.string a.nm):=cell_of_row _ _ 1 _ _ _ R1.out;have HAK:Hid (a.k=h.1):=ha.k;clear hP ha hla he HHA;by_cases hk1:a.k=1;rotate_left
 ·have hkb:(((a.k:Nat):Int) != 1)=true:=by simp;omega
  clear hk1 HROW;go_wp2_with(first | (refine wpList_store_row rfl 29 (.tmp 9) (.tmp 40) rfl v1.heap.size (Tg.cs a) rfl rfl 29 zt X1.out (aG a) rfl (cT a) ?_) | (go_at_call 5;refine(HW.out _ HB.out).mono ?_;rintro e w2 ⟨rfl,B2⟩));go_ret;exact⟨rfl,B2⟩
 have hkb:(((a.k:Nat):Int) != 1)=false:=by simp;omega
 have HK1:Hid (h.1=1):=by show _=_;rw[<-HAK.out];exact hk1
 clear hk1;obtain⟨nm,hnm⟩:=Ex' a.nm;have HNM:Hid (bn nm=h.2.1):=by show _=_;rw[<-hnm];exact HTV.out.n
 rw[hnm]at C1
 have HLW:Hid (∀ j,j<nm.size->(bn nm)[j]?.getD 0<128):=fun j hj=>by
  have hl:j<(bn nm).length:=by rw[aa];exact hj
  rw[getElem?_eq_getElem hl];have hc:=(HTG.out.name HK1.out).2.2.1 (bn nm)[j] (by rw[<-HNM.out];exact List.getElem_mem hl);show(bn nm)[j]<128;omega
 have hnl:nm.size<=400000000:=by rw[<-hnm];exact HLM.out.1
 have HGT:=hid (bJ nm);have HBY:=hid (fun j (h:j<nm.size)=>cM (s:=nm) h);clear hnm;go_wp2_with(refine wpList_store_row rfl 29 (.tmp 9) (.tmp 40) rfl v1.heap.size (Tg.cs a) rfl rfl 29 zt X1.out (aG a) rfl (cT a) ?_);clear X1 hv2 C0 hkb
 go_loopw [12,13] (fun vt vi wr=>∃(i:Nat) (T:ByteArray) (L:List Int),i<=nm.size/\vt=.string T/\vi=.int .i64 (i:Int)/\T.size<=3 * i/\Hid (Sp3 nm L i T)/\Hid (Below v2.heap.size v2 wr)) (fun _ vi _=>nm.size - (intOf vi).toNat)
 case atStart=>exact⟨0,⟨#[]⟩,[],zero_le _,rfl,rfl,le_refl _,⟨rfl,rfl⟩,Below.refl _ _⟩
 case round =>
  obtain⟨i,T,L,hi,rfl,rfl,hT,HGS,HBR⟩:=hrel;by_cases hlt:i<nm.size
  ·have hltz:(i:Int)<(nm.size:Int):=by omega
   have hg:=(HGT.out i hlt).symm;obtain⟨q0,q1⟩:=HBY.out i hlt;have HLOW:=hid (HLW.out i hlt);have HST:=hid (fun(q:ByteArray) (g:List Int) (y:Int)=>HGS.out.step (q:=q) (g:=g) (y:=y) hlt);obtain⟨y,hy⟩:=Ex' ((bn nm)[i]?.getD 0);rw[hy]at hg q0 q1 HLOW;have HADD:Hid (∀(q:ByteArray) (g:List Int),q.size<=3->Wp y g->bn q=U.aj g->(T++q).size<=3 * (i+1)/\Sp3 nm (L++g) (i+1) (T++q)):=fun q g h1 h2 h3=>⟨by rw[size_append];omega,HST.out q g y hy h2 h3⟩;have hlet:(¬ (97:Int)<=y)\/((97:Int)<=y/\y<=122)\/((97:Int)<=y/\¬ y<=122):=by omega
   have HBW:=hid (HB.out.trans (HBR.out.mono HB.out.size));clear hy HGS HST HTG HTV HLM HE HC HNM R1 HAK HK1 HGT HBY HLW HK HW;by_cases hil:i<len
   ·have hilz:(i:Int)<(len:Int):=by omega
    obtain⟨b,off,dd,rfl,hck0,hd0,hd1⟩:=HROW.out i hil;have hck:wr.cell? ⟨b,off+i,none⟩=some (.int .u8 dd):=(HBW.out.cell (p:=⟨b,off+i,none⟩) (lt_of_cell hck0)).trans hck0;obtain⟨pp,hp⟩:=Ex' (dd % 4:Int);have hpt:Int.tmod dd 4=pp:=by rw[Int.tmod_eq_emod_of_nonneg hd0];exact hp
    have hp0:0<=pp:=by omega
    have hp2:pp<=3:=by omega
    have hpw:IntKind.u8.wrap pp=pp:=by simp[IntKind.wrap,IntKind.bits,IntKind.signed];omega
    clear hp hck0 HROW;obtain rfl | rfl | rfl | rfl:pp=0\/pp=1\/pp=2\/pp=3:=by omega
    ·rcases hlet with l1 | ⟨l1,l2⟩ | ⟨l1,l2⟩
     all_goals
      obtain⟨q,hcv,hq1,hq2⟩:=rM wr y q0 q1;have HQ:=hid (HADD.out q [y] (by omega) (.inl rfl) (by rw[gv HLOW.out];exact hq1));have hqs:q.size<=3:=by omega
      clear hq1 hq2 HADD;go_wp2
      go_roundw
      case rel=>exact⟨i+1,T++q,_,by omega,rfl,by go_num,HQ.out.1,HQ.out.2,HBR.out.alloc HBR.out.size _⟩
      case measure=>simp[intOf];omega
    ·rcases hlet with l1 | ⟨l1,l2⟩ | ⟨l1,l2⟩
     rotate_left
     ·obtain⟨q,hcv,hq1,hq2⟩:=rM wr (y - 32) (by omega) (by omega);have HQ:=hid (HADD.out q [y - 32] (by omega) (.inr (.inl ⟨⟨l1,l2⟩,rfl⟩)) (by rw[gv (by omega)];exact hq1));have hqs:q.size<=3:=by omega
      have hxs:IntKind.u8.wrap (y - 32)=y - 32:=by simp[IntKind.wrap,IntKind.bits,IntKind.signed];omega
      clear hq1 hq2 HADD;go_wp2
      go_roundw
      case rel=>exact⟨i+1,T++q,_,by omega,rfl,by go_num,HQ.out.1,HQ.out.2,HBR.out.alloc HBR.out.size _⟩
      case measure=>simp[intOf];omega
     all_goals
      obtain⟨q,hcv,hq1,hq2⟩:=rM wr y q0 q1;have HQ:=hid (HADD.out q [y] (by omega) (.inl rfl) (by rw[gv HLOW.out];exact hq1));have hqs:q.size<=3:=by omega
      clear hq1 hq2 HADD;go_wp2
      go_roundw
      case rel=>exact⟨i+1,T++q,_,by omega,rfl,by go_num,HQ.out.1,HQ.out.2,HBR.out.alloc HBR.out.size _⟩
      case measure=>simp[intOf];omega
    ·rcases hlet with l1 | ⟨l1,l2⟩ | ⟨l1,l2⟩
     all_goals
      obtain⟨k1,hk1,hk1b⟩:∃ k1:Nat,y / 16=(k1:Int)/\k1<16:=⟨(y / 16).toNat,by omega,by omega⟩;obtain⟨k2,hk2,hk2b⟩:∃ k2:Nat,y % 16=(k2:Int)/\k2<16:=⟨(y % 16).toNat,by omega,by omega⟩;have hy16:16 * (k1:Int)+(k2:Int)=y:=by omega
      have t1:Int.tdiv y 16=(k1:Int):=by rw[Int.tdiv_eq_ediv_of_nonneg q0];exact hk1
      have t2:Int.tmod y 16=(k2:Int):=by rw[Int.tmod_eq_emod_of_nonneg q0];exact hk2
      have hw1:IntKind.u8.wrap (k1:Int)=(k1:Int):=by simp[IntKind.wrap,IntKind.bits,IntKind.signed];omega
      have hw2:IntKind.u8.wrap (k2:Int)=(k2:Int):=by simp[IntKind.wrap,IntKind.bits,IntKind.signed];omega
      obtain⟨hb1,x1,e1,HX1⟩:=ig k1 hk1b;obtain⟨hb2,x2,e2,HX2⟩:=ig k2 hk2b;obtain⟨q,hcv,hq1,hq2⟩:=NX wr.drew x1 x2 (by have:=HX1.out.1;omega) (by have:=HX1.out.1;omega) (by have:=HX2.out.1;omega) (by have:=HX2.out.1;omega)
      have HQ:=hid (HADD.out (⟨#[37]⟩++q) [37,x1,x2] (by rw[size_append,hq2];decide) (.inr (.inr (.inl ⟨x1,x2,rfl,HX1.out.1,HX2.out.1,by rw[HX1.out.2,HX2.out.2];exact hy16⟩))) (by
        rw[aO,hq1,jU (l:=[37,x1,x2]) (fun c hc=>by have a1:=HX1.out.1;have a2:=HX2.out.1;simp at hc;omega)];rfl))
      have hqs:q.size<=3:=by omega
      have hk1z:(k1:Int)<16:=by omega
      have hk2z:(k2:Int)<16:=by omega
      have hcv2:(convert 36 9 (.slice (some ⟨wr.heap.size,0,none⟩) 2 2)).run prog (wr.alloc (.cells #[.int .u8 x1,.int .u8 x2] 5)).drew=.ok (.string q) (wr.alloc (.cells #[.int .u8 x1,.int .u8 x2] 5)).drew:=hcv;clear hcv hq1 hq2 HADD HX1 HX2 hy16 hk1 hk2;go_wp2_with fail;refine E.eI 8 (by kernel_rfl) (by kernel_rfl) ?_;simp only[List.take_succ_cons,List.take_zero,List.drop_succ_cons,List.drop_zero];refine E.aF (.string T) rfl (fun W=>by go_simp) ?_;refine E.aF (.string (T++⟨#[37]⟩)) rfl (fun W=>by go_simp;omega) ?_;refine E.aF (.int .u8 y) rfl (fun W=>by go_simp) ?_;refine E.aF (.int .u8 (k1:Int)) rfl (fun W=>by go_simp) ?_;refine E.aF (.int .u8 x1) rfl (fun W=>by go_simp) ?_;refine E.aF (.int .u8 y) rfl (fun W=>by go_simp) ?_;refine E.aF (.int .u8 (k2:Int)) rfl (fun W=>by go_simp) ?_;refine E.aF (.int .u8 x2) rfl (fun W=>by go_simp) ?_;refine E.jC ?_;show wpList _ _ _ _ _ wr.drew;go_wp2;refine⟨rfl,?_⟩;go_wp2
      go_roundw
      case rel=>exact⟨i+1,T++⟨#[37]⟩++q,_,by omega,rfl,by go_num,by rw[ByteArray.append_assoc];exact HQ.out.1,by show Sp3 _ _ _ _;rw[ByteArray.append_assoc];exact HQ.out.2,(jV HBR.out).alloc (jV HBR.out).size _⟩
      case measure=>simp[intOf];omega
    ·rcases hlet with l1 | ⟨l1,l2⟩ | ⟨l1,l2⟩
     rotate_left
     ·obtain⟨q,hcv,hq1,hq2⟩:=RU wr y l1 l2;have HQ:=hid (HADD.out q [y+65248] (by omega) (.inr (.inr (.inr ⟨⟨l1,l2⟩,rfl⟩))) (by rw[wN];exact hq1));have hqs:q.size<=3:=by omega
      have hxs:IntKind.i32.wrap (y+65248)=y+65248:=by simp[IntKind.wrap,IntKind.bits,IntKind.signed];omega
      clear hq1 hq2 HADD;go_wp2
      go_roundw
      case rel=>exact⟨i+1,T++q,_,by omega,rfl,by go_num,HQ.out.1,HQ.out.2,HBR.out.alloc HBR.out.size _⟩
      case measure=>simp[intOf];omega
     all_goals
      obtain⟨q,hcv,hq1,hq2⟩:=rM wr y q0 q1;have HQ:=hid (HADD.out q [y] (by omega) (.inl rfl) (by rw[gv HLOW.out];exact hq1));have hqs:q.size<=3:=by omega
      clear hq1 hq2 HADD;go_wp2
      go_roundw
      case rel=>exact⟨i+1,T++q,_,by omega,rfl,by go_num,HQ.out.1,HQ.out.2,HBR.out.alloc HBR.out.size _⟩
      case measure=>simp[intOf];omega
   ·have hilz:¬ (i:Int)<(len:Int):=by omega
    clear HROW;rcases hlet with l1 | ⟨l1,l2⟩ | ⟨l1,l2⟩
    all_goals
     obtain⟨q,hcv,hq1,hq2⟩:=rM wr y q0 q1;have HQ:=hid (HADD.out q [y] (by omega) (.inl rfl) (by rw[gv HLOW.out];exact hq1));have hqs:q.size<=3:=by omega
     clear hq1 hq2 HADD;go_wp2
     go_roundw
     case rel=>exact⟨i+1,T++q,_,by omega,rfl,by go_num,HQ.out.1,HQ.out.2,HBR.out.alloc HBR.out.size _⟩
     case measure=>simp[intOf];omega
  ·have hltz:¬ (i:Int)<(nm.size:Int):=by omega
   obtain rfl:i=nm.size:=by omega
   have HS:=hid (HTG.out.sp2 HK1.out HNM.out HGS.out);have R2:=hid (kept R1.out HBR.out);have HBW:=hid (HB.out.trans (HBR.out.mono HB.out.size));have hnm3:=(HTG.out.name HK1.out).2.2.2.2.1;have hnl2:nm.size<=253:=by unfold okn at hnm3;simp only[and_eq_true,decide_eq_true_eq]at hnm3;rw[<-aa,HNM.out];exact hnm3.1
   clear HROW HGT HBY HLW HGS HBR R1 HB hnm3 hlt
   obtain⟨T2,HS2,hT2s,hD⟩:∃ T2,Hid (Sp2 h p T2)/\T2.size<=800/\(d=false/\Hid (T=T2)\/d=true/\Hid (T++⟨#[46]⟩=T2)):=by
    cases d
    ·exact⟨T,HS.out.1,by omega,.inl ⟨rfl,rfl⟩⟩
    ·exact⟨_,HS.out.2,by rw[size_append];show T.size+1<=_;omega,.inr ⟨rfl,rfl⟩⟩
   clear HS;rcases hD with⟨rfl,HTT⟩ | ⟨rfl,HTT⟩
   all_goals
    have HTX:=hid (HC.out.ct a h p wr HTV.out HLM.out (HK.out _ HBW.out));go_wp2_with(refine wpList_load_row rfl 29 (.tmp 9) rfl v1.heap.size rfl 29 (Tg.cs a) (0,0) _ R2.out underlying29 rfl (aG a) ?_);refine HTX.out.mono ?_;rintro e u1 ⟨⟨full,rfl,hfull⟩,B⟩;rw[HTT.out];clear HTT;replace R2:=hid (kept R2.out B);replace HBW:=Bt' HBW B;obtain⟨z1,z2,z3,z4⟩:=HTG.out.tail HK1.out HNM.out hfull;have HPB:=hid z4;obtain⟨P,hP⟩:=Ex' (full.extract nm.size full.size);have hPs:P.size<=300:=by rw[<-hP,ByteArray.size_extract];omega
    have HP:=hid hP;rw[hP]at HPB;have z2z:(nm.size:Int)<=(full.size:Int):=by omega
    have HAR:Hid (bn (⟨#[32,104,84,84,112,58,92,47]⟩++T2++P++⟨#[47]⟩++path)=32::(qF++58::([92,47]++((bn T2++58::F.wr 10 p)++47::bn path)))):=by show _=_;rw[aO,aO,aO,aO,HPB.out];show([32,104,84,84,112,58,92,47]++bn T2++58::F.wr 10 p++[47])++bn path=_;simp[qF]
    have HA2:=hid (HC.out.ca (⟨#[32,104,84,84,112,58,92,47]⟩++T2++P++⟨#[47]⟩++path) u1 (by
      rw[size_append,size_append,size_append,size_append]
      show 8+_+_+1+_<=_
      omega) (HK.out _ HBW.out))
    clear HTX B z4 hfull;go_wp2_with fail;refine HA2.out.mono ?_;rintro e u2 ⟨⟨b,g,pq,hPb,hvb,hlb,rfl⟩,B⟩;rw[HAR.out]at hPb;have hor:=HS2.out.ab _ _ (U.aL path) hPb;replace R2:=hid (kept R2.out B);replace HBW:=Bt' HBW B;have X3:=hid (aK u2 zt 29);obtain⟨pk,pb⟩:=eM u2 zt (Tg.cs b) 29;have R3:=hid pk;replace R2:=hid (kept R2.out pb);replace HBW:=Bt' HBW pb;have HA3:=hid (HC.out.cu (T2++P) 0 _ (by rw[size_append];omega) (by decide) (HK.out _ HBW.out));have HAQ:Hid (bn (T2++P)=bn T2++58::F.wr 10 p):=by show _=_;rw[aO,HPB.out]
    have HVB:=hid hvb
    have hg4:g.2.2.2.2=0/\Hid (b=a)\/g.2.2.2.2=4:=by
     rcases hor with e0 | e0
     ·obtain⟨e1,e2⟩:=Prod.mk.inj e0;exact .inl ⟨by rw[e1];exact HE.out,Tv.one (by rw[<-e1,<-e2];exact hvb) HTV.out⟩
     ·exact .inr (by rw[(Prod.mk.inj e0).1];rfl)
    obtain⟨er,her⟩:=Ex' (g.2.2.2.2);rw[her]at hg4 ⊢;have heq:=pQ a;clear HA2 HAR B pk pb hPb hvb hlb hor her HVB;rcases hg4 with⟨rfl,hba⟩ | rfl
    focus
     have hab:=hba.out.symm;clear hba;subst hab
    all_goals
     go_wp2_with(refine wpList_store_row rfl 29 (.tmp 19) (.tmp 140) rfl u2.heap.size (Tg.cs _) rfl rfl 29 zt X3.out (aG _) rfl (cT _) ?_);refine HA3.out.mono ?_;rintro e u3 ⟨⟨c,g3,p3,hPc,hvc,hlc,rfl⟩,B⟩;rw[HAQ.out]at hPc;obtain⟨e1,e2⟩:=Prod.mk.inj (HS2.out.au _ hPc);have e3:=e1.symm;have e4:=e2.symm;clear e1 e2 hPc;subst e3;subst e4;have e5:=(Tv.one hvc HTV.out).symm;subst e5;rw[HE.out];replace R2:=hid (kept R2.out B);replace R3:=hid (kept R3.out B);replace HBW:=Bt' HBW B;have X4:=hid (aK u3 zt 29);obtain⟨pk,pb⟩:=eM u3 zt (Tg.cs a) 29;have R4:=hid pk;replace R2:=hid (kept R2.out pb);replace R3:=hid (kept R3.out pb);replace HBW:=Bt' HBW pb;clear B pk pb HA3 HAQ hvc hlc;go_wp2_with(first | (refine wpList_store_row rfl 29 (.tmp 21) (.tmp 147) rfl u3.heap.size (Tg.cs a) rfl rfl 29 zt X4.out (aG _) rfl (cT _) ?_) | (refine aP (by rfl) ?_;refine wpList_load_row rfl 29 (.tmp 19) rfl u2.heap.size rfl 29 (Tg.cs _) (0,0) _ R3.out underlying29 rfl (aG _) ?_) | (refine aP (by rfl) ?_;refine wpList_load_row rfl 29 (.tmp 9) rfl v1.heap.size rfl 29 (Tg.cs a) (0,0) _ R2.out underlying29 rfl (aG _) ?_) | (refine aP (by rfl) ?_;refine wpList_load_row rfl 29 (.tmp 21) rfl u3.heap.size rfl 29 (Tg.cs a) (0,0) _ R4.out underlying29 rfl (aG _) ?_) | (go_at_call 5;refine(HW.out _ HBW.out).mono ?_;rintro e w2 ⟨rfl,B2⟩));go_ret;exact⟨rfl,B2⟩
open Y (GU)
theorem one_at(s:ByteArray)(x:Option Addr)(len cap:Nat)(zs:List Int)(d:Bool)(path:ByteArray)(w:World)(hG:GU w)(hs:s.size<=maxLen)(hr:U.IsRow .u8 w x len cap zs)(hp:path.size<=maxLen):Calls prog 4 #[.string s,.slice x len cap,.bool d,.string path] w fun e W'=>e=.returned (.bool true)/\Below w.heap.size w W' :=
 Gs ctr (fun W h=>works_at W h) (fun s h p hb x h0=>AB.tgt H.asc MT H.so hb x h0) s x len cap zs d path w hG hs hr hp
end Cn
end Go.Proofs.YtmkompnhefhngaaGreatDoor
