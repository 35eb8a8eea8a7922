/- Texts one behind the other: UT EA FP FQ XA XB XC XD VP VB. -/
import Derived.Test.YtkekkbciiohbkaaGreatDoorZ2
import Derived.Test.YtkekkbciiohbkaaGreatDoorZ3
import Derived.Test.YtkekkbciiohbkaaGreatDoorZ4
import Derived.Test.YtkekkbciiohbkaaGreatDoorProg
import Derived.WalkKit
import Derived.Laws.StructEq
import Derived.Lib.IndexBytes
set_option maxRecDepth 100000
set_option maxHeartbeats 16000000
set_option linter.unusedVariables false
set_option linter.unnecessarySimpa false
namespace Go.Proofs.YtkekkbciiohbkaaGreatDoor.U
open Go.RowKit
theorem back:∀(zs:List Int),zs.all az=true→dec (aL zs)=zs∧val (aL zs)=true
 | [],_=>⟨rfl,rfl⟩
 | c::t,h=>by
  rw[List.all_cons,Bool.and_eq_true]at h;have ih:=back t h.2;have e:aL (c::t)=enc c++aL t:=by simp[aL]
  have hx:=pv c h.1 (aL t);have hlen:=fX c;have hne:enc c++aL t≠[]:=fun hh=>by have:=congrArg List.length hh;rw[List.length_append,List.length_nil]at this;omega
  have hb:Bytes (enc c++aL t):=fun b hb=>(List.mem_append.1 hb).elim (dX c (by have:=h.1;unfold az at this;rw[decide_eq_true_eq]at this;omega) (by have:=h.1;unfold az at this;rw[decide_eq_true_eq]at this;omega) b) (i6 t (fun c hc=>by have:=List.all_eq_true.1 h.2 c hc;unfold az at this;rw[decide_eq_true_eq]at this;omega) b)
  have hd:(enc c++aL t).drop (enc c).length=aL t:=by simp
  rw[e,bg _ hne hb,jd _ hne hb,hx];simp only[hd,ih.1,ih.2];exact⟨trivial,rfl⟩
end Go.Proofs.YtkekkbciiohbkaaGreatDoor.U
namespace Go.Proofs.YtkekkbciiohbkaaGreatDoor.E
open Go.RowKit
theorem pL(k:Nat)(c:Int)(l:List Int):en k (c::l)=tok k c++en k l:=List.flatMap_cons
theorem BC(k:Nat)(c:Int):(tok k c).length≤12:=by
 have:=U.fX c;unfold tok;split
 ·rw[js];omega
 ·omega
theorem Al(k:Nat):∀ l:List Int,(en k l).length≤12 * l.length
 | []=>Nat.le_refl _
 | c::l=>by
  have h1:=BC k c;have h2:=Al k l;rw[pL,List.length_append,List.length_cons];omega
theorem gU{c:Int}{t:List Int}(h:c≠37):de (c::t)=c::de t:=rY (fun hh=>h hh.1)
theorem Gk:∀ k:Fin 7,inS 37 k.val=decide (k.val=6):=by decide
theorem dk:∀ {l:List Int},(∀ c∈l,c<128)→U.aL l=l
 | [],_=>rfl
 | c::l,h=>by
  have e:U.aL (c::l)=U.enc c++U.aL l:=List.flatMap_cons;rw[e,eM (h c (by simp)),dk (fun x hx=>h x (by simp[hx]))];rfl
theorem wQ{l:List Int}(h:∀ c∈l,U.az c=true):U.dec (U.aL l)=l:=(U.back l (List.all_eq_true.2 h)).1
theorem wW{l:List Int}(h:∀ c∈l,0≤c∧c<128):U.dec l=l:=by
 have e:=dk (l:=l) (fun c hc=>(h c hc).2)
 have s:∀ c∈l,U.az c=true:=fun c hc=>by
  have:=h c hc;unfold U.az;simp;omega
 have:=wQ s
 rwa [e]at this
theorem k5{k:Nat}:∀ {l:List Int},(∀ c∈l,c<128∧inS c k=false)→en k l=l
 | [],_=>rfl
 | c::l,h=>by
  have hc:=h c (by simp);rw[pL,k5 (fun x hx=>h x (by simp[hx]))];unfold tok;rw[hc.2,if_neg (by decide),eM hc.1];rfl
theorem Ak{k:Nat}(hk:k≤5){l:List Int}(h:∀ c∈l,U.az c=true):en k (U.dec (en k l))=en k l:=by
 have hs:=mP (k:=k) (by omega) h;rw[wW (fun c hc=>by have:=hs c hc;omega)]
 exact k5 (fun c hc=>by
   have:=hs c hc
   refine⟨by omega,?_⟩
   cases hi:inS c k with
   | false=>rfl
   | true =>
     have e:=this.2.2 hi
     rw[e]at hi
     have:=Gk ⟨k,by omega⟩
     simp only at this
     rw[this]at hi
     exact absurd (of_decide_eq_true hi) (by omega))
end Go.Proofs.YtkekkbciiohbkaaGreatDoor.E
namespace Go.Proofs.YtkekkbciiohbkaaGreatDoor.F
theorem mB{n:Nat}(h:n<16):hx (dg n)=n:=by unfold hx dg;(repeat' split) <;> omega
theorem lx{b:Nat}(h2:2≤b)(h16:b≤16):∀(f n:Nat),n<b ^ (f+1)→ok b (wrF b f n)=true∧vl b (wrF b f n)=n
 | 0,n,h=>by
  have hn:n<b:=by simpa using h
  have hm:n % b=n:=Nat.mod_eq_of_lt hn;have hd:=mB (n:=n) (by omega);rw[wrF,hm];refine⟨?_,?_⟩
  ·unfold ok bW;simp[hd];omega
  ·unfold vl;simp[hd]
 | f+1,n,h=>by
  rw[wrF];split
  ·rename_i hn
   have hd:=mB (n:=n) (by omega);refine⟨?_,?_⟩
   ·unfold ok bW;simp[hd];omega
   ·unfold vl;simp[hd]
  ·rename_i hn
   have hq:n / b<b ^ (f+1):=by
    rw[Nat.div_lt_iff_lt_mul (by omega)]
    rwa [Nat.pow_succ]at h
   obtain⟨i1,i2⟩:=lx h2 h16 f (n / b) hq;have hm:n % b<b:=Nat.mod_lt _ (by omega);have hd:=mB (n:=n % b) (by omega);refine⟨?_,?_⟩
   ·rw[eJ,i1];unfold bW;simp[hd];omega
   ·rw[cJ,i2,hd]
    have:=Nat.div_add_mod n b;simp only[Int.toNat_natCast];rw[Nat.mul_comm];exact this
theorem cY{b n:Nat}(h2:2≤b)(h16:b≤16)(hn:n<2 ^ 64):ok b (wr b n)=true∧vl b (wr b n)=n:=lx h2 h16 64 n (Nat.lt_of_lt_of_le hn (jn h2))
theorem ly(b f n:Nat):wrF b f n≠[]:=by
 cases f with
 | zero=>simp[wrF]
 | succ f=>rw[wrF];split <;> simp
theorem lu(b n:Nat):wr b n≠[]:=ly b 64 n
theorem fh{b:Nat}(h2:2≤b)(h16:b≤16):∀(f n:Nat),n<b ^ (f+1)→0<n→(wrF b f n)[0]?.getD 0≠48
 | 0,n,h,h0=>by
  have hn:n<b:=by simpa using h
  rw[wrF,Nat.mod_eq_of_lt hn];simp;unfold dg;split <;> omega
 | f+1,n,h,h0=>by
  rw[wrF];split
  ·simp
   unfold dg;split <;> omega
  ·rename_i hn
   have hq:n / b<b ^ (f+1):=by
    rw[Nat.div_lt_iff_lt_mul (by omega)]
    rwa [Nat.pow_succ]at h
   have hp:0<n / b:=Nat.div_pos (by omega) (by omega);have ih:=fh h2 h16 f (n / b) hq hp;have hl:0<(wrF b f (n / b)).length:=List.length_pos_iff.2 (ly b f _)
   rwa [List.getElem?_append_left hl]
theorem oN{b:Nat}(h:0<b):wr b 0=[48]:=by
 unfold wr;rw[wrF,if_pos h];rfl
theorem iU{l:List Int}{b:Nat}{r:List Int}{n:Nat}(hl:l≠[])(hb:base l=b)(hr:rest l=r)(hok:ok b r=true)(hv:vl b r=n):num l=if 4294967296≤n then (0,4) else (n,0):=by
 unfold num;rw[if_neg hl,hb,hr,hok,if_neg (by simp),hv]
theorem zh{r:List Int}{n:Nat}(hok:ok 16 r=true)(hv:vl 16 r=n):num (48::120::r)=if 4294967296≤n then (0,4) else (n,0):=by
 have hx:isX (48::120::r)=true:=by unfold isX;simp
 exact iU (by simp) (by unfold base;rw[if_pos hx]) (by unfold rest;rw[if_pos hx];rfl) hok hv
theorem tb{b:Nat}{r:List Int}(hr:r≠[])(hok:ok b r=true):¬ (r[0]?.getD 0=120∨r[0]?.getD 0=88):=by
 cases r with
 | nil=>exact absurd rfl hr
 | cons c r =>
  unfold ok at hok
  rw[List.all_cons,Bool.and_eq_true]at hok;have:=of_decide_eq_true hok.1;intro h
  simp at h
  rcases h with rfl | rfl
  ·exact absurd this.1 (by decide)
  ·exact absurd this.1 (by decide)
theorem zk{r:List Int}{n:Nat}(hr:r≠[])(hok:ok 8 r=true)(hv:vl 8 r=n):num (48::r)=if 4294967296≤n then (0,4) else (n,0):=by
 have hg:=tb hr hok;have hl:0<r.length:=List.length_pos_iff.2 hr
 have hx:isX (48::r)=false:=by
  unfold isX;refine decide_eq_false (fun h=>hg ?_);have:=h.2.2
  simpa using this
 have ho:isO (48::r)=true:=by unfold isO;simp;omega
 exact iU (by simp) (by unfold base;rw[hx,if_neg (by simp),if_pos ho]) (by unfold rest;rw[hx,if_neg (by simp),if_pos ho];rfl) hok hv
theorem zi{r:List Int}{n:Nat}(hr:r≠[])(h0:r.length=1∨r[0]?.getD 0≠48)(hok:ok 10 r=true)(hv:vl 10 r=n):num r=if 4294967296≤n then (0,4) else (n,0):=by
 have ho:isO r=false:=by
  unfold isO;refine decide_eq_false (fun h=>?_);rcases h0 with h1 | h1
  ·omega
  ·exact h1 h.2
 have hx:isX r=false:=by
  unfold isX;unfold isO at ho
  have:=of_decide_eq_false ho;exact decide_eq_false (fun h=>this ⟨h.1,h.2.1⟩)
 exact iU hr (by unfold base;rw[hx,ho];rfl) (by unfold rest;rw[hx,ho];rfl) hok hv
theorem jv{k n:Nat}(hn:n<2 ^ 64):num (wrt k n)=if 4294967296≤n then (0,4) else (n,0):=by
 unfold wrt;split
 ·obtain⟨h1,h2⟩:=cY (b:=16) (by decide) (by decide) hn
  exact zh h1 h2
 ·split
  ·obtain⟨h1,h2⟩:=cY (b:=8) (by decide) (by decide) hn
   exact zk (lu 8 n) h1 h2
  ·obtain⟨h1,h2⟩:=cY (b:=10) (by decide) (by decide) hn
   refine zi (lu 10 n) ?_ h1 h2;by_cases h0:n=0
   ·left;rw[h0,oN (by decide)];rfl
   ·right;exact fh (by decide) (by decide) 64 n (Nat.lt_of_lt_of_le hn (jn (by decide))) (by omega)
theorem dA:∀(ps:List (List Int)),ps≠[]→(∀ p∈ps,¬ 46∈p)→spl (join ps)=ps
 | [],h,_=>absurd rfl h
 | [p],_,h=>cS p (h p (by simp))
 | p::q::r,_,h=>by
  rw[join,ck p _ (h p (by simp)),dA (q::r) (by simp) (fun x hx=>h x (by simp at hx ⊢;right;exact hx))]
theorem cT:∀(ps:List (List Int)),ps≠[]→(∀ p∈ps,¬ 46∈p)→spl (join ps++[46])=ps++[[]]
 | [],h,_=>absurd rfl h
 | [p],_,h=>by
  show spl (p++46::[])=_
  rw[ck p _ (h p (by simp))];rfl
 | p::q::r,_,h=>by
  rw[join,List.append_assoc];show spl (p++46::(join (q::r)++[46]))=_
  rw[ck p _ (h p (by simp)),cT (q::r) (by simp) (fun x hx=>h x (by simp at hx ⊢;right;exact hx))];rfl
theorem gC{ps:List (List Int)}(hne:ps≠[])(hd:∀ p∈ps,¬ 46∈p)(hl:ps.getLast? ≠ some []):prt (join ps)=ps:=by
 unfold prt;rw[dA ps hne hd,if_neg (fun h=>hl h.2)]
theorem ph{ps:List (List Int)}(hne:ps≠[])(hd:∀ p∈ps,¬ 46∈p):prt (join ps++[46])=ps:=by
 have hl:0<ps.length:=List.length_pos_iff.2 hne;unfold prt;rw[cT ps hne hd,if_pos ⟨by simp;omega,by simp⟩];simp
theorem mH{b:Nat}{c:Int}(hb:b≤10)(h:bW b c=true):ten c=true:=by
 have:=of_decide_eq_true h;unfold ten;refine decide_eq_true ?_;unfold hx at this
 split at this
 ·assumption
 ·split at this
  ·omega
  ·split at this <;> omega
theorem mI{b:Nat}{c:Int}(h:bW b c=true):c≠46:=fun e=>by
 rw[e]at h;have:=of_decide_eq_true h;exact absurd this.1 (by decide)
theorem iT{b:Nat}{l:List Int}(h:ok b l=true):¬ 46∈l:=fun hm=>mI (List.all_eq_true.1 h 46 hm) rfl
theorem oK{k n:Nat}(hn:n<2 ^ 64):¬ 46∈wrt k n:=by
 unfold wrt;split
 ·have:=iT (cY (b:=16) (by decide) (by decide) hn).1
  simp[this]
 ·split
  ·have:=iT (cY (b:=8) (by decide) (by decide) hn).1
   simp[this]
  ·exact iT (cY (b:=10) (by decide) (by decide) hn).1
theorem lq(k n:Nat):wrt k n≠[]:=by
 unfold wrt;split
 ·simp
 ·split
  ·simp
  ·exact lu 10 n
theorem iB{b:Nat}{l:List Int}(hb:b≤10)(h:ok b l=true):l.all ten=true:=List.all_eq_true.2 (fun c hc=>mH hb (List.all_eq_true.1 h c hc))
theorem pK{k n:Nat}(hn:n<2 ^ 64):jE (wrt k n)=true:=by
 unfold jE;by_cases h0:k=0
 ·have hx:isX (wrt k n)=true:=by unfold wrt isX;rw[if_pos h0];simp
  have he:(num (wrt k n)).2≠8:=by rw[jv hn];split <;> simp
  rw[hx,decide_eq_true he];simp
 ·have:(wrt k n).all ten=true:=by
   unfold wrt;rw[if_neg h0];split
   ·rw[List.all_cons,iB (b:=8) (by decide) (cY (by decide) (by decide) hn).1];rfl
   ·exact iB (b:=10) (by decide) (cY (by decide) (by decide) hn).1
  rw[this,decide_eq_true (lq k n)];rfl
def cC(vs:List (Nat×Nat)):List (Nat×Int):=vs.map fun v=>if 4294967296≤v.2 then (0,4) else (v.2,0)
theorem ln{vs:List (Nat×Nat)}(h:∀ v∈vs,v.2<2 ^ 64):(cE vs).map num=cC vs:=by
 unfold cE cC;rw[List.map_map];apply List.map_congr_left;intro v hv
 exact jv (h v hv)
theorem jU(vs:List (Nat×Nat)):(cC vs).any (fun x=>decide (x.2=8))=false:=by
 rw[List.any_eq_false];intro x hx
 obtain⟨v,_,rfl⟩:=List.mem_map.1 hx;split <;> simp
theorem gZ{vs:List (Nat×Nat)}(h4:vs.length≤4)(h:∀ v∈vs,v.2<2 ^ 64):adr (cE vs)=if lg vs.length (cC vs)=true then (0,4) else (sm 0 (cC vs),0):=by
 unfold adr;have hl:(cE vs).length=vs.length:=by unfold cE;simp
 rw[hl,if_neg (by omega),ln h,jU,if_neg (by simp)]
theorem ea{vs:List (Nat×Nat)}(h:∀ v∈vs,v.2<2 ^ 64):∀ p∈cE vs,¬ 46∈p:=by
 intro p hp
 obtain⟨v,hv,rfl⟩:=List.mem_map.1 hp;exact oK (h v hv)
theorem fg{vs:List (Nat×Nat)}:(cE vs).getLast? ≠ some []:=by
 intro e
 obtain⟨v,_,hv⟩:=List.mem_map.1 (List.mem_of_getLast? e);exact lq _ _ hv
theorem l6{vs:List (Nat×Nat)}(hne:vs≠[])(h4:vs.length≤4)(h:∀ v∈vs,v.2<2 ^ 64):prs (join (cE vs))=(if lg vs.length (cC vs)=true then (0,4) else (sm 0 (cC vs),0))∧prs (join (cE vs)++[46])=(if lg vs.length (cC vs)=true then (0,4) else (sm 0 (cC vs),0)):=by
 have hw:cE vs≠[]:=by unfold cE;simpa using hne
 unfold prs;rw[gC hw (ea h) fg,ph hw (ea h)];exact⟨gZ h4 h,gZ h4 h⟩
theorem fx{vs:List (Nat×Nat)}(hne:vs≠[])(h:∀ v∈vs,v.2<2 ^ 64):ends (join (cE vs))=true:=by
 have hw:cE vs≠[]:=by unfold cE;simpa using hne
 unfold ends;rw[gC hw (ea h) fg];cases hl:(cE vs).getLast? with
 | none=>exact absurd (List.getLast?_eq_none_iff.1 hl) hw
 | some p =>
  obtain⟨v,hv,rfl⟩:=List.mem_map.1 (List.mem_of_getLast? hl);exact pK (h v hv)
theorem pQ{a n:Nat}(ha:a<4294967296)(h1:1≤n)(h4:n≤4){ks:List Nat}(hk:ks.length=n):lg n (cC (ks.zip (cut a n)))=false∧sm 0 (cC (ks.zip (cut a n)))=a:=by
 have g:∀ x:Nat,x<4294967296→(if 4294967296≤x then ((0:Nat),(4:Int)) else (x,0))=(x,0):=fun x hx=>if_neg (by omega)
 obtain rfl | rfl | rfl | rfl:n=1∨n=2∨n=3∨n=4:=by omega
 ·match ks,hk with
  | [k1],_ =>
   simp only[cut,List.zip_cons_cons,List.zip_nil_right,cC,List.map_cons,List.map_nil,g a ha];exact⟨by simp[lg];omega,rfl⟩
 ·match ks,hk with
  | [k1,k2],_ =>
   simp only[cut,List.zip_cons_cons,List.zip_nil_right,cC,List.map_cons,List.map_nil,g (a / 16777216) (by omega),g (a % 16777216) (by omega)];exact⟨by simp[lg];omega,by simp[sm];omega⟩
 ·match ks,hk with
  | [k1,k2,k3],_ =>
   simp only[cut,List.zip_cons_cons,List.zip_nil_right,cC,List.map_cons,List.map_nil,g (a / 16777216) (by omega),g (a / 65536 % 256) (by omega),g (a % 65536) (by omega)];exact⟨by simp[lg];omega,by simp[sm];omega⟩
 ·match ks,hk with
  | [k1,k2,k3,k4],_ =>
   simp only[cut,List.zip_cons_cons,List.zip_nil_right,cC,List.map_cons,List.map_nil,g (a / 16777216) (by omega),g (a / 65536 % 256) (by omega),g (a / 256 % 256) (by omega),g (a % 256) (by omega)];exact⟨by simp[lg];omega,by simp[sm];omega⟩
end Go.Proofs.YtkekkbciiohbkaaGreatDoor.F
namespace Go.Proofs.YtkekkbciiohbkaaGreatDoor.X
open Go.Proofs.YtkekkbciiohbkaaGreatDoor.F (hx bw vl)
theorem tV(b:Int):∀(ps:List (List Int)),ps≠[]→(∀ p∈ps,¬ b∈p)→spB b (aD b ps)=ps
 | [],h,_=>absurd rfl h
 | [p],_,h=>ei b p (h p (by simp))
 | p::q::r,_,h=>by
  rw[aD,jk b p _ (h p (by simp)),tV b (q::r) (by simp) (fun x hx=>h x (by simp at hx ⊢;right;exact hx))]
theorem fp:∀(ps:List (List Int)),ps≠[]→(∀ p∈ps,Txt p)→aD 58 ps≠[]∧(aD 58 ps).getLast? ≠ some 58∧(aD 58 ps).head? ≠ some 58∧cc (aD 58 ps)=0
 | [],h,_=>absurd rfl h
 | [p],_,h=>by
  have hp:=h p (by simp);exact⟨hp.1,kV hp,head_ne hp,iy p hp.2⟩
 | p::q::r,_,h=>by
  have hp:=h p (by simp);obtain⟨i1,i2,i3,i4⟩:=fp (q::r) (by simp) (fun x hx=>h x (by simp at hx ⊢;right;exact hx));rw[aD];refine⟨by simp,?_,?_,?_⟩
  ·obtain⟨z,hz⟩:∃ z,aD 58 (q::r)=z:=⟨_,rfl⟩
   rw[hz]at i1 i2 ⊢;cases z with
   | nil=>exact absurd rfl i1
   | cons c t=>simpa using i2
  ·cases p with
   | nil=>exact absurd rfl hp.1
   | cons c t =>
    have:=head_ne hp
    simpa using this
  ·rw[dr,iy p hp.2]
   have e:(58::aD 58 (q::r))=[58]++aD 58 (q::r):=rfl;rw[e,dr,i4];have e1:cc [58]=0:=rfl;rw[e1,if_neg (fun hh=>i3 hh.2),if_neg (fun hh=>kV hp hh.1)]
theorem gD{last:Bool}{ps:List (List Int)}(h:∀ p∈ps,Txt p):pieces last (aD 58 ps)=pcs last ps:=by
 cases hps:ps with
 | nil=>rfl
 | cons p r =>
  rw[←hps];have hne:ps≠[]:=by rw[hps];simp
  unfold pieces;rw[if_neg (fp ps hne h).1,tV 58 ps hne (fun p hp=>(h p hp).2)]
theorem Cj{ps:List (List Int)}(h:∀ p∈ps,Txt p):prs (aD 58 ps)=full (pcs true ps):=by
 have hc:cc (aD 58 ps)=0:=by
  cases hps:ps with
  | nil=>rfl
  | cons p r=>rw[←hps];exact(fp ps (by rw[hps];simp) h).2.2.2
 unfold prs;rw[if_pos hc,gD h]
theorem Ck{fs bs:List (List Int)}(hf:∀ p∈fs,Txt p)(hb:∀ p∈bs,Txt p):prs (aD 58 fs++58::58::aD 58 bs)=both (pcs false fs) (pcs true bs):=by
 have f0:cc (aD 58 fs)=0∧(aD 58 fs).getLast? ≠ some 58:=by
  cases hps:fs with
  | nil=>exact⟨rfl,by simp[aD]⟩
  | cons p r=>rw[←hps];have:=fp fs (by rw[hps];simp) hf;exact⟨this.2.2.2,this.2.1⟩
 have b0:cc (aD 58 bs)=0∧(aD 58 bs).head? ≠ some 58:=by
  cases hps:bs with
  | nil=>exact⟨rfl,by simp[aD]⟩
  | cons p r=>rw[←hps];have:=fp bs (by rw[hps];simp) hb;exact⟨this.2.2.2,this.2.2.1⟩
 have c1:cc (aD 58 fs++[58])=0:=by
  rw[dr,f0.1,if_neg (fun hh=>f0.2 hh.1)];rfl
 have c2:cc (aD 58 fs++58::58::aD 58 bs)=1:=by
  have e:aD 58 fs++58::58::aD 58 bs=(aD 58 fs++[58])++([58]++aD 58 bs):=by simp
  rw[e,dr,c1,dr,b0.1,if_neg (fun hh=>b0.2 hh.2),if_pos ⟨by simp,by simp⟩];rfl
 have p1:=rZ (aD 58 fs) (aD 58 bs) c1;unfold prs;rw[c2,if_neg (by decide),if_pos rfl,p1];have t1:(aD 58 fs++58::58::aD 58 bs).take (aD 58 fs).length=aD 58 fs:=List.take_left
 have t2:(aD 58 fs++58::58::aD 58 bs).drop ((aD 58 fs).length+2)=aD 58 bs:=by
  rw[←List.drop_drop,List.drop_left];rfl
 rw[t1,t2,gD hf,gD hb]
theorem zW{cap nts:Bool}{n:Nat}(h:n<65536):dt (aS cap nts n)=none:=by
 unfold dt;rw[ei 46 _ (fun hm=>by have:=mF h hm;omega)];show kF [dn (aS cap nts n)]=none
 cases dn (aS cap nts n) <;> rfl
theorem CQ{last cap nts:Bool}{n:Nat}(h:n<65536):lst last (aS cap nts n)=some [n]:=by
 unfold lst;rw[zW h,kX h];cases last <;> rfl
theorem kT{last cap nts:Bool}:∀(vs:List Nat),(∀ v∈vs,v<65536)→pcs last (vs.map (aS cap nts))=some vs
 | [],_=>rfl
 | [v],h=>CQ (h v (by simp))
 | v::u::r,h=>by
  have ih:=kT (last:=last) (cap:=cap) (nts:=nts) (u::r) (fun x hx=>h x (by simp at hx ⊢;right;exact hx));show put (pc (aS cap nts v)) (pcs last ((u::r).map (aS cap nts)))=_
  rw[ih,kX (h v (by simp))];rfl
theorem pz{cap nts:Bool}{a:List Nat}(h:Small a):∀ p∈a.map (aS cap nts),Txt p:=fun p hp=>by
 obtain⟨v,hv,rfl⟩:=List.mem_map.1 hp;exact mE (h v hv)
theorem yu{cap nts:Bool}{a:List Nat}(h:Small a):prs (aD 58 (a.map (aS cap nts)))=if a.length=8 then some a else none:=by
 rw[Cj (pz h),kT a h];rfl
theorem yv{cap nts:Bool}{f b:List Nat}(hf:Small f)(hb:Small b):prs (aD 58 (f.map (aS cap nts))++58::58::aD 58 (b.map (aS cap nts)))=if f.length+b.length≤7 then some (f++List.replicate (8 - b.length - f.length) 0++b) else none:=by
 rw[Ck (pz hf) (pz hb),kT f hf,kT b hb];rfl
theorem xv{a:List Nat}{i k:Nat}(hl:a.length=8)(hik:i≤k)(hk:k≤8)(hz:∀ j,i≤j→j<k→a[j]?.getD 1=0):a.take i++List.replicate (k - i) 0++a.drop k=a:=by
 apply List.ext_getElem?;intro j
 by_cases h1:j<i
 ·rw[List.append_assoc,List.getElem?_append_left (by simp;omega),List.getElem?_take,if_pos h1]
 ·by_cases h2:j<k
  ·rw[List.append_assoc,List.getElem?_append_right (by simp;omega),List.getElem?_append_left (by simp;omega)]
   have h3:j<a.length:=by omega
   have:=hz j (by omega) h2;rw[List.getElem?_eq_getElem h3]at this ⊢;simp at this
   rw[this,List.getElem?_replicate,if_pos (by simp;omega)]
  ·rw[List.getElem?_append_right (by simp;omega),List.getElem?_drop]
   congr 1
   simp;omega
theorem Ci{a:List Nat}(hl:a.length=8)(hs:Small a):prs (txt a)=some a:=by
 rcases oO hl with⟨_,h,_⟩ | ⟨p,m,_,_,h2,h8,hz,h⟩
 ·rw[h,yu hs,if_pos hl]
 ·rw[h,yv (hs.take p) (hs.drop (p+m))]
  rw[List.length_take,List.length_drop,if_pos (by omega)];have:=xv (a:=a) (i:=p) (k:=p+m) hl (by omega) h8 (fun j h3 h4=>hz j h3 h4);rw[show 8 - (a.length - (p+m)) - min p a.length=p+m - p by omega,this]
end Go.Proofs.YtkekkbciiohbkaaGreatDoor.X
namespace Go.Proofs.YtkekkbciiohbkaaGreatDoor.H
open Go.RowKit
theorem mT:∀(n:Nat) (l:List Int),l.length≤n→(∀ c∈l,c≠37)→E.de l=l
 | 0,[],_,_=>rfl
 | n+1,[],_,_=>rfl
 | n+1,c::l,h,hc=>by
  rw[E.gU (hc c (by simp)),mT n l (by simpa using h) (fun x hx=>hc x (by simp[hx]))]
theorem Ae{c:Int}(h:fd c=false):fb c=false∧32≤c∧c≠37∧c≠127:=by
 unfold fd at h
 simp only[Bool.or_eq_false_iff,decide_eq_false_iff_not]at h;exact⟨h.1,by omega,h.2.2.1,h.2.2.2⟩
theorem kg{p:Int→Bool}{l:List Int}(h:¬ l.any p=true):∀ c∈l,p c=false:=by
 intro c hc
 rw[Bool.not_eq_true,List.any_eq_false]at h
 simpa using h c hc
theorem xW:∀ n:Fin 128,(48≤n.val∧n.val≤57∨n.val=46)→fd (n.val:Int)=false∧fb (n.val:Int)=false:=by decide
theorem sD{c:Int}(h:48≤c∧c≤57∨c=46):fd c=false∧fb c=false:=by
 obtain⟨k,rfl⟩:∃ k:Nat,c=k:=⟨c.toNat,by omega⟩;exact xW ⟨k,by omega⟩ (by simp only;omega)
theorem rr:∀(ls:List (List Int)) (c:Int),c∈F.join ls→c=46∨∃ l∈ls,c∈l
 | [],c,h=>by simp[F.join]at h
 | [a],c,h=>.inr ⟨a,by simp,by simpa[F.join]using h⟩
 | a::b::l,c,h=>by
  rw[F.join,List.mem_append,List.mem_cons]at h;rcases h with h | rfl | h
  ·exact .inr ⟨a,by simp,h⟩
  ·exact .inl rfl
  ·rcases rr (b::l) c h with rfl | ⟨x,hx,hc⟩
   ·exact .inl rfl
   ·exact .inr ⟨x,by simp at hx ⊢;exact .inr hx,hc⟩
theorem fE{a:Nat}(ha:a<4294967296):∀ v∈F.jh (F.cut a 4),v.2<2 ^ 64:=by
 intro v hv
 unfold F.jh F.cut at hv
 simp at hv
 rcases hv with rfl | rfl | rfl | rfl <;> simp only <;> omega
theorem xI{a:Nat}(ha:a<4294967296):∀ c∈F.txt a,48≤c∧c≤57∨c=46:=by
 intro c hc
 rcases rr _ c hc with rfl | ⟨l,hl,hcl⟩
 ·exact .inr rfl
 ·left
  unfold F.cE at hl
  obtain⟨v,hv,rfl⟩:=List.mem_map.1 hl
  have h2:v.1=2:=by
   unfold F.jh at hv
   obtain⟨n,_,rfl⟩:=List.mem_map.1 hv;rfl
  have hw:F.wrt v.1 v.2=F.wr 10 v.2:=by unfold F.wrt;rw[h2];rfl
  rw[hw]at hcl;have h3:=F.iB (b:=10) (by decide) (F.cY (b:=10) (by decide) (by decide) (fE ha v hv)).1;exact of_decide_eq_true (List.all_eq_true.1 h3 c hcl)
theorem jV{a:Nat}(ha:a<4294967296):F.prs (F.txt a)=(a,0)∧F.ends (F.txt a)=true∧F.txt a≠[]:=by
 have hv:=fE ha;have hne:F.jh (F.cut a 4)≠[]:=by unfold F.jh F.cut;simp
 have hz:F.jh (F.cut a 4)=[2,2,2,2].zip (F.cut a 4):=rfl;have hc:=F.pQ ha (n:=4) (by decide) (by decide) (ks:=[2,2,2,2]) rfl;refine⟨?_,F.fx hne hv,?_⟩
 ·have h:=(F.l6 hne (show 4≤4 from Nat.le_refl _) hv).1
  unfold F.txt;rw[h];have hl:(F.jh (F.cut a 4)).length=4:=rfl;rw[hl,hz,hc.1,hc.2];rfl
 ·intro e
  have h:=F.fx hne hv;unfold F.txt at e
  rw[e]at h;exact absurd h (by decide)
theorem uD:∀(n:Nat) (l:List Int),l.length≤n→U.Bytes l→∀ c∈U.dec l,c<128→c∈l
 | 0,[],_,_,c,h,_=>by simp[U.ix]at h
 | n+1,[],_,_,c,h,_=>by simp[U.ix]at h
 | n+1,a::l,hn,hl,c,h,hc=>by
  rw[U.bg (a::l) (by simp) hl]at h;rcases List.mem_cons.1 h with rfl | h
  ·rcases U.mh (a::l) (by simp) hl with⟨a',t,e,h0,h1,e2⟩ | ⟨a',b,t,e,h1,h2,h3,h4,e2⟩ | ⟨a',b,d,t,e,h1,h2,h3,h4,h5,h6,e2⟩ | ⟨a',b,d,f,t,e,h1,h2,h3,h4,h5,h6,h7,h8,e2⟩ | ⟨m,_,_,e2⟩
   ·rw[e2];cases e;simp
   ·rw[e2]at hc;simp only at hc;omega
   ·rw[e2]at hc;simp only at hc
    have hlo:a'=224→160≤b:=fun h=>by unfold U.aP at h3;rw[h]at h3;simpa using h3
    have hl2:128≤b:=by unfold U.aP at h3;(repeat' split at h3) <;> omega
    by_cases h224:a'=224
    ·have:=hlo h224;omega
    ·omega
   ·rw[e2]at hc;simp only at hc
    have hlo:a'=240→144≤b:=fun h=>by unfold U.aP at h3;rw[h]at h3;simpa using h3
    have hl2:128≤b:=by unfold U.aP at h3;(repeat' split at h3) <;> omega
    by_cases h240:a'=240
    ·have:=hlo h240;omega
    ·omega
   ·rw[e2]at hc;simp only at hc;omega
  ·have hnx:=(U.j7 (a::l) (by simp)).1
   have:=uD n _ (by rw[List.length_drop];simp at hn ⊢;omega) (fun b hb=>hl b (List.mem_of_mem_drop hb)) c h hc;exact List.mem_of_mem_drop this
theorem zV:∀ n:Fin 128,(48≤n.val∧n.val≤57∨65≤n.val∧n.val≤70∨n.val=37)→fb (n.val:Int)=false:=by decide
theorem mD{c:Int}(h:48≤c∧c≤57∨65≤c∧c≤70∨c=37):fb c=false:=by
 obtain⟨k,rfl⟩:∃ k:Nat,c=k:=⟨c.toNat,by omega⟩;exact zV ⟨k,by omega⟩ (by simp only;omega)
theorem Au{n:Int}(h0:0≤n)(h1:n≤15):48≤E.dg n∧E.dg n≤57∨65≤E.dg n∧E.dg n≤70:=by unfold E.dg;split <;> omega
theorem k5{s:List Int}(hs:U.Bytes s)(h:∀ c∈s,fb c=false):∀ y∈E.en 0 (U.dec s),fb y=false:=by
 intro y hy
 obtain⟨c,hc,hyc⟩:=List.mem_flatMap.1 hy;have hsc:U.az c=true:=List.all_eq_true.1 (U.gT s.length s (Nat.le_refl _) hs) c hc;unfold E.tok at hyc
 split at hyc
 ·obtain⟨b,hb,hyb⟩:=List.mem_flatMap.1 hyc
  have hbb:0≤b∧b≤255:=U.dX c (E.bu hsc).1 (E.bu hsc).2 b hb;unfold E.pe at hyb
  simp at hyb
  rcases hyb with rfl | rfl | rfl
  ·exact mD (.inr (.inr rfl))
  ·rcases Au (n:=b / 16) (by omega) (by omega) with h | h
   ·exact mD (.inl h)
   ·exact mD (.inr (.inl h))
  ·rcases Au (n:=b % 16) (by omega) (by omega) with h | h
   ·exact mD (.inl h)
   ·exact mD (.inr (.inl h))
 ·rename_i hin
  have hbd:=E.zN (k:=0) (by decide) (by simpa using hin);rw[E.eM (by omega)]at hyc;obtain rfl:=List.mem_singleton.1 hyc;exact h y (uD s.length s (Nat.le_refl _) hs y hc (by omega))
theorem GF{s:List Int}(hs:U.Bytes s)(h:s≠[]):U.dec s≠[]:=by rw[U.bg s h hs];simp
theorem E7(k:Nat)(c:Int)(hc:U.az c=true):E.tok k c≠[]:=by
 have he:U.enc c≠[]:=by unfold U.enc;(repeat' split) <;> simp
 unfold E.tok;split
 ·intro e
  have:=congrArg List.length e;rw[E.js]at this;have h2:=List.length_pos_iff.2 he;simp at this
  omega
 ·exact he
theorem Ig{k:Nat}{l:List Int}(hl:l≠[])(hs:∀ c∈l,U.az c=true):E.en k l≠[]:=by
 cases l with
 | nil=>exact absurd rfl hl
 | cons c l =>
  rw[E.pL];intro e
  exact E7 k c (hs c (by simp)) (List.append_eq_nil_iff.1 e).1
theorem pE{l:List Int}(h:∀ c∈l,fb c=false):¬ l.head? = some 91:=by
 intro e
 have:=h 91 (List.mem_of_mem_head? e);exact absurd this (by decide)
theorem AV{p:Int→Bool}{l:List Int}(h:∀ c∈l,p c=false):l.any p=false:=by
 rw[List.any_eq_false];intro c hc
 rw[h c hc];simp
structure EP(A:List Int→List Int→Int→Prop)(sp:Bool)(h:Hst):Prop where
 same:HP A (txt h) sp h
 free:h.1≠3→∀ c∈txt h,fb c=false∧32≤c∧c≤126∧(h.1=1→fd c=false)
 none:h.1=0↔txt h=[]
 kind:h.1≤4∧(h.1=4→sp=false)∧(sp=true→h.1≠0)
theorem HP.rests{A:List Int→List Int→Int→Prop}(hA:Asc A){s:List Int}{sp:Bool}{h:Hst}(hs:U.Bytes s)(x:HP A s sp h)(h0:h.2.2.2.2=0)(hl:(txt h).length≤4096)
  (hX:∀ l a,X.prs l=some a→a.length=8∧X.Small a):EP A sp h:=by
 unfold HP at x
 split at x
 ·rw[x]at h0;cases h0
 split at x
 ·unfold six at x
  split at x
  ·cases hp:X.prs ((s.drop 1).dropLast) with
   | none=>rw[hp]at x;rw[x]at h0;cases h0
   | some a =>
    rw[hp]at x;obtain⟨h8,hsm⟩:=hX _ _ hp;have ht:txt h=91::(X.txt a++[93]):=by rw[x];rfl
    refine⟨?_,fun hk=>absurd (by rw[x]) hk,?_,?_⟩
    ·unfold HP
     rw[if_neg (by omega),ht,if_pos (show(91::(X.txt a++[93])).head? = some 91 from rfl),x];unfold six;rw[if_pos ⟨by rw[List.length_cons,List.length_append,List.length_singleton];omega,List.getLast?_concat (l:=91::X.txt a) (a:=93)⟩];have:((91::(X.txt a++[93])).drop 1).dropLast=X.txt a:=by simp
     rw[this,X.Ci h8 hsm]
    ·rw[ht,x];simp
    ·rw[x];simp
  ·rw[x]at h0;cases h0
 split at x
 ·rename_i hsp
  unfold opq at x
  split at x
  ·rw[x]at h0;cases h0
  ·rename_i hfb
   have hfb':=kg hfb;split at x
   ·have ht:txt h=[]:=by rw[x];rfl
    refine⟨?_,(fun _ c hc=>by rw[ht]at hc;simp at hc),?_,?_⟩
    ·unfold HP
     rw[ht,if_neg (by simp),if_neg (by simp),if_pos hsp,x];rfl
    ·rw[ht,x];simp[non]
    ·rw[x];simp[non,hsp]
   ·rename_i hne
    have ht:txt h=E.en 0 (U.dec s):=by rw[x];rfl
    have hsc:∀ c∈U.dec s,U.az c=true:=List.all_eq_true.1 (U.gT s.length s (Nat.le_refl _) hs);have hfree:=k5 hs hfb';have htn:=Ig (k:=0) (GF hs hne) hsc;refine⟨?_,?_,?_,?_⟩
    ·unfold HP
     rw[if_neg (by omega),ht,if_neg (pE hfree),if_pos hsp,x];unfold opq;rw[AV hfree,if_neg (by simp),if_neg htn,E.Ak (by decide) hsc]
    ·intro _ c hc
     rw[ht]at hc;have h3:=E.mP (k:=0) (by decide) hsc c hc;exact⟨hfree c hc,h3.1,h3.2.1,fun hk=>by rw[x]at hk;simp at hk⟩
    ·rw[ht,x];simp[htn]
    ·rw[x];simp[hsp]
 ·rename_i hsp
  obtain⟨d,r,hAd,x⟩:=x;have hspt:sp=true:=by simpa using hsp
  unfold dom at x
  split at x
  ·rw[x]at h0;cases h0
  ·rename_i hd
   have hr:r=0:=by
    by_cases h:r=0
    ·exact h
    ·exact absurd (.inl h) hd
   have hdn:d≠[]:=fun h=>hd (.inr (.inl h))
   have hdf:=kg (p:=fd) (l:=d) (fun h=>hd (.inr (.inr h)));subst hr;split at x
   ·split at x
    ·rename_i hend hp0
     have hbd:=yC d hp0;obtain⟨a,ha⟩:∃ a,(F.prs d).1=a:=⟨_,rfl⟩;rw[ha]at x hbd;have ht:txt h=F.txt a:=by rw[x];rfl
     have htt:=xI hbd;obtain⟨hb1,hb2,hb3⟩:=jV hbd;refine⟨?_,?_,?_,?_⟩
     ·unfold HP
      rw[if_neg (by omega),ht,if_neg (pE (fun c hc=>(sD (htt c hc)).2)),if_neg hsp];refine⟨F.txt a,0,?_,?_⟩
      ·rw[mT _ _ (Nat.le_refl _) (fun c hc=>by have:=htt c hc;omega)]
       exact hA.num (fun c hc=>.inr (htt c hc))
      ·rw[x]
       unfold dom
       rw[if_neg (by
         rintro(h | h | h)
         · exact h rfl
         · exact hb3 h
         · rw[AV (fun c hc=>(sD (htt c hc)).1)]at h;cases h),if_pos hb2,hb1]
       rfl
     ·intro _ c hc
      rw[ht]at hc;have h3:=htt c hc;exact⟨(sD h3).2,by omega,by omega,fun hk=>by rw[x]at hk;simp at hk⟩
     ·rw[ht,x];simp[hb3]
     ·rw[x];simp
    ·rw[x]at h0;cases h0
   ·rename_i hend
    have ht:txt h=d:=by rw[x];rfl
    have hlow:=hA.low hAd;refine⟨?_,?_,?_,?_⟩
    ·unfold HP
     rw[if_neg (by omega),ht,if_neg (pE (fun c hc=>(Ae (hdf c hc)).1)),if_neg hsp];refine⟨d,0,?_,?_⟩
     ·rw[mT _ _ (Nat.le_refl _) (fun c hc=>(Ae (hdf c hc)).2.2.1)]
      exact hA.rest hAd
     ·rw[x]
      unfold dom;rw[if_neg hd,if_neg hend]
    ·intro _ c hc
     rw[ht]at hc;have h3:=Ae (hdf c hc);have h4:=hlow c hc;exact⟨h3.1,h3.2.1,by omega,fun _=>hdf c hc⟩
    ·rw[ht,x];simp[hdn]
    ·rw[x];simp
theorem zt(k:Int)(n:ByteArray)(f a0 a1 a2 a3 a4 a5 a6 a7 k':Int)(n':ByteArray)(f' b0 b1 b2 b3 b4 b5 b6 b7:Int)(w:World):
  (binOp .neq 26 (hv k n f a0 a1 a2 a3 a4 a5 a6 a7) (hv k' n' f' b0 b1 b2 b3 b4 b5 b6 b7)).run Tryz.prog w=.ok (.bool (!eqh k n f [a0,a1,a2,a3,a4,a5,a6,a7] k' n' f' [b0,b1,b2,b3,b4,b5,b6,b7])) w:=by
 rw[run_neq_struct,uS];rfl
theorem cV(k:Int)(n:ByteArray)(f:Int)(a:List Int):eqh k n f a k n f a=true:=by
 unfold eqh;simp
end Go.Proofs.YtkekkbciiohbkaaGreatDoor.H
