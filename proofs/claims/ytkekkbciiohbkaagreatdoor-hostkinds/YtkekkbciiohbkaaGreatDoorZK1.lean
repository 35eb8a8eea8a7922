/- Texts one behind the other: FP FN. -/
import Derived.Test.YtkekkbciiohbkaaGreatDoorZ3
import Derived.Test.YtkekkbciiohbkaaGreatDoorProg
import Derived.WalkKit
import Derived.WalkSpells
import Derived.WalkLawsBesides
import Derived.Below
set_option maxRecDepth 100000
set_option maxHeartbeats 16000000
set_option linter.unusedVariables false
set_option linter.unnecessarySimpa false
namespace Go.Proofs.YtkekkbciiohbkaaGreatDoor.F
theorem mB{n:Nat}(h:n<16):hx (dg n)=n:=by unfold hx dg;(repeat' split) <;> omega
theorem lx{b:Nat}(h2:2≤b)(h16:b≤16):∀(f n:Nat),n<b ^ (f+1)→ok b (wrF b f n)=true∧vl b (wrF b f n)=n
 | 0,n,h=>by
  have hn:n<b:=by simpa using h
  have hm:n % b=n:=Nat.mod_eq_of_lt hn;have hd:=mB (n:=n) (by omega);rw[wrF,hm];refine⟨?_,?_⟩
  ·unfold ok bW;simp[hd];omega
  ·unfold vl;simp[hd]
 | f+1,n,h=>by
  rw[wrF];split
  ·rename_i hn
   have hd:=mB (n:=n) (by omega);refine⟨?_,?_⟩
   ·unfold ok bW;simp[hd];omega
   ·unfold vl;simp[hd]
  ·rename_i hn
   have hq:n / b<b ^ (f+1):=by
    rw[Nat.div_lt_iff_lt_mul (by omega)]
    rwa [Nat.pow_succ]at h
   obtain⟨i1,i2⟩:=lx h2 h16 f (n / b) hq;have hm:n % b<b:=Nat.mod_lt _ (by omega);have hd:=mB (n:=n % b) (by omega);refine⟨?_,?_⟩
   ·rw[eJ,i1];unfold bW;simp[hd];omega
   ·rw[cJ,i2,hd]
    have:=Nat.div_add_mod n b;simp only[Int.toNat_natCast];rw[Nat.mul_comm];exact this
theorem cY{b n:Nat}(h2:2≤b)(h16:b≤16)(hn:n<2 ^ 64):ok b (wr b n)=true∧vl b (wr b n)=n:=lx h2 h16 64 n (Nat.lt_of_lt_of_le hn (jn h2))
theorem ly(b f n:Nat):wrF b f n≠[]:=by
 cases f with
 | zero=>simp[wrF]
 | succ f=>rw[wrF];split <;> simp
theorem lu(b n:Nat):wr b n≠[]:=ly b 64 n
theorem fh{b:Nat}(h2:2≤b)(h16:b≤16):∀(f n:Nat),n<b ^ (f+1)→0<n→(wrF b f n)[0]?.getD 0≠48
 | 0,n,h,h0=>by
  have hn:n<b:=by simpa using h
  rw[wrF,Nat.mod_eq_of_lt hn];simp;unfold dg;split <;> omega
 | f+1,n,h,h0=>by
  rw[wrF];split
  ·simp
   unfold dg;split <;> omega
  ·rename_i hn
   have hq:n / b<b ^ (f+1):=by
    rw[Nat.div_lt_iff_lt_mul (by omega)]
    rwa [Nat.pow_succ]at h
   have hp:0<n / b:=Nat.div_pos (by omega) (by omega);have ih:=fh h2 h16 f (n / b) hq hp;have hl:0<(wrF b f (n / b)).length:=List.length_pos_iff.2 (ly b f _)
   rwa [List.getElem?_append_left hl]
theorem oN{b:Nat}(h:0<b):wr b 0=[48]:=by
 unfold wr;rw[wrF,if_pos h];rfl
theorem iU{l:List Int}{b:Nat}{r:List Int}{n:Nat}(hl:l≠[])(hb:base l=b)(hr:rest l=r)(hok:ok b r=true)(hv:vl b r=n):num l=if 4294967296≤n then (0,4) else (n,0):=by
 unfold num;rw[if_neg hl,hb,hr,hok,if_neg (by simp),hv]
theorem zh{r:List Int}{n:Nat}(hok:ok 16 r=true)(hv:vl 16 r=n):num (48::120::r)=if 4294967296≤n then (0,4) else (n,0):=by
 have hx:isX (48::120::r)=true:=by unfold isX;simp
 exact iU (by simp) (by unfold base;rw[if_pos hx]) (by unfold rest;rw[if_pos hx];rfl) hok hv
theorem tb{b:Nat}{r:List Int}(hr:r≠[])(hok:ok b r=true):¬ (r[0]?.getD 0=120∨r[0]?.getD 0=88):=by
 cases r with
 | nil=>exact absurd rfl hr
 | cons c r =>
  unfold ok at hok
  rw[List.all_cons,Bool.and_eq_true]at hok;have:=of_decide_eq_true hok.1;intro h
  simp at h
  rcases h with rfl | rfl
  ·exact absurd this.1 (by decide)
  ·exact absurd this.1 (by decide)
theorem zk{r:List Int}{n:Nat}(hr:r≠[])(hok:ok 8 r=true)(hv:vl 8 r=n):num (48::r)=if 4294967296≤n then (0,4) else (n,0):=by
 have hg:=tb hr hok;have hl:0<r.length:=List.length_pos_iff.2 hr
 have hx:isX (48::r)=false:=by
  unfold isX;refine decide_eq_false (fun h=>hg ?_);have:=h.2.2
  simpa using this
 have ho:isO (48::r)=true:=by unfold isO;simp;omega
 exact iU (by simp) (by unfold base;rw[hx,if_neg (by simp),if_pos ho]) (by unfold rest;rw[hx,if_neg (by simp),if_pos ho];rfl) hok hv
theorem zi{r:List Int}{n:Nat}(hr:r≠[])(h0:r.length=1∨r[0]?.getD 0≠48)(hok:ok 10 r=true)(hv:vl 10 r=n):num r=if 4294967296≤n then (0,4) else (n,0):=by
 have ho:isO r=false:=by
  unfold isO;refine decide_eq_false (fun h=>?_);rcases h0 with h1 | h1
  ·omega
  ·exact h1 h.2
 have hx:isX r=false:=by
  unfold isX;unfold isO at ho
  have:=of_decide_eq_false ho;exact decide_eq_false (fun h=>this ⟨h.1,h.2.1⟩)
 exact iU hr (by unfold base;rw[hx,ho];rfl) (by unfold rest;rw[hx,ho];rfl) hok hv
theorem jv{k n:Nat}(hn:n<2 ^ 64):num (wrt k n)=if 4294967296≤n then (0,4) else (n,0):=by
 unfold wrt;split
 ·obtain⟨h1,h2⟩:=cY (b:=16) (by decide) (by decide) hn
  exact zh h1 h2
 ·split
  ·obtain⟨h1,h2⟩:=cY (b:=8) (by decide) (by decide) hn
   exact zk (lu 8 n) h1 h2
  ·obtain⟨h1,h2⟩:=cY (b:=10) (by decide) (by decide) hn
   refine zi (lu 10 n) ?_ h1 h2;by_cases h0:n=0
   ·left;rw[h0,oN (by decide)];rfl
   ·right;exact fh (by decide) (by decide) 64 n (Nat.lt_of_lt_of_le hn (jn (by decide))) (by omega)
open Go.RowKit
theorem cG(c:Int)(h0:0≤c)(h1:c≤255)(w:World):Calls Tryz.prog 16 #[.int .u8 c] w fun e W'=>e=.returned (.int .i64 (hx c))∧W'=w:=by
 by_cases a1:48≤c∧c≤57
 ·obtain⟨x1,x2⟩:=a1
  go_enter Tryz.func16,Tryz.ntmps16
  go_wp2;go_ret;exact⟨aX (by unfold hx;(repeat' split) <;> omega),rfl⟩
 by_cases a2:97≤c∧c≤102
 ·obtain⟨x1,x2⟩:=a2
  go_enter Tryz.func16,Tryz.ntmps16
  go_wp2;go_ret;exact⟨aX (by unfold hx;(repeat' split) <;> omega),rfl⟩
 by_cases a3:65≤c∧c≤70
 ·obtain⟨x1,x2⟩:=a3
  go_enter Tryz.func16,Tryz.ntmps16
  go_wp2;go_ret;exact⟨aX (by unfold hx;(repeat' split) <;> omega),rfl⟩
 have hm:hx c=-1:=by unfold hx;(repeat' split) <;> omega
 rw[hm];go_enter Tryz.func16,Tryz.ntmps16
 go_wp2
 all_goals first
  | (go_ret;exact⟨rfl,rfl⟩)
  | (exfalso;omega)
  | (go_ret;exact⟨aX (by omega),rfl⟩)
theorem ko(s:ByteArray)(w:World)(hs:s.size≤400000000):
  Calls Tryz.prog 34 #[.string s] w fun e W'=>cX (bn s) e∧W'=w:=by
 by_cases h0:s.size=0
 ·have he:s.toList.isEmpty=true:=ah s h0
  have hn:num (bn s)=(0,8):=by
   have:bn s=[]:=List.length_eq_zero_iff.1 (by rw[aa];exact h0);rw[this];rfl
  have HR:Hid (∀ e,e=.returned (.tuple #[.int .u64 0,.int .i64 8])→cX (bn s) e):=fun e h=>by unfold cX;rw[hn];exact h
  clear hn;go_enter Tryz.func34,Tryz.ntmps34
  go_wp2
  go_ret2;exact⟨HR.out _ rfl,rfl⟩
 ·have he:s.toList.isEmpty=false:=ab s (by omega)
  have hl:bn s≠[]:=fun e=>h0 (by rw[←aa,e];rfl)
  by_cases h2:2≤s.size
  ·have h2z:(2:Int)≤(s.size:Int):=by omega
   have hg0:=(aq s 0 (by omega)).symm;have hg1:=(aq s 1 (by omega)).symm;obtain⟨e0,he0⟩:∃ e0,(bn s)[0]?.getD 0=e0:=⟨_,rfl⟩;obtain⟨e1,he1⟩:∃ e1,(bn s)[1]?.getD 0=e1:=⟨_,rfl⟩;have HXD:Hid (isX (bn s)=decide (2≤(bn s).length∧e0=48∧(e1=120∨e1=88))):=by show _=_;rw[←he0,←he1];rfl
   have HOD:Hid (isO (bn s)=decide (2≤(bn s).length∧e0=48)):=by show _=_;rw[←he0];rfl
   rw[aa]at HXD HOD;rw[he0]at hg0;rw[he1]at hg1;clear he0 he1;by_cases c0:e0=48
   ·have b0:(e0==48)=true:=by simpa using c0
    by_cases c1:e1=120
    ·have b1:(e1==120)=true:=by simpa using c1
     have hX:isX (bn s)=true:=by rw[HXD.out];exact decide_eq_true ⟨h2,c0,.inl c1⟩
     clear HXD HOD c0 c1;have HB:Hid (base (bn s)=16):=by show _=_;unfold base;rw[hX];rfl
     have HTS:Hid (bn (tail s)=rest (bn s)):=ig s;have HTE:Hid (tail s=s.extract 2 s.size):=by show _=_;unfold tail;rw[hX];rfl
     clear hX;go_enter Tryz.func34,Tryz.ntmps34
     go_wp2_with fail;obtain⟨T,hT⟩:∃ T,s.extract 2 s.size=T:=⟨_,rfl⟩;rw[hT]at HTE ⊢;have HT:Hid (bn T=rest (bn s)):=by show _=_;rw[←HTE.out];exact HTS.out
     have hTs:T.size≤400000000:=by rw[←HTE.out];exact Nat.le_trans (ie s) hs
     clear HTE HTS hT;have HBD:=hid (fun j (h:j<T.size)=>ar (s:=T) h);have HGT:=hid (aq T);have HBAD:Hid (∀ k,k<T.size→bW 16 ((bn T)[k]?.getD 0)=false→num (bn s)=(0,8)):=fun k hk h=>ir hl (by rw[HB.out,←HT.out];exact cO (by rw[aa];exact hk) h)
     have HEND:Hid (ok 16 (bn T)=true→num (bn s)=if 4294967296≤cap 16 (bn T) then (0,4) else (cap 16 (bn T),0)):=fun h=>by
      have:=iq hl (by rw[HB.out,←HT.out];exact h);rw[HB.out,←HT.out]at this;exact this
     have HNR:Hid (∀(x:Nat) (y:Int) e,num (bn s)=(x,y)→e=.returned (.tuple #[.int .u64 x,.int .i64 y])→cX (bn s) e):=fun x y e h he=>by unfold cX;rw[h];exact he
     have HLN:=hid (aa T)
     go_loop [5,6] (fun v5 v6=>∃(k n:Nat),k≤T.size∧n≤4294967296∧v5=.int .u64 n∧v6=.int .i64 k∧Hid (n=cap 16 ((bn T).take k))∧Hid (ok 16 ((bn T).take k)=true)) (fun _ v6=>T.size - (intOf v6).toNat)
     case atStart=>exact⟨0,0,Nat.zero_le _,by omega,rfl,rfl,rfl,rfl⟩
     case round =>
      obtain⟨k,n,hk,hn,rfl,rfl,HC,HO⟩:=hrel;by_cases hlt:k<T.size
      ·have hg:=(HGT.out k hlt).symm
       obtain⟨hb0,hb1⟩:=HBD.out k hlt;have HX:=hid (cG _ hb0 hb1);have HBK:=hid (HBAD.out k hlt);have q:=bw ((bn T)[k]?.getD 0);have HGD:Hid (bW 16 ((bn T)[k]?.getD 0)=decide (0≤hx ((bn T)[k]?.getD 0)∧hx ((bn T)[k]?.getD 0)<16)):=rfl;have HTK:=hid (take_one (bn T) k (by rw[HLN.out];exact hlt));have HCS:Hid (cap 16 ((bn T).take (k+1))=min (n * 16+(hx ((bn T)[k]?.getD 0)).toNat) 4294967296):=by show _=_;rw[HTK.out,fA (by decide),←HC.out]
       have HOS:Hid (ok 16 ((bn T).take (k+1))=bW 16 ((bn T)[k]?.getD 0)):=by show _=_;rw[HTK.out,eJ,HO.out,Bool.true_and]
       obtain⟨d,hd⟩:∃ d,hx ((bn T)[k]?.getD 0)=d:=⟨_,rfl⟩;rw[hd]at HX q HGD HCS;obtain⟨G,hG⟩:∃ G,bW 16 ((bn T)[k]?.getD 0)=G:=⟨_,rfl⟩;rw[hG]at HBK HGD HOS;obtain⟨y,hy⟩:∃ y,(bn T)[k]?.getD 0=y:=⟨_,rfl⟩;rw[hy]at hg HX hb0 hb1;obtain⟨q0,q1⟩:=q;clear hd hG hy HTK HGT HBD HBAD HEND;by_cases hn0:d<0
       ·have HR:=hid (HBK.out (by rw[HGD.out];exact decide_eq_false (by omega)))
        clear HGD HBK HCS HOS HC HO
        go_wp2_with(go_at_call 16;refine(HX.out _).mono ?_;rintro e w2 ⟨rfl,hw2⟩;obtain rfl:=hw2.symm)
        go_ret2;exact⟨HNR.out _ _ _ HR.out rfl,rfl⟩
       ·by_cases hnb:16≤d
        ·have HR:=hid (HBK.out (by rw[HGD.out];exact decide_eq_false (by omega)))
         clear HGD HBK HCS HOS HC HO
         go_wp2_with(go_at_call 16;refine(HX.out _).mono ?_;rintro e w2 ⟨rfl,hw2⟩;obtain rfl:=hw2.symm)
         go_ret2;exact⟨HNR.out _ _ _ HR.out rfl,rfl⟩
        ·have HGT':Hid (G=true):=by show _=_;rw[HGD.out];exact decide_eq_true (by omega)
         obtain⟨x,hx'⟩:∃ x:Nat,d=(x:Int):=⟨d.toNat,by omega⟩;subst hx';have hnbz:¬ ((16:Int)≤(x:Int)):=hnb;clear HGD HBK HC HO
         go_wp2_with(go_at_call 16;refine(HX.out _).mono ?_;rintro e w2 ⟨rfl,hw2⟩;obtain rfl:=hw2.symm)
         refine⟨⟨k+1,min (n * 16+x) 4294967296,by omega,by omega,?_,by go_num,?_,?_⟩,by simp[intOf];omega⟩
         ·congr 1
          omega
         ·show _=_
          rw[HCS.out];rfl
         ·show _=_
          rw[HOS.out,HGT'.out]
      ·have ht:(bn T).take k=bn T:=List.take_of_length_le (by rw[HLN.out];omega)
       rw[ht]at HC HO;have HR:=hid (HEND.out HO.out);rw[←HC.out]at HR;clear ht HC HO HBAD HEND HGT HBD;by_cases hnl:4294967296≤n
       ·have HR':=hid (HR.out.trans (if_pos hnl))
        have hnz:(4294967296:Int)≤(n:Int):=by omega
        clear HR;go_wp2
        go_ret2;exact⟨HNR.out _ _ _ HR'.out rfl,rfl⟩
       ·have HR':=hid (HR.out.trans (if_neg hnl))
        have hnz:¬ (4294967296:Int)≤(n:Int):=by omega
        clear HR;go_wp2
        go_ret2;exact⟨HNR.out _ _ _ HR'.out rfl,rfl⟩
    ·have b1:(e1==120)=false:=by simpa using c1
     by_cases c2:e1=88
     ·have b2:(e1==88)=true:=by simpa using c2
      have hX:isX (bn s)=true:=by rw[HXD.out];exact decide_eq_true ⟨h2,c0,.inr c2⟩
      clear HXD HOD c0 c1 c2;have HB:Hid (base (bn s)=16):=by show _=_;unfold base;rw[hX];rfl
      have HTS:Hid (bn (tail s)=rest (bn s)):=ig s;have HTE:Hid (tail s=s.extract 2 s.size):=by show _=_;unfold tail;rw[hX];rfl
      clear hX;go_enter Tryz.func34,Tryz.ntmps34
      go_wp2_with fail;obtain⟨T,hT⟩:∃ T,s.extract 2 s.size=T:=⟨_,rfl⟩;rw[hT]at HTE ⊢;have HT:Hid (bn T=rest (bn s)):=by show _=_;rw[←HTE.out];exact HTS.out
      have hTs:T.size≤400000000:=by rw[←HTE.out];exact Nat.le_trans (ie s) hs
      clear HTE HTS hT;have HBD:=hid (fun j (h:j<T.size)=>ar (s:=T) h);have HGT:=hid (aq T);have HBAD:Hid (∀ k,k<T.size→bW 16 ((bn T)[k]?.getD 0)=false→num (bn s)=(0,8)):=fun k hk h=>ir hl (by rw[HB.out,←HT.out];exact cO (by rw[aa];exact hk) h)
      have HEND:Hid (ok 16 (bn T)=true→num (bn s)=if 4294967296≤cap 16 (bn T) then (0,4) else (cap 16 (bn T),0)):=fun h=>by
       have:=iq hl (by rw[HB.out,←HT.out];exact h);rw[HB.out,←HT.out]at this;exact this
      have HNR:Hid (∀(x:Nat) (y:Int) e,num (bn s)=(x,y)→e=.returned (.tuple #[.int .u64 x,.int .i64 y])→cX (bn s) e):=fun x y e h he=>by unfold cX;rw[h];exact he
      have HLN:=hid (aa T)
      go_loop [5,6] (fun v5 v6=>∃(k n:Nat),k≤T.size∧n≤4294967296∧v5=.int .u64 n∧v6=.int .i64 k∧Hid (n=cap 16 ((bn T).take k))∧Hid (ok 16 ((bn T).take k)=true)) (fun _ v6=>T.size - (intOf v6).toNat)
      case atStart=>exact⟨0,0,Nat.zero_le _,by omega,rfl,rfl,rfl,rfl⟩
      case round =>
       obtain⟨k,n,hk,hn,rfl,rfl,HC,HO⟩:=hrel;by_cases hlt:k<T.size
       ·have hg:=(HGT.out k hlt).symm
        obtain⟨hb0,hb1⟩:=HBD.out k hlt;have HX:=hid (cG _ hb0 hb1);have HBK:=hid (HBAD.out k hlt);have q:=bw ((bn T)[k]?.getD 0);have HGD:Hid (bW 16 ((bn T)[k]?.getD 0)=decide (0≤hx ((bn T)[k]?.getD 0)∧hx ((bn T)[k]?.getD 0)<16)):=rfl;have HTK:=hid (take_one (bn T) k (by rw[HLN.out];exact hlt));have HCS:Hid (cap 16 ((bn T).take (k+1))=min (n * 16+(hx ((bn T)[k]?.getD 0)).toNat) 4294967296):=by show _=_;rw[HTK.out,fA (by decide),←HC.out]
        have HOS:Hid (ok 16 ((bn T).take (k+1))=bW 16 ((bn T)[k]?.getD 0)):=by show _=_;rw[HTK.out,eJ,HO.out,Bool.true_and]
        obtain⟨d,hd⟩:∃ d,hx ((bn T)[k]?.getD 0)=d:=⟨_,rfl⟩;rw[hd]at HX q HGD HCS;obtain⟨G,hG⟩:∃ G,bW 16 ((bn T)[k]?.getD 0)=G:=⟨_,rfl⟩;rw[hG]at HBK HGD HOS;obtain⟨y,hy⟩:∃ y,(bn T)[k]?.getD 0=y:=⟨_,rfl⟩;rw[hy]at hg HX hb0 hb1;obtain⟨q0,q1⟩:=q;clear hd hG hy HTK HGT HBD HBAD HEND;by_cases hn0:d<0
        ·have HR:=hid (HBK.out (by rw[HGD.out];exact decide_eq_false (by omega)))
         clear HGD HBK HCS HOS HC HO
         go_wp2_with(go_at_call 16;refine(HX.out _).mono ?_;rintro e w2 ⟨rfl,hw2⟩;obtain rfl:=hw2.symm)
         go_ret2;exact⟨HNR.out _ _ _ HR.out rfl,rfl⟩
        ·by_cases hnb:16≤d
         ·have HR:=hid (HBK.out (by rw[HGD.out];exact decide_eq_false (by omega)))
          clear HGD HBK HCS HOS HC HO
          go_wp2_with(go_at_call 16;refine(HX.out _).mono ?_;rintro e w2 ⟨rfl,hw2⟩;obtain rfl:=hw2.symm)
          go_ret2;exact⟨HNR.out _ _ _ HR.out rfl,rfl⟩
         ·have HGT':Hid (G=true):=by show _=_;rw[HGD.out];exact decide_eq_true (by omega)
          obtain⟨x,hx'⟩:∃ x:Nat,d=(x:Int):=⟨d.toNat,by omega⟩;subst hx';have hnbz:¬ ((16:Int)≤(x:Int)):=hnb;clear HGD HBK HC HO
          go_wp2_with(go_at_call 16;refine(HX.out _).mono ?_;rintro e w2 ⟨rfl,hw2⟩;obtain rfl:=hw2.symm)
          refine⟨⟨k+1,min (n * 16+x) 4294967296,by omega,by omega,?_,by go_num,?_,?_⟩,by simp[intOf];omega⟩
          ·congr 1
           omega
          ·show _=_
           rw[HCS.out];rfl
          ·show _=_
           rw[HOS.out,HGT'.out]
       ·have ht:(bn T).take k=bn T:=List.take_of_length_le (by rw[HLN.out];omega)
        rw[ht]at HC HO;have HR:=hid (HEND.out HO.out);rw[←HC.out]at HR;clear ht HC HO HBAD HEND HGT HBD;by_cases hnl:4294967296≤n
        ·have HR':=hid (HR.out.trans (if_pos hnl))
         have hnz:(4294967296:Int)≤(n:Int):=by omega
         clear HR;go_wp2
         go_ret2;exact⟨HNR.out _ _ _ HR'.out rfl,rfl⟩
        ·have HR':=hid (HR.out.trans (if_neg hnl))
         have hnz:¬ (4294967296:Int)≤(n:Int):=by omega
         clear HR;go_wp2
         go_ret2;exact⟨HNR.out _ _ _ HR'.out rfl,rfl⟩
     ·have b2:(e1==88)=false:=by simpa using c2
      have hX:isX (bn s)=false:=by rw[HXD.out];exact decide_eq_false (fun h=>h.2.2.elim c1 c2)
      have hO:isO (bn s)=true:=by rw[HOD.out];exact decide_eq_true ⟨h2,c0⟩
      clear HXD HOD c0 c1 c2;have HB:Hid (base (bn s)=8):=by show _=_;unfold base;rw[hX,hO];rfl
      have HTS:Hid (bn (tail s)=rest (bn s)):=ig s;have HTE:Hid (tail s=s.extract 1 s.size):=by show _=_;unfold tail;rw[hX,hO];rfl
      clear hX hO;go_enter Tryz.func34,Tryz.ntmps34
      go_wp2_with fail;obtain⟨T,hT⟩:∃ T,s.extract 1 s.size=T:=⟨_,rfl⟩;rw[hT]at HTE ⊢;have HT:Hid (bn T=rest (bn s)):=by show _=_;rw[←HTE.out];exact HTS.out
      have hTs:T.size≤400000000:=by rw[←HTE.out];exact Nat.le_trans (ie s) hs
      clear HTE HTS hT;have HBD:=hid (fun j (h:j<T.size)=>ar (s:=T) h);have HGT:=hid (aq T);have HBAD:Hid (∀ k,k<T.size→bW 8 ((bn T)[k]?.getD 0)=false→num (bn s)=(0,8)):=fun k hk h=>ir hl (by rw[HB.out,←HT.out];exact cO (by rw[aa];exact hk) h)
      have HEND:Hid (ok 8 (bn T)=true→num (bn s)=if 4294967296≤cap 8 (bn T) then (0,4) else (cap 8 (bn T),0)):=fun h=>by
       have:=iq hl (by rw[HB.out,←HT.out];exact h);rw[HB.out,←HT.out]at this;exact this
      have HNR:Hid (∀(x:Nat) (y:Int) e,num (bn s)=(x,y)→e=.returned (.tuple #[.int .u64 x,.int .i64 y])→cX (bn s) e):=fun x y e h he=>by unfold cX;rw[h];exact he
      have HLN:=hid (aa T)
      go_loop [5,6] (fun v5 v6=>∃(k n:Nat),k≤T.size∧n≤4294967296∧v5=.int .u64 n∧v6=.int .i64 k∧Hid (n=cap 8 ((bn T).take k))∧Hid (ok 8 ((bn T).take k)=true)) (fun _ v6=>T.size - (intOf v6).toNat)
      case atStart=>exact⟨0,0,Nat.zero_le _,by omega,rfl,rfl,rfl,rfl⟩
      case round =>
       obtain⟨k,n,hk,hn,rfl,rfl,HC,HO⟩:=hrel;by_cases hlt:k<T.size
       ·have hg:=(HGT.out k hlt).symm
        obtain⟨hb0,hb1⟩:=HBD.out k hlt;have HX:=hid (cG _ hb0 hb1);have HBK:=hid (HBAD.out k hlt);have q:=bw ((bn T)[k]?.getD 0);have HGD:Hid (bW 8 ((bn T)[k]?.getD 0)=decide (0≤hx ((bn T)[k]?.getD 0)∧hx ((bn T)[k]?.getD 0)<8)):=rfl;have HTK:=hid (take_one (bn T) k (by rw[HLN.out];exact hlt));have HCS:Hid (cap 8 ((bn T).take (k+1))=min (n * 8+(hx ((bn T)[k]?.getD 0)).toNat) 4294967296):=by show _=_;rw[HTK.out,fA (by decide),←HC.out]
        have HOS:Hid (ok 8 ((bn T).take (k+1))=bW 8 ((bn T)[k]?.getD 0)):=by show _=_;rw[HTK.out,eJ,HO.out,Bool.true_and]
        obtain⟨d,hd⟩:∃ d,hx ((bn T)[k]?.getD 0)=d:=⟨_,rfl⟩;rw[hd]at HX q HGD HCS;obtain⟨G,hG⟩:∃ G,bW 8 ((bn T)[k]?.getD 0)=G:=⟨_,rfl⟩;rw[hG]at HBK HGD HOS;obtain⟨y,hy⟩:∃ y,(bn T)[k]?.getD 0=y:=⟨_,rfl⟩;rw[hy]at hg HX hb0 hb1;obtain⟨q0,q1⟩:=q;clear hd hG hy HTK HGT HBD HBAD HEND;by_cases hn0:d<0
        ·have HR:=hid (HBK.out (by rw[HGD.out];exact decide_eq_false (by omega)))
         clear HGD HBK HCS HOS HC HO
         go_wp2_with(go_at_call 16;refine(HX.out _).mono ?_;rintro e w2 ⟨rfl,hw2⟩;obtain rfl:=hw2.symm)
         go_ret2;exact⟨HNR.out _ _ _ HR.out rfl,rfl⟩
        ·by_cases hnb:8≤d
         ·have HR:=hid (HBK.out (by rw[HGD.out];exact decide_eq_false (by omega)))
          clear HGD HBK HCS HOS HC HO
          go_wp2_with(go_at_call 16;refine(HX.out _).mono ?_;rintro e w2 ⟨rfl,hw2⟩;obtain rfl:=hw2.symm)
          go_ret2;exact⟨HNR.out _ _ _ HR.out rfl,rfl⟩
         ·have HGT':Hid (G=true):=by show _=_;rw[HGD.out];exact decide_eq_true (by omega)
          obtain⟨x,hx'⟩:∃ x:Nat,d=(x:Int):=⟨d.toNat,by omega⟩;subst hx';have hnbz:¬ ((8:Int)≤(x:Int)):=hnb;clear HGD HBK HC HO
          go_wp2_with(go_at_call 16;refine(HX.out _).mono ?_;rintro e w2 ⟨rfl,hw2⟩;obtain rfl:=hw2.symm)
          refine⟨⟨k+1,min (n * 8+x) 4294967296,by omega,by omega,?_,by go_num,?_,?_⟩,by simp[intOf];omega⟩
          ·congr 1
           omega
          ·show _=_
           rw[HCS.out];rfl
          ·show _=_
           rw[HOS.out,HGT'.out]
       ·have ht:(bn T).take k=bn T:=List.take_of_length_le (by rw[HLN.out];omega)
        rw[ht]at HC HO;have HR:=hid (HEND.out HO.out);rw[←HC.out]at HR;clear ht HC HO HBAD HEND HGT HBD;by_cases hnl:4294967296≤n
        ·have HR':=hid (HR.out.trans (if_pos hnl))
         have hnz:(4294967296:Int)≤(n:Int):=by omega
         clear HR;go_wp2
         go_ret2;exact⟨HNR.out _ _ _ HR'.out rfl,rfl⟩
        ·have HR':=hid (HR.out.trans (if_neg hnl))
         have hnz:¬ (4294967296:Int)≤(n:Int):=by omega
         clear HR;go_wp2
         go_ret2;exact⟨HNR.out _ _ _ HR'.out rfl,rfl⟩
   ·have b0:(e0==48)=false:=by simpa using c0
    have hX:isX (bn s)=false:=by rw[HXD.out];exact decide_eq_false (fun h=>c0 h.2.1)
    have hO:isO (bn s)=false:=by rw[HOD.out];exact decide_eq_false (fun h=>c0 h.2)
    clear HXD HOD c0;have HB:Hid (base (bn s)=10):=by show _=_;unfold base;rw[hX,hO];rfl
    have HTS:Hid (bn (tail s)=rest (bn s)):=ig s;have HTE:Hid (tail s=s):=by show _=_;unfold tail;rw[hX,hO];rfl
    clear hX hO;go_enter Tryz.func34,Tryz.ntmps34
    go_wp2_with fail;have HT:Hid (bn s=rest (bn s)):=by show _=_;rw[←HTS.out,HTE.out]
    have hTs:s.size≤400000000:=hs;clear HTE HTS;have HBD:=hid (fun j (h:j<s.size)=>ar (s:=s) h);have HGT:=hid (aq s);have HBAD:Hid (∀ k,k<s.size→bW 10 ((bn s)[k]?.getD 0)=false→num (bn s)=(0,8)):=fun k hk h=>ir hl (by rw[HB.out,←HT.out];exact cO (by rw[aa];exact hk) h)
    have HEND:Hid (ok 10 (bn s)=true→num (bn s)=if 4294967296≤cap 10 (bn s) then (0,4) else (cap 10 (bn s),0)):=fun h=>by
     have:=iq hl (by rw[HB.out,←HT.out];exact h);rw[HB.out,←HT.out]at this;exact this
    have HNR:Hid (∀(x:Nat) (y:Int) e,num (bn s)=(x,y)→e=.returned (.tuple #[.int .u64 x,.int .i64 y])→cX (bn s) e):=fun x y e h he=>by unfold cX;rw[h];exact he
    have HLN:=hid (aa s)
    go_loop [5,6] (fun v5 v6=>∃(k n:Nat),k≤s.size∧n≤4294967296∧v5=.int .u64 n∧v6=.int .i64 k∧Hid (n=cap 10 ((bn s).take k))∧Hid (ok 10 ((bn s).take k)=true)) (fun _ v6=>s.size - (intOf v6).toNat)
    case atStart=>exact⟨0,0,Nat.zero_le _,by omega,rfl,rfl,rfl,rfl⟩
    case round =>
     obtain⟨k,n,hk,hn,rfl,rfl,HC,HO⟩:=hrel;by_cases hlt:k<s.size
     ·have hg:=(HGT.out k hlt).symm
      obtain⟨hb0,hb1⟩:=HBD.out k hlt;have HX:=hid (cG _ hb0 hb1);have HBK:=hid (HBAD.out k hlt);have q:=bw ((bn s)[k]?.getD 0);have HGD:Hid (bW 10 ((bn s)[k]?.getD 0)=decide (0≤hx ((bn s)[k]?.getD 0)∧hx ((bn s)[k]?.getD 0)<10)):=rfl;have HTK:=hid (take_one (bn s) k (by rw[HLN.out];exact hlt));have HCS:Hid (cap 10 ((bn s).take (k+1))=min (n * 10+(hx ((bn s)[k]?.getD 0)).toNat) 4294967296):=by show _=_;rw[HTK.out,fA (by decide),←HC.out]
      have HOS:Hid (ok 10 ((bn s).take (k+1))=bW 10 ((bn s)[k]?.getD 0)):=by show _=_;rw[HTK.out,eJ,HO.out,Bool.true_and]
      obtain⟨d,hd⟩:∃ d,hx ((bn s)[k]?.getD 0)=d:=⟨_,rfl⟩;rw[hd]at HX q HGD HCS;obtain⟨G,hG⟩:∃ G,bW 10 ((bn s)[k]?.getD 0)=G:=⟨_,rfl⟩;rw[hG]at HBK HGD HOS;obtain⟨y,hy⟩:∃ y,(bn s)[k]?.getD 0=y:=⟨_,rfl⟩;rw[hy]at hg HX hb0 hb1;obtain⟨q0,q1⟩:=q;clear hd hG hy HTK HGT HBD HBAD HEND;by_cases hn0:d<0
      ·have HR:=hid (HBK.out (by rw[HGD.out];exact decide_eq_false (by omega)))
       clear HGD HBK HCS HOS HC HO
       go_wp2_with(go_at_call 16;refine(HX.out _).mono ?_;rintro e w2 ⟨rfl,hw2⟩;obtain rfl:=hw2.symm)
       go_ret2;exact⟨HNR.out _ _ _ HR.out rfl,rfl⟩
      ·by_cases hnb:10≤d
       ·have HR:=hid (HBK.out (by rw[HGD.out];exact decide_eq_false (by omega)))
        clear HGD HBK HCS HOS HC HO
        go_wp2_with(go_at_call 16;refine(HX.out _).mono ?_;rintro e w2 ⟨rfl,hw2⟩;obtain rfl:=hw2.symm)
        go_ret2;exact⟨HNR.out _ _ _ HR.out rfl,rfl⟩
       ·have HGT':Hid (G=true):=by show _=_;rw[HGD.out];exact decide_eq_true (by omega)
        obtain⟨x,hx'⟩:∃ x:Nat,d=(x:Int):=⟨d.toNat,by omega⟩;subst hx';have hnbz:¬ ((10:Int)≤(x:Int)):=hnb;clear HGD HBK HC HO
        go_wp2_with(go_at_call 16;refine(HX.out _).mono ?_;rintro e w2 ⟨rfl,hw2⟩;obtain rfl:=hw2.symm)
        refine⟨⟨k+1,min (n * 10+x) 4294967296,by omega,by omega,?_,by go_num,?_,?_⟩,by simp[intOf];omega⟩
        ·congr 1
         omega
        ·show _=_
         rw[HCS.out];rfl
        ·show _=_
         rw[HOS.out,HGT'.out]
     ·have ht:(bn s).take k=bn s:=List.take_of_length_le (by rw[HLN.out];omega)
      rw[ht]at HC HO;have HR:=hid (HEND.out HO.out);rw[←HC.out]at HR;clear ht HC HO HBAD HEND HGT HBD;by_cases hnl:4294967296≤n
      ·have HR':=hid (HR.out.trans (if_pos hnl))
       have hnz:(4294967296:Int)≤(n:Int):=by omega
       clear HR;go_wp2
       go_ret2;exact⟨HNR.out _ _ _ HR'.out rfl,rfl⟩
      ·have HR':=hid (HR.out.trans (if_neg hnl))
       have hnz:¬ (4294967296:Int)≤(n:Int):=by omega
       clear HR;go_wp2
       go_ret2;exact⟨HNR.out _ _ _ HR'.out rfl,rfl⟩
  ·have h2z:¬ (2:Int)≤(s.size:Int):=by omega
   have hX:isX (bn s)=false:=by unfold isX;exact decide_eq_false (fun h=>h2 (by have:=h.1;rw[aa]at this;exact this))
   have hO:isO (bn s)=false:=by unfold isO;exact decide_eq_false (fun h=>h2 (by have:=h.1;rw[aa]at this;exact this))
   have HB:Hid (base (bn s)=10):=by show _=_;unfold base;rw[hX,hO];rfl
   have HTS:Hid (bn (tail s)=rest (bn s)):=ig s;have HTE:Hid (tail s=s):=by show _=_;unfold tail;rw[hX,hO];rfl
   clear hX hO;go_enter Tryz.func34,Tryz.ntmps34
   go_wp2_with fail;have HT:Hid (bn s=rest (bn s)):=by show _=_;rw[←HTS.out,HTE.out]
   have hTs:s.size≤400000000:=hs;clear HTE HTS;have HBD:=hid (fun j (h:j<s.size)=>ar (s:=s) h);have HGT:=hid (aq s);have HBAD:Hid (∀ k,k<s.size→bW 10 ((bn s)[k]?.getD 0)=false→num (bn s)=(0,8)):=fun k hk h=>ir hl (by rw[HB.out,←HT.out];exact cO (by rw[aa];exact hk) h)
   have HEND:Hid (ok 10 (bn s)=true→num (bn s)=if 4294967296≤cap 10 (bn s) then (0,4) else (cap 10 (bn s),0)):=fun h=>by
    have:=iq hl (by rw[HB.out,←HT.out];exact h);rw[HB.out,←HT.out]at this;exact this
   have HNR:Hid (∀(x:Nat) (y:Int) e,num (bn s)=(x,y)→e=.returned (.tuple #[.int .u64 x,.int .i64 y])→cX (bn s) e):=fun x y e h he=>by unfold cX;rw[h];exact he
   have HLN:=hid (aa s)
   go_loop [5,6] (fun v5 v6=>∃(k n:Nat),k≤s.size∧n≤4294967296∧v5=.int .u64 n∧v6=.int .i64 k∧Hid (n=cap 10 ((bn s).take k))∧Hid (ok 10 ((bn s).take k)=true)) (fun _ v6=>s.size - (intOf v6).toNat)
   case atStart=>exact⟨0,0,Nat.zero_le _,by omega,rfl,rfl,rfl,rfl⟩
   case round =>
    obtain⟨k,n,hk,hn,rfl,rfl,HC,HO⟩:=hrel;by_cases hlt:k<s.size
    ·have hg:=(HGT.out k hlt).symm
     obtain⟨hb0,hb1⟩:=HBD.out k hlt;have HX:=hid (cG _ hb0 hb1);have HBK:=hid (HBAD.out k hlt);have q:=bw ((bn s)[k]?.getD 0);have HGD:Hid (bW 10 ((bn s)[k]?.getD 0)=decide (0≤hx ((bn s)[k]?.getD 0)∧hx ((bn s)[k]?.getD 0)<10)):=rfl;have HTK:=hid (take_one (bn s) k (by rw[HLN.out];exact hlt));have HCS:Hid (cap 10 ((bn s).take (k+1))=min (n * 10+(hx ((bn s)[k]?.getD 0)).toNat) 4294967296):=by show _=_;rw[HTK.out,fA (by decide),←HC.out]
     have HOS:Hid (ok 10 ((bn s).take (k+1))=bW 10 ((bn s)[k]?.getD 0)):=by show _=_;rw[HTK.out,eJ,HO.out,Bool.true_and]
     obtain⟨d,hd⟩:∃ d,hx ((bn s)[k]?.getD 0)=d:=⟨_,rfl⟩;rw[hd]at HX q HGD HCS;obtain⟨G,hG⟩:∃ G,bW 10 ((bn s)[k]?.getD 0)=G:=⟨_,rfl⟩;rw[hG]at HBK HGD HOS;obtain⟨y,hy⟩:∃ y,(bn s)[k]?.getD 0=y:=⟨_,rfl⟩;rw[hy]at hg HX hb0 hb1;obtain⟨q0,q1⟩:=q;clear hd hG hy HTK HGT HBD HBAD HEND;by_cases hn0:d<0
     ·have HR:=hid (HBK.out (by rw[HGD.out];exact decide_eq_false (by omega)))
      clear HGD HBK HCS HOS HC HO
      go_wp2_with(go_at_call 16;refine(HX.out _).mono ?_;rintro e w2 ⟨rfl,hw2⟩;obtain rfl:=hw2.symm)
      go_ret2;exact⟨HNR.out _ _ _ HR.out rfl,rfl⟩
     ·by_cases hnb:10≤d
      ·have HR:=hid (HBK.out (by rw[HGD.out];exact decide_eq_false (by omega)))
       clear HGD HBK HCS HOS HC HO
       go_wp2_with(go_at_call 16;refine(HX.out _).mono ?_;rintro e w2 ⟨rfl,hw2⟩;obtain rfl:=hw2.symm)
       go_ret2;exact⟨HNR.out _ _ _ HR.out rfl,rfl⟩
      ·have HGT':Hid (G=true):=by show _=_;rw[HGD.out];exact decide_eq_true (by omega)
       obtain⟨x,hx'⟩:∃ x:Nat,d=(x:Int):=⟨d.toNat,by omega⟩;subst hx';have hnbz:¬ ((10:Int)≤(x:Int)):=hnb;clear HGD HBK HC HO
       go_wp2_with(go_at_call 16;refine(HX.out _).mono ?_;rintro e w2 ⟨rfl,hw2⟩;obtain rfl:=hw2.symm)
       refine⟨⟨k+1,min (n * 10+x) 4294967296,by omega,by omega,?_,by go_num,?_,?_⟩,by simp[intOf];omega⟩
       ·congr 1
        omega
       ·show _=_
        rw[HCS.out];rfl
       ·show _=_
        rw[HOS.out,HGT'.out]
    ·have ht:(bn s).take k=bn s:=List.take_of_length_le (by rw[HLN.out];omega)
     rw[ht]at HC HO;have HR:=hid (HEND.out HO.out);rw[←HC.out]at HR;clear ht HC HO HBAD HEND HGT HBD;by_cases hnl:4294967296≤n
     ·have HR':=hid (HR.out.trans (if_pos hnl))
      have hnz:(4294967296:Int)≤(n:Int):=by omega
      clear HR;go_wp2
      go_ret2;exact⟨HNR.out _ _ _ HR'.out rfl,rfl⟩
     ·have HR':=hid (HR.out.trans (if_neg hnl))
      have hnz:¬ (4294967296:Int)≤(n:Int):=by omega
      clear HR;go_wp2
      go_ret2;exact⟨HNR.out _ _ _ HR'.out rfl,rfl⟩
end Go.Proofs.YtkekkbciiohbkaaGreatDoor.F
