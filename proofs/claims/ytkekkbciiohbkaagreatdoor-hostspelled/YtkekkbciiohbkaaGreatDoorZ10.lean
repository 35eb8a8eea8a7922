/- Texts one behind the other: NSH NSI NNA. -/
import Derived.Test.YtkekkbciiohbkaaGreatDoorZ9
import Derived.Test.YtkekkbciiohbkaaGreatDoorZ8
import Derived.Test.YtkekkbciiohbkaaGreatDoorZ7
import Derived.Deep.Cut
set_option maxRecDepth 100000
set_option maxHeartbeats 16000000
set_option linter.unusedVariables false
set_option linter.unnecessarySimpa false
namespace Go.Proofs.YtkekkbciiohbkaaGreatDoor.N
open Go.RowKit
theorem ky{X1 X2 Y1 Y2 Z1 Z2:List Pt}(hX:Srt (X1++X2))(hY:Srt (Y1++Y2))(C1:∀ x∈X1,∀ y∈Y2,x.2≤y.2)(C2:∀ y∈Y1,∀ x∈X2,y.2<x.2)
  (s1:Srt Z1) (s2:Srt Z2) (t1:Stb (X1++Y1) Z1) (t2:Stb (X2++Y2) Z2):Srt (Z1++Z2)∧Stb ((X1++X2)++(Y1++Y2)) (Z1++Z2):=by
 have hx:=aQ.1 hX;have hy:=aQ.1 hY;refine⟨aQ.2 ⟨s1,s2,fun p hp q hq=>?_⟩,?_⟩
 ·have hp':=List.mem_append.1 (t1.perm.mem_iff.1 hp)
  have hq':=List.mem_append.1 (t2.perm.mem_iff.1 hq);rcases hp' with hp' | hp' <;> rcases hq' with hq' | hq'
  ·exact hx.2.2 p hp' q hq'
  ·exact C1 p hp' q hq'
  ·have:=C2 p hp' q hq';omega
  ·exact hy.2.2 p hp' q hq'
 ·have h1:=((Stb.refl X1).append (Stb.swap (X:=X2) (Y:=Y1) (fun p hp q hq=>by have:=C2 q hq p hp;omega))).append (Stb.refl Y2)
  have h2:Stb (X1++Y1++(X2++Y2)) (Z1++Z2):=t1.append t2;refine Stb.trans ?_ h2
  simpa using h1
theorem yk{a b:List Pt}(ha:Srt a)(hb:Srt b)(h:a=[]∨b=[]):Srt (a++b):=by
 rcases h with rfl | rfl
 ·simpa using hb
 ·simpa using ha
theorem wZ{X Y:List Pt}{a m e mid N s lo hi:Nat}(hx:a+X.length=m)(hy:m+Y.length=e)(hN:mid+m=N)(hX:Srt X)(hY:Srt Y)(hc:(lo=a∧hi=m)∨(lo+e=N∧hi=mid))(h1:lo≤s)(h2:s≤hi)
  (ha:a≤s) (hm:s≤m) (hd:s≤mid) (he:N≤s+e) (I1:s=lo∨cls X (s - 1 - a)≤cls Y (N - s - m)) (I2:s=hi∨cls Y (N - 1 - s - m)<cls X (s - a)) :
  ∃ X1 X2 Y1 Y2,X=X1++X2∧Y=Y1++Y2∧a+X1.length=s∧s+X2.length=m∧m+Y1.length=N - s∧N - s+Y2.length=e∧(∀ x∈X1,∀ y∈Y2,x.2≤y.2)∧(∀ y∈Y1,∀ x∈X2,y.2<x.2):=by
 refine⟨X.take (s - a),X.drop (s - a),Y.take (N - s - m),Y.drop (N - s - m),(List.take_append_drop _ _).symm,(List.take_append_drop _ _).symm,by rw[List.length_take];omega,by rw[List.length_drop];omega,by rw[List.length_take];omega,by rw[List.length_drop];omega,fun x hxm y hym=>?_,fun y hym x hxm=>?_⟩
 ·obtain⟨i,hi1,hi2,e1⟩:=dN hxm
  obtain⟨k,hk1,hk2,e2⟩:=dO hym;rcases I1 with h | h
  ·rcases hc with⟨hc1,hc2⟩ | ⟨hc1,hc2⟩ <;> omega
  ·have g1:=eH hX (show i≤s - 1 - a by omega) (by omega)
   have g2:=eH hY hk1 hk2;rw[e1,e2];omega
 ·obtain⟨i,hi1,hi2,e1⟩:=dO hxm
  obtain⟨k,hk1,hk2,e2⟩:=dN hym;rcases I2 with h | h
  ·rcases hc with⟨hc1,hc2⟩ | ⟨hc1,hc2⟩ <;> omega
  ·have g1:=eH hX hi1 hi2
   have g2:=eH hY (show k≤N - 1 - s - m by omega) (by omega);rw[e1,e2];omega
def tF(b o n:Nat)(A X Y C:List Pt)(W:World)(r:Ending)(W':World):Prop:=r=.returned (.tuple #[])∧∃ Z,Pts W' b o (A++Z++C)∧Chg b o n W W'∧Srt Z∧Stb (X++Y) Z
theorem BE(F b o cap n:Nat)(hsz:n≤1000000)
  (ih:∀(a m e:Nat) (A X Y C:List Pt) (W:World),A.length=a→a+X.length=m→m+Y.length=e→e+C.length=n→0<X.length→0<Y.length→Srt X→Srt Y→e - a<F→Pts W b o (A++X++Y++C) →
    Calls Tryz.prog 313 #[.slice (some ⟨b,o,none⟩) n cap,.int .i64 a,.int .i64 m,.int .i64 e,.func (.func 293) #[] #[]] W fun r W'=>tF b o n A X Y C W r W')
  (a m e:Nat) (A X Y C:List Pt) (W:World) (ha:A.length=a) (hx:a+X.length=m) (hy:m+Y.length=e) (hn:e+C.length=n) (hx1:1<X.length) (hy1:1<Y.length) (hX:Srt X) (hY:Srt Y) (hF:e - a=F) (hP:Pts W b o (A++X++Y++C)) :
  Calls Tryz.prog 313 #[.slice (some ⟨b,o,none⟩) n cap,.int .i64 a,.int .i64 m,.int .i64 e,.func (.func 293) #[] #[]] W fun r W'=>tF b o n A X Y C W r W':=by
 have ham:a+1<m:=by omega
 have hme:m+1<e:=by omega
 have hen:e≤n:=by omega
 have q1:((m:Int) - (a:Int)==1)=false:=by simp;omega
 have q2:((e:Int) - (m:Int)==1)=false:=by simp;omega
 obtain⟨mid,hmid,hm1,hm2⟩:∃ mid:Nat,((a:Int)+(e:Int)) / 2=(mid:Int)∧2 * mid≤a+e∧a+e≤2 * mid+1:=⟨(a+e) / 2,by omega,by omega,by omega⟩;obtain⟨N,hN,hN2⟩:∃ N:Nat,(mid:Int)+(m:Int)=(N:Int)∧mid+m=N:=⟨mid+m,by omega,rfl⟩;obtain⟨p,hp,hp2⟩:∃ p:Nat,(N:Int) - 1=(p:Int)∧p+1=N:=⟨N - 1,by omega,by omega⟩;have HN2:=hid hN2;have HP2:=hid hp2;have HIH:=hid ih;have HA:=hid ha;have HX:=hid hx;have HY:=hid hy;have HN:=hid hn;have HSX:=hid hX;have HSY:=hid hY;have HP:=hid hP;have HF:=hid hF;have hNn:N≤2000000:=by omega
 clear ha hx hy hn hP hX hY hF ih hN2 hp2 hx1 hy1;go_enter Tryz.func313,Tryz.ntmps313
 go_upto_if 140 with fail
 go_cut [20,21] from 138 (fun v20 v21 wc=>∃ lo hi:Nat,v20=.int .i64 lo∧v21=.int .i64 hi∧W=wc∧Hid ((lo=a∧hi=m)∨(lo+e=N∧hi=mid))∧a≤lo∧lo≤hi∧hi≤m∧hi≤mid∧N≤lo+e)
 case first =>
  by_cases hmm:mid<m
  ·have hz:(mid:Int)<(m:Int):=by omega
   have hz2:(N:Int) - (e:Int)=((N - e:Nat):Int):=by have:=HN2.out;omega
   go_wp2
   go_meet
   case rel=>exact⟨N - e,mid,by first | rfl | (congr 1),rfl,rfl,.inr ⟨by have:=HN2.out;omega,rfl⟩,by have:=HN2.out;omega,by have:=HN2.out;omega,by omega,Nat.le_refl _,by have:=HN2.out;omega⟩
  ·have hz:¬ (mid:Int)<(m:Int):=by omega
   go_wp2
   go_meet
   case rel=>exact⟨a,m,rfl,rfl,rfl,.inl ⟨rfl,rfl⟩,Nat.le_refl _,by omega,Nat.le_refl _,by omega,by have:=HN2.out;omega⟩
 case rest =>
  obtain⟨lo,hi,rfl,rfl,rfl,HC,hl1,hl2,hl3,hl4,hl5⟩:=hcut
  go_wp2_with fail
  go_loopw [20,21,23] (fun vs vr vc wr=>∃(s r:Nat),vs=.int .i64 s∧vr=.int .i64 r∧lo≤s∧s≤r∧r≤hi∧Below W.heap.size W wr∧Hid (s=lo∨cls X (s - 1 - a)≤cls Y (N - s - m))∧Hid (r=hi∨cls Y (N - 1 - r - m)<cls X (r - a)))
   (fun vs vr _ _=>(intOf vr).toNat - (intOf vs).toNat)
  case atStart=>exact⟨lo,hi,rfl,rfl,Nat.le_refl _,hl2,Nat.le_refl _,Below.refl _ _,.inl rfl,.inl rfl⟩
  case round =>
   obtain⟨s,r,rfl,rfl,hs1,hsr,hr1,hB,I1,I2⟩:=hrel;by_cases hlt:s<r
   ·have hltz:(s:Int)<(r:Int):=by omega
    obtain⟨c,hc,hc1,hc2⟩:∃ c:Nat,((s:Int)+(r:Int)) / 2=(c:Int)∧s≤c∧c<r:=⟨(s+r) / 2,by omega,by omega,by omega⟩;obtain⟨d,hd,hd2⟩:∃ d:Nat,(p:Int) - (c:Int)=(d:Int)∧d+c+1=N:=⟨p - c,by have:=HP2.out;have:=HN2.out;omega,by have:=HP2.out;have:=HN2.out;omega⟩;have HD2:=hid hd2;have hdm:m≤d:=by have:=HN2.out;omega
    have hde:d<e:=by have:=HN2.out;omega
    clear hd2;have hPr:Pts wr b o (A++X++Y++C):=HP.out.below hB HP.out.lt;have hlen:(A++X++Y++C).length=n:=by have:=HA.out;have:=HX.out;have:=HY.out;have:=HN.out;simp;omega
    have hcx:c - a<X.length:=by have:=HX.out;omega
    have hdy:d - m<Y.length:=by have:=HY.out;omega
    have e0:=hPr.c0 c (by omega);have e1:=hPr.c1 c (by omega);have e2:=hPr.c0 d (by omega);have e3:=hPr.c1 d (by omega)
    have eg:(A++X++Y++C)[c]?.getD z2=X[c - a]?.getD z2:=by
     rw[show A++X++Y++C=A++X++(Y++C) by simp,show c=a+(c - a) by omega,pF _ _ _ a (c - a) HA.out hcx]
     congr 2;omega
    have eh:(A++X++Y++C)[d]?.getD z2=Y[d - m]?.getD z2:=by
     rw[show d=m+(d - m) by omega,pF _ _ _ m (d - m) (by have:=HA.out;have:=HX.out;simp;omega) hdy]
     congr 2;omega
    rw[eg]at e0 e1;rw[eh]at e2 e3;have HCX:Hid (cls X (c - a)=(X[c - a]?.getD z2).2):=rfl;have HCY:Hid (cls Y (d - m)=(Y[d - m]?.getD z2).2):=rfl
    generalize X[c - a]?.getD z2=x at e0 e1 HCX
    generalize Y[d - m]?.getD z2=y at e2 e3 HCY
    have hlb:b<wr.heap.size:=hPr.lt;have hz1:(c:Int)<(n:Int):=by omega
    have hz2:(d:Int)<(n:Int):=by omega
    have hne:Nonempty (aE wr):=⟨⟨wr,Below.refl _ _⟩⟩;have x0:∀ u:aE wr,u.W.cell? ⟨b,o+c * 2,none⟩=some (.int .i32 x.1):=fun u=>(u.h.cell (p:=⟨b,o+c * 2,none⟩) hlb).trans e0
    have x1:∀ u:aE wr,u.W.cell? ⟨b,o+c * 2+1,none⟩=some (.int .u8 x.2):=fun u=>(u.h.cell (p:=⟨b,o+c * 2+1,none⟩) hlb).trans e1
    have x2:∀ u:aE wr,u.W.cell? ⟨b,o+d * 2,none⟩=some (.int .i32 y.1):=fun u=>(u.h.cell (p:=⟨b,o+d * 2,none⟩) hlb).trans e2
    have x3:∀ u:aE wr,u.W.cell? ⟨b,o+d * 2+1,none⟩=some (.int .u8 y.2):=fun u=>(u.h.cell (p:=⟨b,o+d * 2+1,none⟩) hlb).trans e3
    have hcall:Hid (∀ W:World,Calls Tryz.prog 293 #[.agg #[.int .i32 y.1,.int .u8 y.2],.agg #[.int .i32 x.1,.int .u8 x.2]] W fun e w'=>e=.returned (.int .i64 (iE y.2 x.2))∧Below W.heap.size W w'):=fun W=>eO y x W
    have hci:=jN y.2 x.2
    generalize iE y.2 x.2=ci at hci hcall
    have HB:=hid hB;clear e0 e1 e2 e3 eg eh hPr hB;by_cases hxp:y.2<x.2
    ·have hci':ci<0:=hci.2 hxp
     clear hci
     go_wp2_with fail;refine ay (by kernel_rfl) (by kernel_rfl) ?_
     repeat (go_big_quiet_step ((go_at_call 293;exact aE.call _ (hcall.out _))))
     refine wpQuiet_nil ?_;rintro _ ⟨u,rfl⟩
     have HBu:=hid (HB.out.trans (u.h.mono HB.out.size));clear x0 x1 x2 x3 hne
     generalize u.W=wu at *
     go_wp2
     go_roundw
     case rel=>exact⟨s,c,rfl,rfl,hs1,hc1,by omega,HBu.out,I1,.inr (by rw[show N - 1 - c - m=d - m by have:=HD2.out;omega,HCX.out,HCY.out];exact hxp)⟩
     case measure=>simp[intOf] <;> omega
    ·have hci':¬ ci<0:=fun h=>hxp (hci.1 h)
     have hcd:decide (ci<0)=false:=by simpa using hci'
     clear hci
     go_wp2_with fail;refine ay (by kernel_rfl) (by kernel_rfl) ?_
     repeat (go_big_quiet_step ((go_at_call 293;exact aE.call _ (hcall.out _))))
     refine wpQuiet_nil ?_;rintro _ ⟨u,rfl⟩
     have HBu:=hid (HB.out.trans (u.h.mono HB.out.size));clear x0 x1 x2 x3 hne
     generalize u.W=wu at *
     go_wp2
     go_roundw
     case rel=>exact⟨c+1,r,by go_num,rfl,by omega,by omega,hr1,HBu.out,.inr (by rw[show c+1 - 1 - a=c - a by omega,show N - (c+1) - m=d - m by have:=HD2.out;omega,HCX.out,HCY.out];omega),I2⟩
     case measure=>simp[intOf] <;> omega
   ·have hltz:¬ (s:Int)<(r:Int):=by omega
    obtain rfl:s=r:=by omega
    obtain⟨X1,X2,Y1,Y2,hXX,hYY,l1,l2,l3,l4,C1,C2⟩:=wZ HX.out HY.out HN2.out HSX.out HSY.out HC.out hs1 hr1 (by omega) (by omega) (by omega) (by omega) I1.out I2.out;obtain⟨t,ht,ht2⟩:∃ t:Nat,(N:Int) - (s:Int)=(t:Int)∧t+s=N:=⟨N - s,by have:=HN2.out;omega,by have:=HN2.out;omega⟩;have hts:N - s=t:=by omega
    rw[hts]at l3 l4;have HT2:=hid ht2;have L1:=hid l1;have L2:=hid l2;have L3:=hid l3;have L4:=hid l4;have b1:a≤s:=by omega
    have b2:s≤m:=by omega
    have b3:m≤t:=by omega
    have b4:t≤e:=by omega
    have b5:s≤mid:=by omega
    have b6:mid≤t:=by have:=HN2.out;omega
    have HXX:=hid hXX;have HYY:=hid hYY;have HC1:=hid C1;have HC2:=hid C2;have HSp:Hid (Srt (X1++X2)∧Srt (Y1++Y2)):=⟨by rw[←hXX];exact HSX.out,by rw[←hYY];exact HSY.out⟩
    have hPr:Hid (Pts wr b o (A++X1++X2++Y1++Y2++C)):=by
     have:=HP.out.below hB HP.out.lt;show Pts _ _ _ _
     rw[hXX,hYY]at this;simpa using this
    have hCr:Hid (Chg b o n W wr):=(Chg.refl HP.out n).below hB;clear hXX hYY l1 l2 l3 l4 C1 C2 ht2 hts hB I1 I2 hltz
    go_upto_region 39 with fail
    go_cut [185] from 178 (fun v wc=>v=.bool (decide (s<m∧m<t))∧wr=wc)
    case first =>
     by_cases g1:s<m
     ·have g1z:(s:Int)<(m:Int):=by omega
      have g1d:decide ((s:Int)<(m:Int))=true:=decide_eq_true g1z;by_cases g2:m<t
      ·have g2z:(m:Int)<(t:Int):=by omega
       have g2d:decide ((m:Int)<(t:Int))=true:=decide_eq_true g2z;have GG:Hid (decide (s<m∧m<t)=true):=decide_eq_true ⟨g1,g2⟩;go_wp2
       go_meet
       case rel=>exact⟨by rw[GG.out],rfl⟩
      ·have g2d:decide ((m:Int)<(t:Int))=false:=decide_eq_false (by omega)
       have GG:Hid (decide (s<m∧m<t)=false):=decide_eq_false (fun h=>g2 h.2);go_wp2
       go_meet
       case rel=>exact⟨by rw[GG.out],rfl⟩
     ·have g1d:decide ((s:Int)<(m:Int))=false:=decide_eq_false (by omega)
      have GG:Hid (decide (s<m∧m<t)=false):=decide_eq_false (fun h=>g1 h.1);go_wp2
      go_meet
      case rel=>exact⟨by rw[GG.out],rfl⟩
    case rest =>
     obtain⟨rfl,rfl⟩:=hcut;obtain⟨B,hB⟩:∃ B:Bool,B=decide (s<m∧m<t):=⟨_,rfl⟩;rw[←hB];have HB:=hid hB;clear hB
     go_upto_if 185 with fail
     go_cut [] from 178 (fun wc=>Hid (Pts wc b o (A++X1++Y1++X2++Y2++C))∧Hid (Chg b o n W wc))
     case first =>
      cases B with
      | true =>
       have hb:=of_decide_eq_true HB.out.symm;have hc:=sM b o cap n s m t (A++X1) X2 Y1 (Y2++C) (.func (.func 293) #[] #[]) wr (by have:=HA.out;have:=L1.out;simp;omega) L2.out L3.out (by have:=L4.out;have:=HN.out;simp;omega) (by have:=L2.out;omega) (by have:=L3.out;omega) hsz (by have:=hPr.out;simpa using this);have HCc:=hid hc;clear hc hb
       go_wp2_with fail;refine(show Calls _ _ _ _ _ from HCc.out).mono ?_;rintro r w2 ⟨rfl,hPn,hCn⟩
       go_wp2
       go_meet
       case rel=>exact⟨by show Pts _ _ _ _;simpa using hPn,hCr.out.trans hCn⟩
      | false =>
       have hb:=of_decide_eq_false HB.out.symm
       have hz:X2=[]∨Y1=[]:=by
        by_cases h:s<m
        ·exact .inr (List.length_eq_zero_iff.1 (by have:=L3.out;omega))
        ·exact .inl (List.length_eq_zero_iff.1 (by have:=L2.out;omega))
       have HPn:Hid (Pts wr b o (A++X1++Y1++X2++Y2++C)):=by
        show Pts _ _ _ _
        have:=hPr.out;rcases hz with hz | hz <;> rw[hz]at this ⊢ <;> simpa using this
       clear hb hz;go_wp2
       go_meet
       case rel=>exact⟨HPn,hCr⟩
     case rest =>
      obtain⟨HP1,HC1r⟩:=hcut;clear hPr hCr HB
      generalize wc=wr at *
      go_upto_region 41 with fail
      go_cut [199] from 192 (fun v wc=>v=.bool (decide (a<s∧s<mid))∧wr=wc)
      case first =>
       by_cases g1:a<s
       ·have g1z:(a:Int)<(s:Int):=by omega
        have g1d:decide ((a:Int)<(s:Int))=true:=decide_eq_true g1z;by_cases g2:s<mid
        ·have g2z:(s:Int)<(mid:Int):=by omega
         have g2d:decide ((s:Int)<(mid:Int))=true:=decide_eq_true g2z;have GG:Hid (decide (a<s∧s<mid)=true):=decide_eq_true ⟨g1,g2⟩;go_wp2
         go_meet
         case rel=>exact⟨by rw[GG.out],rfl⟩
        ·have g2d:decide ((s:Int)<(mid:Int))=false:=decide_eq_false (by omega)
         have GG:Hid (decide (a<s∧s<mid)=false):=decide_eq_false (fun h=>g2 h.2);go_wp2
         go_meet
         case rel=>exact⟨by rw[GG.out],rfl⟩
       ·have g1d:decide ((a:Int)<(s:Int))=false:=decide_eq_false (by omega)
        have GG:Hid (decide (a<s∧s<mid)=false):=decide_eq_false (fun h=>g1 h.1);go_wp2
        go_meet
        case rel=>exact⟨by rw[GG.out],rfl⟩
      case rest =>
       obtain⟨rfl,rfl⟩:=hcut;obtain⟨B,hB⟩:∃ B:Bool,B=decide (a<s∧s<mid):=⟨_,rfl⟩;rw[←hB];have HB:=hid hB;clear hB
       go_upto_if 199 with fail
       go_cut [] from 192 (fun wc=>∃ Z1,Hid (Pts wc b o (A++Z1++X2++Y2++C))∧Hid (Chg b o n W wc)∧Hid (Srt Z1)∧Hid (Stb (X1++Y1) Z1))
       case first =>
        cases B with
        | true =>
         have hb:=of_decide_eq_true HB.out.symm;have hc:=HIH.out a s mid A X1 Y1 (X2++Y2++C) wr HA.out L1.out (by have:=L3.out;have:=HT2.out;have:=HN2.out;omega) (by have:=L2.out;have:=L4.out;have:=HN.out;have:=HT2.out;have:=HN2.out;simp;omega) (by have:=L1.out;omega) (by have:=L3.out;have:=HT2.out;have:=HN2.out;omega) (aQ.1 HSp.out.1).1 (aQ.1 HSp.out.2).1 (by have:=HF.out;omega) (by have:=HP1.out;simpa using this);have HCc:=hid hc;clear hc hb
         go_wp2_with fail;refine(show Calls _ _ _ _ _ from HCc.out).mono ?_;rintro r w2 ⟨rfl,Z1,hPn,hCn,hS1,hT1⟩
         go_wp2
         go_meet
         case rel=>exact⟨Z1,by show Pts _ _ _ _;simpa using hPn,HC1r.out.trans hCn,hS1,hT1⟩
        | false =>
         have hb:=of_decide_eq_false HB.out.symm
         have hz:X1=[]∨Y1=[]:=by
          by_cases h:a<s
          ·exact .inr (List.length_eq_zero_iff.1 (by have:=L3.out;have:=HT2.out;have:=HN2.out;omega))
          ·exact .inl (List.length_eq_zero_iff.1 (by have:=L1.out;omega))
         have HPn:Hid (Pts wr b o (A++(X1++Y1)++X2++Y2++C)∧Srt (X1++Y1)):=by
          refine⟨by have:=HP1.out;simpa using this,?_⟩;exact yk (aQ.1 HSp.out.1).1 (aQ.1 HSp.out.2).1 hz
         clear hb hz;go_wp2
         go_meet
         case rel=>exact⟨X1++Y1,HPn.out.1,HC1r,HPn.out.2,Stb.refl _⟩
       case rest =>
        obtain⟨Z1,HP2r,HC2r,HS1,HT1⟩:=hcut;clear HP1 HC1r HB
        generalize wc=wr at *
        have HL1:Hid (Z1.length+a=mid):=by
         show _=_
         have:=HT1.out.len;have:=L1.out;have:=L3.out;have:=HT2.out;have:=HN2.out;simp at *;omega
        go_upto_region 43 with fail
        go_cut [213] from 206 (fun v wc=>v=.bool (decide (mid<t∧t<e))∧wr=wc)
        case first =>
         by_cases g1:mid<t
         ·have g1z:(mid:Int)<(t:Int):=by omega
          have g1d:decide ((mid:Int)<(t:Int))=true:=decide_eq_true g1z;by_cases g2:t<e
          ·have g2z:(t:Int)<(e:Int):=by omega
           have g2d:decide ((t:Int)<(e:Int))=true:=decide_eq_true g2z;have GG:Hid (decide (mid<t∧t<e)=true):=decide_eq_true ⟨g1,g2⟩;go_wp2
           go_meet
           case rel=>exact⟨by rw[GG.out],rfl⟩
          ·have g2d:decide ((t:Int)<(e:Int))=false:=decide_eq_false (by omega)
           have GG:Hid (decide (mid<t∧t<e)=false):=decide_eq_false (fun h=>g2 h.2);go_wp2
           go_meet
           case rel=>exact⟨by rw[GG.out],rfl⟩
         ·have g1d:decide ((mid:Int)<(t:Int))=false:=decide_eq_false (by omega)
          have GG:Hid (decide (mid<t∧t<e)=false):=decide_eq_false (fun h=>g1 h.1);go_wp2
          go_meet
          case rel=>exact⟨by rw[GG.out],rfl⟩
        case rest =>
         obtain⟨rfl,rfl⟩:=hcut;obtain⟨B,hB⟩:∃ B:Bool,B=decide (mid<t∧t<e):=⟨_,rfl⟩;rw[←hB];have HB:=hid hB;clear hB;cases B with
         | true =>
          have hb:=of_decide_eq_true HB.out.symm;have hc:=HIH.out mid t e (A++Z1) X2 Y2 C wr (by have:=HA.out;have:=HL1.out;simp;omega) (by have:=L2.out;have:=HT2.out;have:=HN2.out;omega) L4.out HN.out (by have:=L2.out;have:=HT2.out;have:=HN2.out;omega) (by have:=L4.out;omega) (aQ.1 HSp.out.1).2.1 (aQ.1 HSp.out.2).2.1 (by have:=HF.out;omega) (by have:=HP2r.out;simpa using this);have HCc:=hid hc;clear hc hb
          go_wp2_with fail;refine(show Calls _ _ _ _ _ from HCc.out).mono ?_;rintro r w2 ⟨rfl,Z2,hPn,hCn,hS2,hT2⟩
          go_wp2
          go_end0
          have hfin:=ky HSp.out.1 HSp.out.2 HC1.out HC2.out HS1.out hS2 HT1.out hT2;refine⟨rfl,Z1++Z2,by simpa using hPn,HC2r.out.trans hCn,hfin.1,?_⟩;rw[HXX.out,HYY.out];exact hfin.2
         | false =>
          have hb:=of_decide_eq_false HB.out.symm
          have hz:X2=[]∨Y2=[]:=by
           by_cases h:mid<t
           ·exact .inr (List.length_eq_zero_iff.1 (by have:=L4.out;omega))
           ·exact .inl (List.length_eq_zero_iff.1 (by have:=L2.out;have:=HT2.out;have:=HN2.out;omega))
          have HS2:Hid (Srt (X2++Y2)):=by
           exact yk (aQ.1 HSp.out.1).2.1 (aQ.1 HSp.out.2).2.1 hz
          clear hb hz;go_wp2
          go_end0
          have hfin:=ky HSp.out.1 HSp.out.2 HC1.out HC2.out HS1.out HS2.out HT1.out (Stb.refl _);refine⟨rfl,Z1++(X2++Y2),by have:=HP2r.out;simpa using this,HC2r.out,hfin.1,?_⟩;rw[HXX.out,HYY.out];exact hfin.2
theorem tQ(b o cap n:Nat)(hsz:n≤1000000):∀(F:Nat) (a m e:Nat) (A X Y C:List Pt) (W:World),A.length=a→a+X.length=m→m+Y.length=e→e+C.length=n→0<X.length→0<Y.length→Srt X→Srt Y→e - a<F→Pts W b o (A++X++Y++C) →
  Calls Tryz.prog 313 #[.slice (some ⟨b,o,none⟩) n cap,.int .i64 a,.int .i64 m,.int .i64 e,.func (.func 293) #[] #[]] W fun r W'=>tF b o n A X Y C W r W':=by
 intro F
 induction F with
 | zero=>intro a m e A X Y C W _ _ _ _ _ _ _ _ h;omega
 | succ F ih =>
  intro a m e A X Y C W ha hx hy hn hX0 hY0 hX hY hF hP
  by_cases h1:X.length=1
  ·obtain⟨x,rfl⟩:=List.length_eq_one_iff.1 h1
   exact ye b o cap n a m e A x Y C W ha (by simpa using hx) hy hn hY hsz (by simpa using hP)
  by_cases h2:Y.length=1
  ·obtain⟨y,rfl⟩:=List.length_eq_one_iff.1 h2
   exact vF b o cap n a m e A X y C W ha hx h1 (by simpa using hy) hn hX hsz (by simpa using hP)
  exact BE (e - a) b o cap n hsz (fun a' m' e' A' X' Y' C' W' q1 q2 q3 q4 q5 q6 q7 q8 q9 q10=>ih a' m' e' A' X' Y' C' W' q1 q2 q3 q4 q5 q6 q7 q8 (by omega) q10) a m e A X Y C W ha hx hy hn (by omega) (by omega) hX hY rfl hP
def Blk(s:Nat)(D:List (List Pt)):Prop:=∀ d∈D,d.length=s∧Srt d
theorem Blk.len{s:Nat}:∀ {D:List (List Pt)},Blk s D→D.flatten.length=s * D.length
 | [],_=>by simp
 | d::D,h=>by
  have h1:=(h d (by simp)).1;have h2:=Blk.len (D:=D) (fun x hx=>h x (by simp[hx]));simp only[List.flatten_cons,List.length_append,List.length_cons];rw[h1,h2,Nat.mul_add];omega
theorem Blk.snoc{s:Nat}{D:List (List Pt)}{d:List Pt}(h:Blk s D)(h1:d.length=s)(h2:Srt d):Blk s (D++[d]):=by
 intro x hx
 rcases List.mem_append.1 hx with hx | hx
 ·exact h x hx
 ·simp at hx;subst hx;exact⟨h1,h2⟩
theorem Blk.nil(s:Nat):Blk s []:=fun d hd=>by cases hd
theorem sf{s:Nat}{D:List (List Pt)}{F:List Pt}(h:Blk s D)(hF:Srt F)(hn:D.flatten.length+F.length≤s)(hs:0<s):Srt (D.flatten++F):=by
 have hl:=h.len
 match D,h,hl,hn with
 | [],_,_,_=>simpa using hF
 | [d],h,hl,hn =>
  have h1:=h d (by simp);have:F=[]:=List.length_eq_zero_iff.1 (by simp at hn;omega);rw[this];simpa using h1.2
 | d::d'::D,h,hl,hn =>
  have h1:=(h d (by simp)).1;have h2:=(h d' (by simp)).1;simp at hn;omega
theorem DZ{s:Nat}{D:List (List Pt)}{F:List Pt}(h:Blk s D)(hF:F.length<s)(hn:2 * s≤D.flatten.length+F.length):∃ X Y D',D=X::Y::D':=by
 have hl:=h.len
 match D,h,hl,hn with
 | [],_,_,hn=>simp at hn;omega
 | [d],h,hl,hn =>
  have h1:=(h d (by simp)).1;simp at hn;omega
 | d::d'::D,h,hl,hn=>exact⟨d,d',D,rfl⟩
theorem AL{s:Nat}{D:List (List Pt)}{F:List Pt}(h:Blk s D)(hn:D.flatten.length+F.length<2 * s):D=[]∨∃ X,D=[X]:=by
 have hl:=h.len
 match D,h,hl,hn with
 | [],_,_,hn=>exact .inl rfl
 | [d],h,hl,hn=>exact .inr ⟨d,rfl⟩
 | d::d'::D,h,hl,hn =>
  have h1:=(h d (by simp)).1;have h2:=(h d' (by simp)).1;simp at hn;omega
theorem sG(b o cap n:Nat)(l:List Pt)(W:World)(hn:l.length=n)(hsz:n≤100000)(hP:Pts W b o l):
  Calls Tryz.prog 306 #[.slice (some ⟨b,o,none⟩) n cap,.int .i64 n,.func (.func 293) #[] #[]] W fun r W'=>r=.returned (.tuple #[])∧Pts W' b o (cP l)∧Chg b o n W W':=by
 have HN:=hid hn;have HP:=hid hP
 have FIN:Hid (∀ W' l',Pts W' b o l'→Chg b o n W W'→Srt l'→Stb l l'→Pts W' b o (cP l)∧Chg b o n W W'):=fun W' l' h1 h2 h3 h4=>by
  rw[←zK h4 h3];exact⟨h1,h2⟩
 clear hn hP;go_enter Tryz.func306,Tryz.ntmps306
 go_wp2_with fail
 go_loopw [7,8] (fun v7 v8 wr=>∃(a:Nat) (D:List (List Pt)) (E:List Pt),v7=.int .i64 a∧v8=.int .i64 (a+20:Nat)∧a≤n∧Pts wr b o (D.flatten++E)∧Hid (D.flatten.length=a)∧Hid (Blk 20 D)∧Hid (Stb l (D.flatten++E))∧Chg b o n W wr)
  (fun v7 _ _=>n - (intOf v7).toNat)
 case atStart=>exact⟨0,[],l,rfl,rfl,Nat.zero_le _,by simpa using HP.out,rfl,Blk.nil _,(by show Stb _ _;simpa using Stb.refl l),Chg.refl HP.out n⟩
 case round =>
  obtain⟨a,D,E,rfl,rfl,han,hPr,HL,HB,HS,hCr⟩:=hrel;have HE:Hid (a+E.length=n):=by show _=_;have:=HS.out.len;have:=HL.out;have:=HN.out;simp at *;omega
  have HPr:=hid hPr;have HCr:=hid hCr;clear hPr hCr;by_cases hlt:a+20≤n
  ·have hz:(a:Int)+20≤(n:Int):=by omega
   obtain⟨M,C,hEM,hM⟩:∃ M C,E=M++C∧M.length=20:=⟨E.take 20,E.drop 20,(List.take_append_drop _ _).symm,by rw[List.length_take];have:=HE.out;omega⟩;have HEM:=hid hEM;have hc:=uI b o cap n a 20 D.flatten M C wr HL.out hM (by have:=HE.out;rw[hEM]at this;simp at this;omega) (by omega) (by have:=HPr.out;rw[hEM]at this;simpa using this);have HC:=hid hc;have HM:=hid hM;clear hc hEM hM
   go_wp2_with fail;refine(show Calls _ _ _ _ _ from HC.out).mono ?_;rintro r w2 ⟨rfl,M',hPn,hCn,hSn,hTn⟩
   go_wp2
   go_roundw
   case rel =>
    refine⟨a+20,D++[M'],C,rfl,by go_num,hlt,?_,?_,HB.out.snoc (by rw[hTn.len];exact HM.out) hSn,?_,HCr.out.trans hCn⟩
    ·simpa using hPn
    ·show _=_
     have h1:=HL.out;have h2:=hTn.len;have h3:=HM.out;simp at h1 ⊢;omega
    ·show Stb _ _
     refine HS.out.trans ?_;rw[HEM.out];have:=((Stb.refl D.flatten).append hTn).append (Stb.refl C)
     simpa using this
   case measure=>simp[intOf] <;> omega
  ·have hz:¬ (a:Int)+20≤(n:Int):=by omega
   have hc:=uI b o cap n a E.length D.flatten E [] wr HL.out rfl (by have:=HE.out;simp;omega) (by omega) (by have:=HPr.out;simpa using this);rw[HE.out]at hc;have HC:=hid hc;clear hc
   go_wp2_with fail;refine(show Calls _ _ _ _ _ from HC.out).mono ?_;rintro r w2 ⟨rfl,F0,hPn,hCn,hSn,hTn⟩
   have HP2:Hid (Pts w2 b o (D.flatten++F0)):=by show Pts _ _ _ _;simpa using hPn
   have HC2:=hid (HCr.out.trans hCn);have HS2:Hid (Stb l (D.flatten++F0)):=HS.out.trans ((Stb.refl _).append hTn);have HF2:Hid (F0.length<20):=by show _<_;rw[hTn.len];have:=HE.out;omega
   have HSF:=hid hSn;clear hPn hCn hSn hTn HS HPr HCr HC
   go_wp2_with fail
   go_loopw [6,7,8,9] (fun v6 v7 v8 v9 wr=>∃(s:Nat) (D:List (List Pt)) (F:List Pt),v6=.int .i64 s∧0<s∧s≤300000∧Pts wr b o (D.flatten++F)∧Hid (Blk s D)∧Hid (F.length<s)∧Hid (Srt F)∧Hid (Stb l (D.flatten++F))∧Chg b o n W wr)
    (fun v6 _ _ _ _=>n - (intOf v6).toNat)
   case atStart=>exact⟨20,D,F0,rfl,by omega,by omega,HP2.out,HB,HF2,HSF,HS2,HC2.out⟩
   case round =>
    obtain⟨s,D,F,rfl,hs0,hs1,hPr,HB,HF,HSF,HS,hCr⟩:=hrel;have HLn:Hid (D.flatten.length+F.length=n):=by show _=_;have:=HS.out.len;have:=HN.out;simp at *;omega
    by_cases hsn:s<n
    ·have hz2:(s:Int)<(n:Int):=by omega
     obtain⟨t,ht1,ht2,ht3⟩:∃ t:Nat,2 * (s:Int)=(t:Int)∧(s:Int) * 2=(t:Int)∧2 * s=t:=⟨2 * s,by omega,by omega,rfl⟩;have HT:=hid ht3;have ht4:t≤200000:=by omega
     have ht5:s<t:=by omega
     clear ht3;have HPr:=hid hPr;have HCr:=hid hCr;clear hPr hCr
     go_wp2_with fail
     go_loopw [7,8] (fun v7 v8 wr=>∃(a:Nat) (E D':List (List Pt)),v7=.int .i64 a∧v8=.int .i64 (a+t:Nat)∧a≤n∧Pts wr b o (E.flatten++(D'.flatten++F))∧Hid (E.flatten.length=a)∧Hid (Blk t E)∧Hid (Blk s D')∧Hid (Stb l (E.flatten++(D'.flatten++F)))∧Chg b o n W wr)
      (fun v7 _ _=>n - (intOf v7).toNat)
     case atStart=>exact⟨0,[],D,rfl,by first | rfl | (congr 1;omega),Nat.zero_le _,by simpa using HPr.out,rfl,Blk.nil _,HB,(by show Stb _ _;simpa using HS.out),HCr.out⟩
     case round =>
      obtain⟨a,E,D',rfl,rfl,han,hPr,HL,HBE,HBD,HS,hCr⟩:=hrel;have HE:Hid (a+(D'.flatten.length+F.length)=n):=by show _=_;have:=HS.out.len;have:=HL.out;have:=HN.out;simp at *;omega
      have HPr:=hid hPr;have HCr:=hid hCr;clear hPr hCr;by_cases hlt:a+t≤n
      ·have hz:(a:Int)+(t:Int)≤(n:Int):=by omega
       obtain⟨X,Y,D2,hD⟩:=DZ HBD.out HF.out (by have:=HT.out;have:=HE.out;omega);have hX:=HBD.out X (by rw[hD];simp);have hY:=HBD.out Y (by rw[hD];simp);have HBD2:Hid (Blk s D2):=fun d hd=>HBD.out d (by rw[hD];simp[hd])
       have hc:=tQ b o cap n (by omega) (n+1) a (a+s) (a+t) E.flatten X Y (D2.flatten++F) wr HL.out (by omega) (by have:=HT.out;omega) (by have h1:=HE.out;have:=HT.out;rw[hD]at h1;simp at h1 ⊢;omega) (by omega) (by omega) hX.2 hY.2 (by omega) (by have:=HPr.out;rw[hD]at this;simpa using this);have HC:=hid hc;have HD:=hid hD;have HXY:Hid (X.length=s∧Y.length=s):=⟨hX.1,hY.1⟩;clear hc hD hX hY
       go_wp2_with fail;refine(show Calls _ _ _ _ _ from HC.out).mono ?_;rintro r w3 ⟨rfl,Z,hPn,hCn,hSn,hTn⟩
       go_wp2
       go_roundw
       case rel =>
        refine⟨a+t,E++[Z],D2,rfl,by go_num,hlt,?_,?_,HBE.out.snoc (by rw[hTn.len];have:=HXY.out;have:=HT.out;simp;omega) hSn,HBD2,?_,HCr.out.trans hCn⟩
        ·simpa using hPn
        ·show _=_
         have h1:=HL.out;have h2:=hTn.len;have h3:=HXY.out;have:=HT.out;simp at h1 h2 ⊢;omega
        ·show Stb _ _
         refine HS.out.trans ?_;rw[HD.out];have:=((Stb.refl E.flatten).append hTn).append (Stb.refl (D2.flatten++F))
         simpa using this
       case measure=>simp[intOf] <;> omega
      ·have hz:¬ (a:Int)+(t:Int)≤(n:Int):=by omega
       by_cases hm:a+s<n
       ·have hzm:(a:Int)+(s:Int)<(n:Int):=by omega
        obtain⟨X,hD⟩:∃ X,D'=[X]:=by
         rcases AL (F:=F) HBD.out (by have:=HE.out;have:=HT.out;omega) with h | h
         ·have h1:=HE.out;have:=HF.out;rw[h]at h1;simp at h1;omega
         ·exact h
        have hX:=HBD.out X (by rw[hD];simp);have hc:=tQ b o cap n (by omega) (n+1) a (a+s) n E.flatten X F [] wr HL.out (by omega) (by have h1:=HE.out;rw[hD]at h1;simp at h1;omega) (by simp) (by omega) (by have h1:=HE.out;rw[hD]at h1;simp at h1;omega) hX.2 HSF.out (by omega) (by have:=HPr.out;rw[hD]at this;simpa using this);have HC:=hid hc;have HD:=hid hD;have HXl:=hid hX.1;clear hc hD hX
        go_wp2_with fail;refine(show Calls _ _ _ _ _ from HC.out).mono ?_;rintro r w3 ⟨rfl,Z,hPn,hCn,hSn,hTn⟩
        go_wp2
        go_roundw
        case rel =>
         refine⟨t,E,Z,rfl,by omega,by omega,by simpa using hPn,HBE,?_,hSn,?_,HCr.out.trans hCn⟩
         ·show _<_
          rw[hTn.len];have:=HXl.out;have:=HT.out;have:=HF.out;simp;omega
         ·show Stb _ _
          refine HS.out.trans ?_;rw[HD.out];have:=(Stb.refl E.flatten).append hTn
          simpa using this
        case measure=>simp[intOf] <;> omega
       ·have hzm:¬ (a:Int)+(s:Int)<(n:Int):=by omega
        have HG:Hid (∃ G,D'.flatten++F=G∧Srt G∧G.length<t):=by
         refine⟨_,rfl,?_,?_⟩
         ·exact sf HBD.out HSF.out (by have:=HE.out;omega) hs0
         ·have:=HE.out;have:=HT.out;rw[List.length_append];omega
        go_wp2
        go_roundw
        case rel =>
         obtain⟨G,hG1,hG2,hG3⟩:=HG.out;have h1:=HPr.out;have h2:=HS.out;rw[hG1]at h1 h2;exact⟨t,E,G,rfl,by omega,by omega,h1,HBE,hG3,hG2,h2,HCr.out⟩
        case measure=>simp[intOf] <;> omega
    ·have hz2:¬ (s:Int)<(n:Int):=by omega
     have HR:=hid (FIN.out wr _ hPr hCr (sf HB.out HSF.out (by have:=HLn.out;omega) hs0) HS.out);go_wp2
     go_end0
     exact⟨rfl,HR.out.1,HR.out.2⟩
def cl(r:Int):Int:=(D.fnd r).2.2.2.2.2.1
def pt(r:Int):Pt:=(r,cl r)
def sE:Nat→Int→Bool
 | 0,r=>(D.dcp r).isEmpty
 | k+1,r=>(D.dcp r).all (sE k)
def fdn:Nat→Int→List Int
 | 0,r=>[r]
 | k+1,r=>if (D.dcp r).isEmpty then [r] else (D.dcp r).flatMap (fdn k)
def fd(r:Int):List Int:=fdn 5 r
def keys:List Int:=[8486,8490,8491]++D.prs.map (·.1)
theorem fQ{r:Int}(h:(D.dcp r).isEmpty=false):r∈keys:=by
 unfold D.dcp at h
 by_cases hs:D.sgl r≠0
 ·unfold keys
  rw[List.mem_append];refine .inl ?_;unfold D.sgl at hs
  by_cases h1:r=8486
  ·simp[h1]
  by_cases h2:r=8490
  ·simp[h2]
  by_cases h3:r=8491
  ·simp[h3]
  have e1:(r==8486)=false:=by simpa using h1
  have e2:(r==8490)=false:=by simpa using h2
  have e3:(r==8491)=false:=by simpa using h3
  exact absurd (by simp[List.lookup,e1,e2,e3]) hs
 ·rw[if_neg hs]at h
  cases he:D.prs.find? (fun x=>x.1==r) with
  | none=>rw[he]at h;simp at h
  | some p =>
   unfold keys;rw[List.mem_append];exact .inr (List.mem_map.2 ⟨p,List.mem_of_find?_eq_some he,by simpa using List.find?_some he⟩)
theorem CX:(keys.all fun r=>sE 4 r&&decide (fdn 5 r=(D.dcp r).flatMap (fdn 5))&&decide (cl r=0)&&(fd r).all (fun c=>(D.dcp c).isEmpty)&&decide (cl ((fd r).headD 0)=0)&&decide ((fd r).length≤3)&&!(fd r).isEmpty)=true:=by kernel_rfl
theorem jx{r:Int}(h:r∈keys):sE 4 r=true∧fd r=(D.dcp r).flatMap fd∧cl r=0∧(∀ c∈fd r,D.dcp c=[])∧cl ((fd r).headD 0)=0∧(fd r).length≤3∧fd r≠[]:=by
 have:=List.all_eq_true.1 CX r h;simp only[Bool.and_eq_true,decide_eq_true_eq,List.all_eq_true,Bool.not_eq_true',List.isEmpty_iff,List.isEmpty_eq_false_iff]at this;obtain⟨⟨⟨⟨⟨⟨h1,h2⟩,h3⟩,h4⟩,h5⟩,h6⟩,h7⟩:=this;exact⟨h1,h2,h3,h4,h5,h6,h7⟩
theorem Hc(r:Int):sE 4 r=true:=by
 cases h:(D.dcp r).isEmpty with
 | true =>
      have:D.dcp r=[]:=by simpa using h
      show(D.dcp r).all (sE 3)=true
      rw[this];rfl
 | false=>exact(jx (fQ h)).1
theorem kd{r:Int}(h:D.dcp r=[]):fd r=[r]:=by
 show(if (D.dcp r).isEmpty then [r] else _)=[r]
 rw[h];rfl
theorem Dm{r:Int}(h:D.dcp r≠[]):fd r=(D.dcp r).flatMap fd:=(jx (fQ (by simpa using h))).2.1
theorem Af(r:Int):1≤(fd r).length∧(fd r).length≤3:=by
 by_cases h:D.dcp r=[]
 ·rw[kd h];simp
 ·have:=jx (fQ (by simpa using h))
  exact⟨by have:=this.2.2.2.2.2.2;cases e:fd r with
    | nil=>exact absurd e this
    | cons a l=>simp,this.2.2.2.2.2.1⟩
theorem Dl{r:Int}(h:cl r=0):cl ((fd r).headD 0)=0:=by
 by_cases h1:D.dcp r=[]
 ·rw[kd h1];exact h
 ·exact(jx (fQ (by simpa using h1))).2.2.2.2.1
theorem uN(l:List Int):(l.flatMap fd).length≤l.length * 3:=by
 induction l with
 | nil=>simp
 | cons a l ih=>rw[List.flatMap_cons,List.length_append,List.length_cons];have:=(Af a).2;omega
end Go.Proofs.YtkekkbciiohbkaaGreatDoor.N
