/- Texts one behind the other: NSE NSF NSG. -/
import Derived.Test.YtkekkbciiohbkaaGreatDoorZ8
set_option maxRecDepth 100000
set_option maxHeartbeats 16000000
set_option linter.unusedVariables false
set_option linter.unnecessarySimpa false
namespace Go.Proofs.YtkekkbciiohbkaaGreatDoor.N
open Go.RowKit
theorem De(U:List Pt)(x:Pt)(V:List Pt)(y:Pt)(Z:List Pt)(j:Nat)(h:U.length+1+V.length=j):(U++x::(V++y::Z))[j]?.getD z2=y:=by
 have:U++x::(V++y::Z)=(U++x::V)++y::Z:=by simp
 rw[this];exact dQ _ _ _ _ (by simp;omega)
theorem yf(U:List Pt)(x:Pt)(V:List Pt)(y:Pt)(Z:List Pt)(i j:Nat)(hi:U.length=i)(h:U.length+1+V.length=j):((U++x::(V++y::Z)).set i y).set j x=U++y::(V++x::Z):=by
 have e1:(U++x::(V++y::Z)).set i y=(U++y::V)++y::Z:=by subst hi;simp
 have e2:(U++y::V).length=j:=by simp;omega
 rw[e1,←e2];simp
theorem eW(b o cap n a c m:Nat)(A X B Y C:List Pt)(f:Value)(W:World)(ha:A.length=a)(hx:X.length=m)(hy:Y.length=m)(hc:a+m+B.length=c)(hn:c+m+C.length=n)(hsz:n≤1000000)(hP:Pts W b o (A++X++B++Y++C)):
  Calls Tryz.prog 317 #[.slice (some ⟨b,o,none⟩) n cap,.int .i64 a,.int .i64 c,.int .i64 m,f] W fun e W'=>e=.returned (.tuple #[])∧Pts W' b o (A++Y++B++X++C)∧Chg b o n W W':=by
 have hac:a+m≤c:=by omega
 have hcm:c+m≤n:=by omega
 have HA:=hid ha;have HX:=hid hx;have HY:=hid hy;have HC:=hid hc;have HN:=hid hn;have HP:=hid hP;clear ha hx hy hc hn hP;go_enter Tryz.func317,Tryz.ntmps317
 go_wp2_with fail
 go_loopw [10] (fun i wr=>∃(k:Nat),k≤m∧i=.int .i64 k∧Pts wr b o (A++(Y.take k++X.drop k)++B++(X.take k++Y.drop k)++C)∧Chg b o n W wr)
  (fun i _=>m - (intOf i).toNat)
 case atStart=>exact⟨0,Nat.zero_le _,rfl,by simpa using HP.out,Chg.refl HP.out n⟩
 case round =>
  obtain⟨k,hk,rfl,hPr,hCr⟩:=hrel;by_cases hlt:k<m
  ·have hltz:(k:Int)<(m:Int):=by omega
   have hkx:k<X.length:=by rw[HX.out];exact hlt
   have hky:k<Y.length:=by rw[HY.out];exact hlt
   obtain⟨x,hxe⟩:∃ x,X[k]=x:=⟨_,rfl⟩;obtain⟨y,hye⟩:∃ y,Y[k]=y:=⟨_,rfl⟩;have dx:X.drop k=x::X.drop (k+1):=by rw[List.drop_eq_getElem_cons hkx,hxe]
   have dy:Y.drop k=y::Y.drop (k+1):=by rw[List.drop_eq_getElem_cons hky,hye]
   have tx:X.take (k+1)=X.take k++[x]:=by rw[List.take_succ_eq_append_getElem hkx,hxe]
   have ty:Y.take (k+1)=Y.take k++[y]:=by rw[List.take_succ_eq_append_getElem hky,hye]
   obtain⟨U,hU⟩:∃ U,U=A++Y.take k:=⟨_,rfl⟩;obtain⟨V,hV⟩:∃ V,V=X.drop (k+1)++B++X.take k:=⟨_,rfl⟩;obtain⟨Z,hZ⟩:∃ Z,Z=Y.drop (k+1)++C:=⟨_,rfl⟩;have e1:A++(Y.take k++X.drop k)++B++(X.take k++Y.drop k)++C=U++x::(V++y::Z):=by rw[hU,hV,hZ,dx,dy];simp
   have e2:A++(Y.take (k+1)++X.drop (k+1))++B++(X.take (k+1)++Y.drop (k+1))++C=U++y::(V++x::Z):=by rw[hU,hV,hZ,tx,ty];simp
   have lU:U.length=a+k:=by rw[hU];have:=HA.out;have:=HY.out;simp;omega
   have lV:U.length+1+V.length=c+k:=by rw[lU,hV];have:=HX.out;have:=HC.out;simp;omega
   have lZ:(U++x::(V++y::Z)).length=n:=by rw[hU,hV,hZ];have:=HX.out;have:=HC.out;have:=HN.out;have:=HY.out;have:=HA.out;simp;omega
   rw[e1]at hPr;have HE2:=hid e2;clear dx dy tx ty e1 e2 hU hV hZ hxe hye hkx hky;have c0:=hPr.c0 (a+k) (by omega);have c1:=hPr.c1 (a+k) (by omega);have c2:=hPr.c0 (c+k) (by omega);have c3:=hPr.c1 (c+k) (by omega);rw[dQ _ _ _ _ lU]at c0 c1;rw[De _ _ _ _ _ _ lV]at c2 c3;have f0:wr.frozen? ⟨b,o+(a+k) * 2,none⟩=false:=hPr.fr _;have f1:wr.frozen? ⟨b,o+(a+k) * 2+1,none⟩=false:=hPr.fr _;have f2:wr.frozen? ⟨b,o+(c+k) * 2,none⟩=false:=hPr.fr _;have f3:wr.frozen? ⟨b,o+(c+k) * 2+1,none⟩=false:=hPr.fr _;have z1:(a:Int)+(k:Int)<(n:Int):=by omega
   have z2:(c:Int)+(k:Int)<(n:Int):=by omega
   have z3:(0:Int)≤(a:Int)+(k:Int):=by omega
   have z4:(0:Int)≤(c:Int)+(k:Int):=by omega
   have z5:((a:Int)+(k:Int)).toNat=a+k:=by omega
   have z6:((c:Int)+(k:Int)).toNat=c+k:=by omega
   have z7:a+k≠c+k:=by omega
   have HPr:=hid hPr;have HCr:=hid hCr;clear hPr hCr
   go_wp2_with fail
   go_region
   have hPn:=(HPr.out.set (a+k) y (by omega)).set (c+k) x (by rw[List.length_set];omega);rw[yf _ _ _ _ _ _ _ lU lV]at hPn;have hCn:=((((HCr.out.set (o+(a+k) * 2) (.int .i32 y.1) (by omega) (by omega)).set (o+(a+k) * 2+1) (.int .u8 y.2) (by omega) (by omega)).set (o+(c+k) * 2) (.int .i32 x.1) (by omega) (by omega)).set (o+(c+k) * 2+1) (.int .u8 x.2) (by omega) (by omega)).drew;have HPn:=hid hPn.drew;have HCn:=hid hCn;clear hPn hCn HPr HCr c0 c1 c2 c3 f0 f1 f2 f3
   generalize World.drew _=wn at HPn HCn ⊢
   go_wp2
   go_roundw
   case rel=>exact⟨k+1,by omega,by go_num,by rw[HE2.out];exact HPn.out,HCn.out⟩
   case measure=>simp[intOf];omega
  ·have hltz:¬ (k:Int)<(m:Int):=by omega
   have hk:k=m:=by omega
   have HE:Hid (X.drop k=[]∧X.take k=X∧Y.drop k=[]∧Y.take k=Y):=by
    have h1:X.length≤k:=by rw[HX.out];omega
    have h2:Y.length≤k:=by rw[HY.out];omega
    exact⟨List.drop_of_length_le h1,List.take_of_length_le h1,List.drop_of_length_le h2,List.take_of_length_le h2⟩
   go_wp2
   go_end0
   refine⟨rfl,?_,hCr⟩;rw[HE.out.1,HE.out.2.1,HE.out.2.2.1,HE.out.2.2.2]at hPr
   simpa using hPr
theorem sM(b o cap n a m e:Nat)(A X Y C:List Pt)(f:Value)(W:World)(ha:A.length=a)(hx:a+X.length=m)(hy:m+Y.length=e)(hn:e+C.length=n)(hX:0<X.length)(hY:0<Y.length)(hsz:n≤1000000)(hP:Pts W b o (A++X++Y++C)):
  Calls Tryz.prog 316 #[.slice (some ⟨b,o,none⟩) n cap,.int .i64 a,.int .i64 m,.int .i64 e,f] W fun r W'=>r=.returned (.tuple #[])∧Pts W' b o (A++Y++X++C)∧Chg b o n W W':=by
 have ham:a<m:=by omega
 have hme:m<e:=by omega
 have hen:e≤n:=by omega
 have HA:=hid ha;have HX:=hid hx;have HY:=hid hy;have HN:=hid hn;have HP:=hid hP;have HXp:=hid hX;have HYp:=hid hY;clear ha hx hy hn hP hX hY;have q1:((m:Int) - (a:Int))=((m - a:Nat):Int):=by omega
 have q2:((e:Int) - (m:Int))=((e - m:Nat):Int):=by omega
 go_enter Tryz.func316,Tryz.ntmps316
 go_wp2_with fail
 go_loopw [10,11] (fun vi vj wr=>∃(i j:Nat) (L P Q R:List Pt),vi=.int .i64 i∧vj=.int .i64 j∧0<i∧0<j∧i≤m∧m+j≤n∧Pts wr b o (A++L++P++Q++R++C)∧Hid (a+L.length+i=m)∧Hid (P.length=i)∧Hid (Q.length=j)∧Hid (m+j+R.length=e)∧Hid (Y++X=L++Q++P++R)∧Chg b o n W wr)
  (fun vi vj _=>(intOf vi).toNat+(intOf vj).toNat)
 case atStart =>
  refine⟨m - a,e - m,[],X,Y,[],by first | rfl | (congr 1),by first | rfl | (congr 1),by omega,by omega,by omega,by omega,by simpa using HP.out,?_,?_,?_,?_,?_,Chg.refl HP.out n⟩
  ·show _=_
   simp;omega
  ·show _=_
   have:=HX.out;omega
  ·show _=_
   have:=HY.out;omega
  ·show _=_
   simp;omega
  ·show _=_
   simp
 case round =>
  obtain⟨i,j,L,P,Q,R,rfl,rfl,hi0,hj0,him,hjn,hPr,H1,H2,H3,H4,H5,hCr⟩:=hrel;have w1:((m:Int) - (i:Int))=((m - i:Nat):Int):=by omega
  have w2:((m:Int)+(j:Int) - (i:Int))=((m+j - i:Nat):Int):=by omega
  have HPr:=hid hPr;have HCr:=hid hCr;clear hPr hCr;by_cases hij:i=j
  ·subst hij
   have hb:((i:Int) != (i:Int))=false:=by simp
   have hc:=eW b o cap n (m - i) m i (A++L) P [] Q (R++C) f wr (by have:=H1.out;have:=HA.out;simp;omega) H2.out H3.out (by simp;omega) (by have:=H4.out;have:=HN.out;simp;omega) hsz (by have:=HPr.out;simpa using this);have HCc:=hid hc;clear hc
   go_wp2_with fail;refine(show Calls _ _ _ _ _ from HCc.out).mono ?_;rintro r w2 ⟨rfl,hP2,hC2⟩
   go_wp2
   go_end0
   refine⟨rfl,?_,HCr.out.trans hC2⟩
   have e1:A++Y++X++C=A++L++Q++[]++P++(R++C):=by
    have:=H5.out;rw[List.append_assoc A Y X,this];simp
   rw[e1];exact hP2
  ·have hb:((i:Int) != (j:Int))=true:=by simp;omega
   have hb2:((i:Int)==(j:Int))=false:=by simp;omega
   by_cases hlt:j<i
   ·have hltz:(j:Int)<(i:Int):=by omega
    have hlt2:¬ (i:Int)≤(j:Int):=by omega
    obtain⟨P1,P2,hPP,hP1⟩:∃ P1 P2,P=P1++P2∧P1.length=j:=⟨P.take j,P.drop j,(List.take_append_drop _ _).symm,by rw[List.length_take,H2.out];omega⟩;have hP2:P2.length=i - j:=by have:=H2.out;rw[hPP]at this;simp at this;omega
    have hc:=eW b o cap n (m - i) m j (A++L) P1 P2 Q (R++C) f wr (by have:=H1.out;have:=HA.out;simp;omega) hP1 H3.out (by omega) (by have:=H4.out;have:=HN.out;simp;omega) hsz (by have:=HPr.out;rw[hPP]at this;simpa using this);have HCc:=hid hc;have HPP:=hid hPP;have w3:((i:Int) - (j:Int))=((i - j:Nat):Int):=by omega
    clear hc hPP
    go_wp2_with fail;refine(show Calls _ _ _ _ _ from HCc.out).mono ?_;rintro r w2 ⟨rfl,hPn,hCn⟩
    go_wp2
    go_roundw
    case rel =>
     refine⟨i - j,j,L++Q,P2,P1,R,by first | rfl | (congr 1),rfl,by omega,hj0,by omega,hjn,?_,?_,hP2,hP1,H4,?_,HCr.out.trans hCn⟩
     ·simpa using hPn
     ·show _=_
      have:=H1.out;have:=H3.out;simp;omega
     ·show _=_
      rw[H5.out,HPP.out];simp
    case measure=>simp[intOf] <;> omega
   ·have hltz:¬ (j:Int)<(i:Int):=by omega
    obtain⟨Q1,Q2,hQQ,hQ1⟩:∃ Q1 Q2,Q=Q1++Q2∧Q1.length=j - i:=⟨Q.take (j - i),Q.drop (j - i),(List.take_append_drop _ _).symm,by rw[List.length_take,H3.out];omega⟩;have hQ2:Q2.length=i:=by have:=H3.out;rw[hQQ]at this;simp at this;omega
    have hc:=eW b o cap n (m - i) (m+j - i) i (A++L) P Q1 Q2 (R++C) f wr (by have:=H1.out;have:=HA.out;simp;omega) H2.out hQ2 (by omega) (by have:=H4.out;have:=HN.out;simp;omega) hsz (by have:=HPr.out;rw[hQQ]at this;simpa using this);have HCc:=hid hc;have HQQ:=hid hQQ;have w3:((j:Int) - (i:Int))=((j - i:Nat):Int):=by omega
    clear hc hQQ
    go_wp2_with fail;refine(show Calls _ _ _ _ _ from HCc.out).mono ?_;rintro r w2 ⟨rfl,hPn,hCn⟩
    go_wp2
    go_roundw
    case rel =>
     refine⟨i,j - i,L,Q2,Q1,P++R,rfl,by first | rfl | (congr 1),hi0,by omega,him,by omega,?_,H1,hQ2,hQ1,?_,?_,HCr.out.trans hCn⟩
     ·simpa using hPn
     ·show _=_
      have:=H4.out;have:=H2.out;simp;omega
     ·show _=_
      rw[H5.out,HQQ.out];simp
    case measure=>simp[intOf] <;> omega
def cls(l:List Pt)(i:Nat):Int:=(l[i]?.getD z2).2
theorem eH{l:List Pt}(h:Srt l){i j:Nat}(hij:i≤j)(hj:j<l.length):cls l i≤cls l j:=by
 unfold cls;rcases Nat.lt_or_eq_of_le hij with h1 | rfl
 ·have:=List.pairwise_iff_getElem.1 h i j (by omega) hj h1
  rw[List.getElem?_eq_getElem (by omega),List.getElem?_eq_getElem hj];exact this
 ·exact Int.le_refl _
theorem dN{l:List Pt}{k:Nat}{x:Pt}(h:x∈l.take k):∃ i,i<k∧i<l.length∧x.2=cls l i:=by
 obtain⟨i,hi,e⟩:=List.mem_iff_getElem.1 h;rw[List.length_take]at hi;refine⟨i,by omega,by omega,?_⟩;unfold cls;rw[←e,List.getElem_take,List.getElem?_eq_getElem (by omega)];rfl
theorem dO{l:List Pt}{k:Nat}{x:Pt}(h:x∈l.drop k):∃ i,k≤i∧i<l.length∧x.2=cls l i:=by
 obtain⟨i,hi,e⟩:=List.mem_iff_getElem.1 h;rw[List.length_drop]at hi;refine⟨k+i,by omega,by omega,?_⟩;unfold cls;rw[←e,List.getElem_drop,List.getElem?_eq_getElem (by omega)];rfl
theorem pF(A X C:List Pt)(a k:Nat)(ha:A.length=a)(hk:k<X.length):(A++X++C)[a+k]?.getD z2=X[k]?.getD z2:=by
 subst ha;rw[List.append_assoc,List.getElem?_append_right (by omega),List.getElem?_append_left (by omega)]
 congr 2;omega
theorem ye(b o cap n a m e:Nat)(A:List Pt)(x:Pt)(Y C:List Pt)(W:World)(ha:A.length=a)(hx:a+1=m)(hy:m+Y.length=e)(hn:e+C.length=n)(hY:Srt Y)(hsz:n≤1000000)(hP:Pts W b o (A++x::Y++C)):
  Calls Tryz.prog 313 #[.slice (some ⟨b,o,none⟩) n cap,.int .i64 a,.int .i64 m,.int .i64 e,.func (.func 293) #[] #[]] W fun r W'=>r=.returned (.tuple #[])∧∃ Z,Pts W' b o (A++Z++C)∧Chg b o n W W'∧Srt Z∧Stb (x::Y) Z:=by
 have hme:m≤e:=by omega
 have hen:e≤n:=by omega
 have ham:a<m:=by omega
 have HA:=hid ha;have HX:=hid hx;have HY:=hid hy;have HN:=hid hn;have HS:=hid hY;have HP:=hid hP;have q1:((m:Int) - (a:Int)==1)=true:=by simp;omega
 clear ha hx hy hn hP hY;go_enter Tryz.func313,Tryz.ntmps313
 go_wp2_with fail
 go_loopw [10,11,12] (fun vi vj vh wr=>∃(i j:Nat),vi=.int .i64 i∧vj=.int .i64 j∧m≤i∧i≤j∧j≤e∧Below W.heap.size W wr∧Hid (i=m∨cls Y (i - 1 - m)<x.2)∧Hid (j=e∨x.2≤cls Y (j - m)))
  (fun vi vj _ _=>(intOf vj).toNat - (intOf vi).toNat)
 case atStart=>exact⟨m,e,rfl,rfl,Nat.le_refl _,hme,Nat.le_refl _,Below.refl _ _,.inl rfl,.inl rfl⟩
 case round =>
  obtain⟨i,j,rfl,rfl,hi,hij,hj,hB,H1,H2⟩:=hrel;by_cases hlt:i<j
  ·have hltz:(i:Int)<(j:Int):=by omega
   obtain⟨h,hh,hhi,hhj⟩:∃ h:Nat,((i:Int)+(j:Int)) / 2=(h:Int)∧i≤h∧h<j:=⟨(i+j) / 2,by omega,by omega,by omega⟩;have hPr:Pts wr b o (A++x::Y++C):=HP.out.below hB HP.out.lt;have hlen:(A++x::Y++C).length=n:=by have:=HA.out;have:=HX.out;have:=HY.out;have:=HN.out;simp;omega
   have hhy:h - m<Y.length:=by have:=HY.out;omega
   have e0:=hPr.c0 h (by omega);have e1:=hPr.c1 h (by omega);have e2:=hPr.c0 a (by omega);have e3:=hPr.c1 a (by omega);rw[show A++x::Y++C=A++x::(Y++C) by simp,dQ _ _ _ _ HA.out]at e2 e3
   have eg:(A++x::Y++C)[h]?.getD z2=Y[h - m]?.getD z2:=by
    rw[show A++x::Y++C=(A++[x])++Y++C by simp,show h=m+(h - m) by omega,pF _ _ _ m (h - m) (by have:=HA.out;have:=HX.out;simp;omega) hhy]
    congr 2;omega
   rw[eg]at e0 e1;have HCL:Hid (cls Y (h - m)=(Y[h - m]?.getD z2).2):=rfl
   generalize Y[h - m]?.getD z2=y at e0 e1 HCL
   have hlb:b<wr.heap.size:=hPr.lt;have hz1:(h:Int)<(n:Int):=by omega
   have hz2:(a:Int)<(n:Int):=by omega
   have hne:Nonempty (aE wr):=⟨⟨wr,Below.refl _ _⟩⟩;have x0:∀ u:aE wr,u.W.cell? ⟨b,o+h * 2,none⟩=some (.int .i32 y.1):=fun u=>(u.h.cell (p:=⟨b,o+h * 2,none⟩) hlb).trans e0
   have x1:∀ u:aE wr,u.W.cell? ⟨b,o+h * 2+1,none⟩=some (.int .u8 y.2):=fun u=>(u.h.cell (p:=⟨b,o+h * 2+1,none⟩) hlb).trans e1
   have x2:∀ u:aE wr,u.W.cell? ⟨b,o+a * 2,none⟩=some (.int .i32 x.1):=fun u=>(u.h.cell (p:=⟨b,o+a * 2,none⟩) hlb).trans e2
   have x3:∀ u:aE wr,u.W.cell? ⟨b,o+a * 2+1,none⟩=some (.int .u8 x.2):=fun u=>(u.h.cell (p:=⟨b,o+a * 2+1,none⟩) hlb).trans e3
   have hcall:Hid (∀ W:World,Calls Tryz.prog 293 #[.agg #[.int .i32 y.1,.int .u8 y.2],.agg #[.int .i32 x.1,.int .u8 x.2]] W fun e w'=>e=.returned (.int .i64 (iE y.2 x.2))∧Below W.heap.size W w'):=fun W=>eO y x W
   have hci:=jN y.2 x.2
   generalize iE y.2 x.2=ci at hci hcall
   have HB:=hid hB;clear e0 e1 e2 e3 eg hPr hB;by_cases hxp:y.2<x.2
   ·have hci':ci<0:=hci.2 hxp
    clear hci
    go_wp2_with fail;refine ay (by kernel_rfl) (by kernel_rfl) ?_
    repeat (go_big_quiet_step ((go_at_call 293;exact aE.call _ (hcall.out _))))
    refine wpQuiet_nil ?_;rintro _ ⟨u,rfl⟩
    have HBu:=hid (HB.out.trans (u.h.mono HB.out.size));clear x0 x1 x2 x3 hne
    generalize u.W=wu at *
    go_wp2
    go_roundw
    case rel=>exact⟨h+1,j,by go_num,rfl,by omega,by omega,hj,HBu.out,.inr (by rw[show h+1 - 1 - m=h - m by omega,HCL.out];exact hxp),H2⟩
    case measure=>simp[intOf] <;> omega
   ·have hci':¬ ci<0:=fun h=>hxp (hci.1 h)
    have hcd:decide (ci<0)=false:=by simpa using hci'
    clear hci
    go_wp2_with fail;refine ay (by kernel_rfl) (by kernel_rfl) ?_
    repeat (go_big_quiet_step ((go_at_call 293;exact aE.call _ (hcall.out _))))
    refine wpQuiet_nil ?_;rintro _ ⟨u,rfl⟩
    have HBu:=hid (HB.out.trans (u.h.mono HB.out.size));clear x0 x1 x2 x3 hne
    generalize u.W=wu at *
    go_wp2
    go_roundw
    case rel=>exact⟨i,h,rfl,rfl,hi,hhi,by omega,HBu.out,H1,.inr (by rw[HCL.out];omega)⟩
    case measure=>simp[intOf] <;> omega
  ·have hltz:¬ (i:Int)<(j:Int):=by omega
   obtain rfl:i=j:=by omega
   obtain⟨Y1,Y2,hYY,hY1,hlo,hhi⟩:∃ Y1 Y2,Y=Y1++Y2∧Y1.length=i - m∧(∀ y∈Y1,y.2<x.2)∧(∀ y∈Y2,x.2≤y.2):=by
    refine⟨Y.take (i - m),Y.drop (i - m),(List.take_append_drop _ _).symm,by rw[List.length_take];have:=HY.out;omega,fun y hy=>?_,fun y hy=>?_⟩
    ·obtain⟨k,hk1,hk2,e⟩:=dN hy
     rcases H1.out with h | h
     ·omega
     ·have:=eH HS.out (show k≤i - 1 - m by omega) (by have:=HY.out;omega)
      rw[e];omega
    ·obtain⟨k,hk1,hk2,e⟩:=dO hy
     rcases H2.out with h | h
     ·have:=HY.out;omega
     ·have:=eH HS.out hk1 hk2
      rw[e];omega
   have HZ:Hid (Srt (Y1++x::Y2)∧Stb (x::Y) (Y1++x::Y2)):=by
    have h1:=aQ.1 (by rw[←hYY];exact HS.out);refine⟨aQ.2 ⟨h1.1,cR.2 ⟨hhi,h1.2.1⟩,fun p hp q hq=>?_⟩,?_⟩
    ·rcases List.mem_cons.1 hq with rfl | hq
     ·have:=hlo p hp;omega
     ·exact h1.2.2 p hp q hq
    ·rw[hYY]
     have:=(Stb.swap (X:=[x]) (Y:=Y1) (fun p hp q hq=>by simp at hp;subst hp;have:=hlo q hq;omega)).append (Stb.refl Y2)
     simpa using this
   have hPr:Pts wr b o (A++x::(Y1++(Y2++C))):=by
    have:=HP.out.below hB HP.out.lt;rw[hYY]at this;simpa using this
   have hCr:Chg b o n W wr:=(Chg.refl HP.out n).below hB;have HPr:=hid hPr;have HCr:=hid hCr;have hlY:Hid (Y1.length+Y2.length=Y.length):=by show _=_;rw[hYY];simp
   have HY1:=hid hY1;clear hPr hCr hB hYY hlo hhi hY1;have q2:(i:Int) - 1=((i - 1:Nat):Int):=by omega
   go_wp2_with fail
   go_loopw [13] (fun vk wr=>∃(k:Nat) (P Q:List Pt),vk=.int .i64 k∧a≤k∧k≤i - 1∧Pts wr b o (A++P++x::(Q++(Y2++C)))∧Hid (a+P.length=k)∧Hid (P++Q=Y1)∧Chg b o n W wr)
    (fun vk _=>i - (intOf vk).toNat)
   case atStart=>exact⟨a,[],Y1,rfl,Nat.le_refl _,by omega,by simpa using HPr.out,(by show _=_;simp),(by show _=_;simp),HCr.out⟩
   case round =>
    obtain⟨k,P,Q,rfl,hk1,hk2,hPk,HPL,HPQ,hCk⟩:=hrel;by_cases hlt:k<i - 1
    ·have hltz:(k:Int)<((i - 1:Nat):Int):=by omega
     obtain⟨y,Q',hQ'⟩:∃ y Q',Q=y::Q':=by
      cases Q with
      | nil=>have h1:=congrArg List.length HPQ.out;have h2:=HPL.out;have h3:=HY1.out;have h4:=HX.out;simp at h1;omega
      | cons y Q'=>exact⟨y,Q',rfl⟩
     have hPl:(A++P).length=k:=by have:=HPL.out;have:=HA.out;simp;omega
     have hPk2:Pts wr b o ((A++P)++x::y::(Q'++(Y2++C))):=by rw[hQ']at hPk;simpa using hPk
     have hlen2:((A++P)++x::y::(Q'++(Y2++C))).length=n:=by
      have h1:=congrArg List.length HPQ.out;have h2:=HPL.out;have h3:=HY1.out;have h4:=HX.out;have h5:=HY.out;have h6:=HN.out;have h7:=hlY.out;rw[hQ']at h1;simp at h1 hPl ⊢;omega
     have e0:=hPk2.c0 k (by omega);have e1:=hPk2.c1 k (by omega);have e2:=hPk2.c0 (k+1) (by omega);have e3:=hPk2.c1 (k+1) (by omega);rw[dQ _ _ _ _ hPl]at e0 e1;rw[mJ _ _ _ _ _ hPl]at e2 e3;have f0:wr.frozen? ⟨b,o+k * 2,none⟩=false:=hPk2.fr _;have f1:wr.frozen? ⟨b,o+k * 2+1,none⟩=false:=hPk2.fr _;have f2:wr.frozen? ⟨b,o+(k+1) * 2,none⟩=false:=hPk2.fr _;have f3:wr.frozen? ⟨b,o+(k+1) * 2+1,none⟩=false:=hPk2.fr _;have z1:(k:Int)<(n:Int):=by omega
     have z2:(k:Int)+1<(n:Int):=by omega
     have z3:(0:Int)≤(k:Int)+1:=by omega
     have z4:((k:Int)+1).toNat=k+1:=by omega
     have HPk:=hid hPk2;have HCk:=hid hCk;have HQ':=hid hQ';clear hPk hPk2 hCk hQ'
     go_wp2_with fail
     go_region
     have hPn:=(HPk.out.set k y (by omega)).set (k+1) x (by rw[List.length_set];omega);rw[swap_nb' _ _ _ _ _ hPl]at hPn;have hCn:=((((HCk.out.set (o+k * 2) (.int .i32 y.1) (by omega) (by omega)).set (o+k * 2+1) (.int .u8 y.2) (by omega) (by omega)).set (o+(k+1) * 2) (.int .i32 x.1) (by omega) (by omega)).set (o+(k+1) * 2+1) (.int .u8 x.2) (by omega) (by omega)).drew;have HPn:=hid hPn.drew;have HCn:=hid hCn;clear hPn hCn HPk HCk e0 e1 e2 e3 f0 f1 f2 f3
     generalize World.drew _=wn at HPn HCn ⊢
     go_wp2
     go_roundw
     case rel =>
      refine⟨k+1,P++[y],Q',by go_num,by omega,by omega,?_,?_,?_,HCn.out⟩
      ·simpa using HPn.out
      ·show _=_
       have:=HPL.out;simp;omega
      ·show _=_
       rw[←HPQ.out,HQ'.out];simp
     case measure=>simp[intOf] <;> omega
    ·have hltz:¬ (k:Int)<((i - 1:Nat):Int):=by omega
     have hQ0:Hid (Q=[]):=by
      have h1:=congrArg List.length HPQ.out;have h2:=HPL.out;have h3:=HY1.out;have h4:=HX.out;simp at h1
      exact List.length_eq_zero_iff.1 (by omega)
     go_wp2;refine bodyPost_ret (results_none rfl _ _ _) rfl ?_;refine⟨rfl,Y1++x::Y2,?_,hCk,HZ.out.1,HZ.out.2⟩;have h1:=HPQ.out;rw[hQ0.out]at hPk h1;rw[List.append_nil]at h1;rw[h1]at hPk
     simpa using hPk
theorem vF(b o cap n a m e:Nat)(A X:List Pt)(y:Pt)(C:List Pt)(W:World)(ha:A.length=a)(hx:a+X.length=m)(hx1:X.length≠1)(hy:m+1=e)(hn:e+C.length=n)(hX:Srt X)(hsz:n≤1000000)(hP:Pts W b o (A++X++y::C)):
  Calls Tryz.prog 313 #[.slice (some ⟨b,o,none⟩) n cap,.int .i64 a,.int .i64 m,.int .i64 e,.func (.func 293) #[] #[]] W fun r W'=>r=.returned (.tuple #[])∧∃ Z,Pts W' b o (A++Z++C)∧Chg b o n W W'∧Srt Z∧Stb (X++[y]) Z:=by
 have hme:m<e:=by omega
 have hen:e≤n:=by omega
 have ham:a≤m:=by omega
 have HA:=hid ha;have HX:=hid hx;have HY:=hid hy;have HN:=hid hn;have HS:=hid hX;have HP:=hid hP;have q1:((m:Int) - (a:Int)==1)=false:=by simp;omega
 have q2:((e:Int) - (m:Int)==1)=true:=by simp;omega
 clear ha hx hy hn hP hX hx1;go_enter Tryz.func313,Tryz.ntmps313
 go_wp2_with fail
 go_loopw [14,15,16] (fun vi vj vh wr=>∃(i j:Nat),vi=.int .i64 i∧vj=.int .i64 j∧a≤i∧i≤j∧j≤m∧Below W.heap.size W wr∧Hid (i=a∨cls X (i - 1 - a)≤y.2)∧Hid (j=m∨y.2<cls X (j - a)))
  (fun vi vj _ _=>(intOf vj).toNat - (intOf vi).toNat)
 case atStart=>exact⟨a,m,rfl,rfl,Nat.le_refl _,ham,Nat.le_refl _,Below.refl _ _,.inl rfl,.inl rfl⟩
 case round =>
  obtain⟨i,j,rfl,rfl,hi,hij,hj,hB,H1,H2⟩:=hrel;by_cases hlt:i<j
  ·have hltz:(i:Int)<(j:Int):=by omega
   obtain⟨h,hh,hhi,hhj⟩:∃ h:Nat,((i:Int)+(j:Int)) / 2=(h:Int)∧i≤h∧h<j:=⟨(i+j) / 2,by omega,by omega,by omega⟩;have hPr:Pts wr b o (A++X++y::C):=HP.out.below hB HP.out.lt;have hlen:(A++X++y::C).length=n:=by have:=HA.out;have:=HX.out;have:=HY.out;have:=HN.out;simp;omega
   have hhx:h - a<X.length:=by have:=HX.out;omega
   have e0:=hPr.c0 h (by omega);have e1:=hPr.c1 h (by omega);have e2:=hPr.c0 m (by omega);have e3:=hPr.c1 m (by omega);rw[dQ _ _ _ _ (by have:=HA.out;have:=HX.out;simp;omega)]at e2 e3
   have eg:(A++X++y::C)[h]?.getD z2=X[h - a]?.getD z2:=by
    rw[show h=a+(h - a) by omega,pF _ _ _ a (h - a) HA.out hhx]
    congr 2;omega
   rw[eg]at e0 e1;have HCL:Hid (cls X (h - a)=(X[h - a]?.getD z2).2):=rfl
   generalize X[h - a]?.getD z2=x at e0 e1 HCL
   have hlb:b<wr.heap.size:=hPr.lt;have hz1:(h:Int)<(n:Int):=by omega
   have hz2:(m:Int)<(n:Int):=by omega
   have hne:Nonempty (aE wr):=⟨⟨wr,Below.refl _ _⟩⟩;have x0:∀ u:aE wr,u.W.cell? ⟨b,o+h * 2,none⟩=some (.int .i32 x.1):=fun u=>(u.h.cell (p:=⟨b,o+h * 2,none⟩) hlb).trans e0
   have x1:∀ u:aE wr,u.W.cell? ⟨b,o+h * 2+1,none⟩=some (.int .u8 x.2):=fun u=>(u.h.cell (p:=⟨b,o+h * 2+1,none⟩) hlb).trans e1
   have x2:∀ u:aE wr,u.W.cell? ⟨b,o+m * 2,none⟩=some (.int .i32 y.1):=fun u=>(u.h.cell (p:=⟨b,o+m * 2,none⟩) hlb).trans e2
   have x3:∀ u:aE wr,u.W.cell? ⟨b,o+m * 2+1,none⟩=some (.int .u8 y.2):=fun u=>(u.h.cell (p:=⟨b,o+m * 2+1,none⟩) hlb).trans e3
   have hcall:Hid (∀ W:World,Calls Tryz.prog 293 #[.agg #[.int .i32 y.1,.int .u8 y.2],.agg #[.int .i32 x.1,.int .u8 x.2]] W fun e w'=>e=.returned (.int .i64 (iE y.2 x.2))∧Below W.heap.size W w'):=fun W=>eO y x W
   have hci:=jN y.2 x.2
   generalize iE y.2 x.2=ci at hci hcall
   have HB:=hid hB;clear e0 e1 e2 e3 eg hPr hB;by_cases hxp:y.2<x.2
   ·have hci':ci<0:=hci.2 hxp
    clear hci
    go_wp2_with fail;refine ay (by kernel_rfl) (by kernel_rfl) ?_
    repeat (go_big_quiet_step ((go_at_call 293;exact aE.call _ (hcall.out _))))
    refine wpQuiet_nil ?_;rintro _ ⟨u,rfl⟩
    have HBu:=hid (HB.out.trans (u.h.mono HB.out.size));clear x0 x1 x2 x3 hne
    generalize u.W=wu at *
    go_wp2
    go_roundw
    case rel=>exact⟨i,h,rfl,rfl,hi,hhi,by omega,HBu.out,H1,.inr (by rw[HCL.out];exact hxp)⟩
    case measure=>simp[intOf] <;> omega
   ·have hci':¬ ci<0:=fun h=>hxp (hci.1 h)
    have hcd:decide (ci<0)=false:=by simpa using hci'
    clear hci
    go_wp2_with fail;refine ay (by kernel_rfl) (by kernel_rfl) ?_
    repeat (go_big_quiet_step ((go_at_call 293;exact aE.call _ (hcall.out _))))
    refine wpQuiet_nil ?_;rintro _ ⟨u,rfl⟩
    have HBu:=hid (HB.out.trans (u.h.mono HB.out.size));clear x0 x1 x2 x3 hne
    generalize u.W=wu at *
    go_wp2
    go_roundw
    case rel=>exact⟨h+1,j,by go_num,rfl,by omega,by omega,hj,HBu.out,.inr (by rw[show h+1 - 1 - a=h - a by omega,HCL.out];omega),H2⟩
    case measure=>simp[intOf] <;> omega
  ·have hltz:¬ (i:Int)<(j:Int):=by omega
   obtain rfl:i=j:=by omega
   obtain⟨X1,X2,hXX,hX1,hlo,hhi⟩:∃ X1 X2,X=X1++X2∧X1.length=i - a∧(∀ x∈X1,x.2≤y.2)∧(∀ x∈X2,y.2<x.2):=by
    refine⟨X.take (i - a),X.drop (i - a),(List.take_append_drop _ _).symm,by rw[List.length_take];have:=HX.out;omega,fun x hx=>?_,fun x hx=>?_⟩
    ·obtain⟨k,hk1,hk2,e⟩:=dN hx
     rcases H1.out with h | h
     ·omega
     ·have:=eH HS.out (show k≤i - 1 - a by omega) (by have:=HX.out;omega)
      rw[e];omega
    ·obtain⟨k,hk1,hk2,e⟩:=dO hx
     rcases H2.out with h | h
     ·have:=HX.out;omega
     ·have:=eH HS.out hk1 hk2
      rw[e];omega
   have HZ:Hid (Srt (X1++y::X2)∧Stb (X++[y]) (X1++y::X2)):=by
    rw[hXX];exact rA (by rw[←hXX];exact HS.out) hhi hlo
   have hPr:Pts wr b o (A++X1++X2++y::C):=by
    have:=HP.out.below hB HP.out.lt;rw[hXX]at this;simpa using this
   have hCr:Chg b o n W wr:=(Chg.refl HP.out n).below hB;have HPr:=hid hPr;have HCr:=hid hCr;have hlX:Hid (X1.length+X2.length=X.length):=by show _=_;rw[hXX];simp
   have HX1:=hid hX1;clear hPr hCr hB hXX hlo hhi hX1
   go_wp2_with fail
   go_loopw [17] (fun vk wr=>∃(k:Nat) (P Q:List Pt),vk=.int .i64 k∧i≤k∧k≤m∧Pts wr b o (A++X1++P++y::(Q++C))∧Hid (i+P.length=k)∧Hid (P++Q=X2)∧Chg b o n W wr)
    (fun vk _=>(intOf vk).toNat)
   case atStart =>
    exact⟨m,X2,[],rfl,by omega,Nat.le_refl _,by simpa using HPr.out,(by show _=_;have:=HX1.out;have:=hlX.out;have:=HX.out;omega),(by show _=_;simp),HCr.out⟩
   case round =>
    obtain⟨k,P,Q,rfl,hk1,hk2,hPk,HPL,HPQ,hCk⟩:=hrel;by_cases hlt:i<k
    ·obtain⟨j,rfl⟩:∃ j,k=j+1:=⟨k - 1,by omega⟩
     have hltz:(i:Int)<(j:Int)+1:=by omega
     obtain⟨P',p,hP'⟩:∃ P' p,P=P'++[p]:=by
      refine⟨P.dropLast,P.getLast (fun h=>?_),(List.dropLast_concat_getLast _).symm⟩;have:=HPL.out;rw[h]at this;simp at this;omega
     have hPl:(A++X1++P').length=j:=by
      have h1:=HPL.out;have:=HA.out;have:=HX1.out;rw[hP']at h1;simp at h1 ⊢;omega
     have hPk2:Pts wr b o ((A++X1++P')++p::y::(Q++C)):=by rw[hP']at hPk;simpa using hPk
     have hlen2:((A++X1++P')++p::y::(Q++C)).length=n:=by
      have h1:=congrArg List.length HPQ.out;have h2:=HPL.out;have h3:=HX1.out;have h4:=HX.out;have h5:=HY.out;have h6:=HN.out;have h7:=hlX.out;rw[hP']at h1 h2;simp at h1 h2 hPl ⊢;omega
     have e0:=hPk2.c0 j (by omega);have e1:=hPk2.c1 j (by omega);have e2:=hPk2.c0 (j+1) (by omega);have e3:=hPk2.c1 (j+1) (by omega);rw[dQ _ _ _ _ hPl]at e0 e1;rw[mJ _ _ _ _ _ hPl]at e2 e3;have f0:wr.frozen? ⟨b,o+j * 2,none⟩=false:=hPk2.fr _;have f1:wr.frozen? ⟨b,o+j * 2+1,none⟩=false:=hPk2.fr _;have f2:wr.frozen? ⟨b,o+(j+1) * 2,none⟩=false:=hPk2.fr _;have f3:wr.frozen? ⟨b,o+(j+1) * 2+1,none⟩=false:=hPk2.fr _;have z1:(j:Int)<(n:Int):=by omega
     have z2:(j:Int)+1<(n:Int):=by omega
     have z3:(0:Int)≤(j:Int)+1:=by omega
     have z4:((j:Int)+1).toNat=j+1:=by omega
     have HPk:=hid hPk2;have HCk:=hid hCk;have HP':=hid hP';clear hPk hPk2 hCk hP'
     go_wp2_with fail
     go_region
     have hPn:=(HPk.out.set (j+1) p (by omega)).set j y (by rw[List.length_set];omega);rw[tR _ _ _ _ _ hPl]at hPn;have hCn:=((((HCk.out.set (o+(j+1) * 2) (.int .i32 p.1) (by omega) (by omega)).set (o+(j+1) * 2+1) (.int .u8 p.2) (by omega) (by omega)).set (o+j * 2) (.int .i32 y.1) (by omega) (by omega)).set (o+j * 2+1) (.int .u8 y.2) (by omega) (by omega)).drew;have HPn:=hid hPn.drew;have HCn:=hid hCn;clear hPn hCn HPk HCk e0 e1 e2 e3 f0 f1 f2 f3
     generalize World.drew _=wn at HPn HCn ⊢
     go_wp2
     go_roundw
     case rel =>
      refine⟨j,P',p::Q,by go_num,by omega,by omega,?_,?_,?_,HCn.out⟩
      ·simpa using HPn.out
      ·show _=_
       have h1:=HPL.out;rw[HP'.out]at h1;simp at h1;omega
      ·show _=_
       rw[←HPQ.out,HP'.out];simp
     case measure=>simp[intOf] <;> omega
    ·have hltz:¬ (i:Int)<(k:Int):=by omega
     have hP0:Hid (P=[]):=List.length_eq_zero_iff.1 (by have:=HPL.out;omega);go_wp2;refine bodyPost_ret (results_none rfl _ _ _) rfl ?_;refine⟨rfl,X1++y::X2,?_,hCk,HZ.out.1,HZ.out.2⟩;have h1:=HPQ.out;rw[hP0.out]at hPk h1;rw[List.nil_append]at h1;rw[h1]at hPk
     simpa using hPk
end Go.Proofs.YtkekkbciiohbkaaGreatDoor.N
