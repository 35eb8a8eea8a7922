/- Contracts and plain facts. -/
import Derived.Test.YtlmflmdmolcfhaaGreatDoorZ3
import Derived.Deep.Cut
import Derived.Deep.OwnRows
set_option maxRecDepth 100000
set_option maxHeartbeats 16000000
set_option linter.unusedVariables false
set_option linter.unnecessarySimpa false
open Nat (le_refl zero_le le_of_eq le_trans)
open List (getElem?_eq_getElem length_append length_take length_cons take_append_drop append_assoc nil_append length_nil getElem?_take_of_lt cons_append take_of_length_le getElem?_append_right size_toArray push_toArray append_toArray flatMap_append length_set length_drop)
open Go.World (putObj_heap_other)
open Array (replicate_succ replicate_zero)
namespace Go.Proofs.YtlmflmdmolcfhaaGreatDoor
open Tryz Go.RowKit
namespace N
theorem My(U:List Pt)(x:Pt)(V:List Pt)(y:Pt)(Z:List Pt)(j:Nat)(h:U.length+1+V.length=j):(U++x::(V++y::Z))[j]?.getD z2=y:=by
 have:U++x::(V++y::Z)=(U++x::V)++y::Z:=by simp
 rw[this];exact eE _ _ _ _ (by simp;omega)
theorem DM(U:List Pt)(x:Pt)(V:List Pt)(y:Pt)(Z:List Pt)(i j:Nat)(hi:U.length=i)(h:U.length+1+V.length=j):((U++x::(V++y::Z)).set i y).set j x=U++y::(V++x::Z):=by
 have e1:(U++x::(V++y::Z)).set i y=(U++y::V)++y::Z:=by subst hi;simp
 have e2:(U++y::V).length=j:=by simp;omega
 rw[e1,<-e2];simp
theorem fJ(b o cap n a c m:Nat)(A X B Y C:List Pt)(f:Value)(W:World)(ha:A.length=a)(hx:X.length=m)(hy:Y.length=m)(hc:a+m+B.length=c)(hn:c+m+C.length=n)(hsz:n<=1000000)(hP:Pts W b o (A++X++B++Y++C)):
  Calls prog 387 #[.slice (some ⟨b,o,none⟩) n cap,.int .i64 a,.int .i64 c,.int .i64 m,f] W fun e W'=>e=.returned (.tuple #[])/\Pts W' b o (A++Y++B++X++C)/\Chg b o n W W':=by
 have hac:a+m<=c:=by omega
 have hcm:c+m<=n:=by omega
 have HA:=hid ha;have HX:=hid hx;have HY:=hid hy;have HC:=hid hc;have HN:=hid hn;have HP:=hid hP;clear ha hx hy hc hn hP;go_enter func387,ntmps387;go_wp2_with fail
 go_loopw [10] (fun i wr=>∃(k:Nat),k<=m/\i=.int .i64 k/\Pts wr b o (A++(Y.take k++X.drop k)++B++(X.take k++Y.drop k)++C)/\Chg b o n W wr)
  (fun i _=>m - (intOf i).toNat)
 case atStart=>exact⟨0,zero_le _,rfl,by simpa using HP.out,Chg.refl HP.out n⟩
 case round =>
  obtain⟨k,hk,rfl,hPr,hCr⟩:=hrel;by_cases hlt:k<m
  ·have hltz:(k:Int)<(m:Int):=by omega
   have hkx:k<X.length:=by rw[HX.out];exact hlt
   have hky:k<Y.length:=by rw[HY.out];exact hlt
   obtain⟨x,hxe⟩:=Ex' (X[k]);obtain⟨y,hye⟩:=Ex' (Y[k]);have dx:X.drop k=x::X.drop (k+1):=by rw[List.drop_eq_getElem_cons hkx,hxe]
   have dy:Y.drop k=y::Y.drop (k+1):=by rw[List.drop_eq_getElem_cons hky,hye]
   have tx:X.take (k+1)=X.take k++[x]:=by rw[List.take_succ_eq_append_getElem hkx,hxe]
   have ty:Y.take (k+1)=Y.take k++[y]:=by rw[List.take_succ_eq_append_getElem hky,hye]
   obtain⟨U,hU⟩:∃ U,U=A++Y.take k:=⟨_,rfl⟩;obtain⟨V,hV⟩:∃ V,V=X.drop (k+1)++B++X.take k:=⟨_,rfl⟩;obtain⟨Z,hZ⟩:∃ Z,Z=Y.drop (k+1)++C:=⟨_,rfl⟩;have e1:A++(Y.take k++X.drop k)++B++(X.take k++Y.drop k)++C=U++x::(V++y::Z):=by rw[hU,hV,hZ,dx,dy];simp
   have e2:A++(Y.take (k+1)++X.drop (k+1))++B++(X.take (k+1)++Y.drop (k+1))++C=U++y::(V++x::Z):=by rw[hU,hV,hZ,tx,ty];simp
   have lU:U.length=a+k:=by rw[hU];have:=HA.out;have:=HY.out;simp;omega
   have lV:U.length+1+V.length=c+k:=by rw[lU,hV];have:=HX.out;have:=HC.out;simp;omega
   have lZ:(U++x::(V++y::Z)).length=n:=by rw[hU,hV,hZ];have:=HX.out;have:=HC.out;have:=HN.out;have:=HY.out;have:=HA.out;simp;omega
   rw[e1]at hPr;have HE2:=hid e2;clear dx dy tx ty e1 e2 hU hV hZ hxe hye hkx hky;have c0:=hPr.c0 (a+k) (by omega);have c1:=hPr.c1 (a+k) (by omega);have c2:=hPr.c0 (c+k) (by omega);have c3:=hPr.c1 (c+k) (by omega);rw[eE _ _ _ _ lU]at c0 c1;rw[My _ _ _ _ _ _ lV]at c2 c3;have f0:wr.frozen? ⟨b,o+(a+k) * 2,none⟩=false:=hPr.fr _;have f1:wr.frozen? ⟨b,o+(a+k) * 2+1,none⟩=false:=hPr.fr _;have f2:wr.frozen? ⟨b,o+(c+k) * 2,none⟩=false:=hPr.fr _;have f3:wr.frozen? ⟨b,o+(c+k) * 2+1,none⟩=false:=hPr.fr _;have z1:(a:Int)+(k:Int)<(n:Int):=by omega
   have z2:(c:Int)+(k:Int)<(n:Int):=by omega
   have z3:(0:Int)<=(a:Int)+(k:Int):=by omega
   have z4:(0:Int)<=(c:Int)+(k:Int):=by omega
   have z5:((a:Int)+(k:Int)).toNat=a+k:=by omega
   have z6:((c:Int)+(k:Int)).toNat=c+k:=by omega
   have z7:a+k≠c+k:=by omega
   have HPr:=hid hPr;have HCr:=hid hCr;clear hPr hCr;go_wp2_with fail
   go_region
   have hPn:=(HPr.out.set (a+k) y (by omega)).set (c+k) x (by rw[length_set];omega);rw[DM _ _ _ _ _ _ _ lU lV]at hPn;have hCn:=((((HCr.out.set (o+(a+k) * 2) (.int .i32 y.1) (by omega) (by omega)).set (o+(a+k) * 2+1) (.int .u8 y.2) (by omega) (by omega)).set (o+(c+k) * 2) (.int .i32 x.1) (by omega) (by omega)).set (o+(c+k) * 2+1) (.int .u8 x.2) (by omega) (by omega)).drew;have HPn:=hid hPn.drew;have HCn:=hid hCn;clear hPn hCn HPr HCr c0 c1 c2 c3 f0 f1 f2 f3;generalize World.drew _=wn at HPn HCn ⊢;go_wp2
   go_roundw
   case rel=>exact⟨k+1,by omega,by go_num,by rw[HE2.out];exact HPn.out,HCn.out⟩
   case measure=>simp[intOf];omega
  ·have hltz:¬ (k:Int)<(m:Int):=by omega
   have hk:k=m:=by omega
   have HE:Hid (X.drop k=[]/\X.take k=X/\Y.drop k=[]/\Y.take k=Y):=by
    have h1:X.length<=k:=by rw[HX.out];omega
    have h2:Y.length<=k:=by rw[HY.out];omega
    exact⟨List.drop_of_length_le h1,take_of_length_le h1,List.drop_of_length_le h2,take_of_length_le h2⟩
   go_wp2
   go_end0
   refine⟨rfl,?_,hCr⟩;rw[HE.out.1,HE.out.2.1,HE.out.2.2.1,HE.out.2.2.2]at hPr;simpa using hPr
theorem xe(b o cap n a m e:Nat)(A X Y C:List Pt)(f:Value)(W:World)(ha:A.length=a)(hx:a+X.length=m)(hy:m+Y.length=e)(hn:e+C.length=n)(hX:0<X.length)(hY:0<Y.length)(hsz:n<=1000000)(hP:Pts W b o (A++X++Y++C)):
  Calls prog 386 #[.slice (some ⟨b,o,none⟩) n cap,.int .i64 a,.int .i64 m,.int .i64 e,f] W fun r W'=>r=.returned (.tuple #[])/\Pts W' b o (A++Y++X++C)/\Chg b o n W W':=by
 have ham:a<m:=by omega
 have hme:m<e:=by omega
 have hen:e<=n:=by omega
 have HA:=hid ha;have HX:=hid hx;have HY:=hid hy;have HN:=hid hn;have HP:=hid hP;have HXp:=hid hX;have HYp:=hid hY;clear ha hx hy hn hP hX hY;have q1:((m:Int) - (a:Int))=((m - a:Nat):Int):=by omega
 have q2:((e:Int) - (m:Int))=((e - m:Nat):Int):=by omega
 go_enter func386,ntmps386;go_wp2_with fail
 go_loopw [10,11] (fun vi vj wr=>∃(i j:Nat) (L P Q R:List Pt),vi=.int .i64 i/\vj=.int .i64 j/\0<i/\0<j/\i<=m/\m+j<=n/\Pts wr b o (A++L++P++Q++R++C)/\Hid (a+L.length+i=m)/\Hid (P.length=i)/\Hid (Q.length=j)/\Hid (m+j+R.length=e)/\Hid (Y++X=L++Q++P++R)/\Chg b o n W wr)
  (fun vi vj _=>(intOf vi).toNat+(intOf vj).toNat)
 case atStart =>
  refine⟨m - a,e - m,[],X,Y,[],by first | rfl | (congr 1),by first | rfl | (congr 1),by omega,by omega,by omega,by omega,by simpa using HP.out,?_,?_,?_,?_,?_,Chg.refl HP.out n⟩
  ·show _=_;simp;omega
  ·show _=_;have:=HX.out;omega
  ·show _=_;have:=HY.out;omega
  ·show _=_;simp;omega
  ·show _=_;simp
 case round =>
  obtain⟨i,j,L,P,Q,R,rfl,rfl,hi0,hj0,him,hjn,hPr,H1,H2,H3,H4,H5,hCr⟩:=hrel;have w1:((m:Int) - (i:Int))=((m - i:Nat):Int):=by omega
  have w2:((m:Int)+(j:Int) - (i:Int))=((m+j - i:Nat):Int):=by omega
  have HPr:=hid hPr;have HCr:=hid hCr;clear hPr hCr;by_cases hij:i=j
  ·subst hij;have hb:((i:Int) != (i:Int))=false:=by simp
   have hc:=fJ b o cap n (m - i) m i (A++L) P [] Q (R++C) f wr (by have:=H1.out;have:=HA.out;simp;omega) H2.out H3.out (by simp;omega) (by have:=H4.out;have:=HN.out;simp;omega) hsz (by have:=HPr.out;simpa using this);have HCc:=hid hc;clear hc;go_wp2_with fail;refine(show Calls _ _ _ _ _ from HCc.out).mono ?_;rintro r w2 ⟨rfl,hP2,hC2⟩;go_wp2
   go_end0
   refine⟨rfl,?_,HCr.out.trans hC2⟩;have e1:A++Y++X++C=A++L++Q++[]++P++(R++C):=by have:=H5.out;rw[append_assoc A Y X,this];simp
   rw[e1];exact hP2
  ·have hb:((i:Int) != (j:Int))=true:=by simp;omega
   have hb2:((i:Int)==(j:Int))=false:=by simp;omega
   by_cases hlt:j<i
   ·have hltz:(j:Int)<(i:Int):=by omega
    have hlt2:¬ (i:Int)<=(j:Int):=by omega
    obtain⟨P1,P2,hPP,hP1⟩:∃ P1 P2,P=P1++P2/\P1.length=j:=⟨P.take j,P.drop j,(take_append_drop _ _).symm,by rw[length_take,H2.out];omega⟩;have hP2:P2.length=i - j:=by have:=H2.out;rw[hPP]at this;simp at this;omega
    have hc:=fJ b o cap n (m - i) m j (A++L) P1 P2 Q (R++C) f wr (by have:=H1.out;have:=HA.out;simp;omega) hP1 H3.out (by omega) (by have:=H4.out;have:=HN.out;simp;omega) hsz (by have:=HPr.out;rw[hPP]at this;simpa using this);have HCc:=hid hc;have HPP:=hid hPP;have w3:((i:Int) - (j:Int))=((i - j:Nat):Int):=by omega
    clear hc hPP;go_wp2_with fail;refine(show Calls _ _ _ _ _ from HCc.out).mono ?_;rintro r w2 ⟨rfl,hPn,hCn⟩;go_wp2
    go_roundw
    case rel =>
     refine⟨i - j,j,L++Q,P2,P1,R,by first | rfl | (congr 1),rfl,by omega,hj0,by omega,hjn,?_,?_,hP2,hP1,H4,?_,HCr.out.trans hCn⟩
     ·simpa using hPn
     ·show _=_;have:=H1.out;have:=H3.out;simp;omega
     ·show _=_;rw[H5.out,HPP.out];simp
    case measure=>simp[intOf] <;> omega
   ·have hltz:¬ (j:Int)<(i:Int):=by omega
    obtain⟨Q1,Q2,hQQ,hQ1⟩:∃ Q1 Q2,Q=Q1++Q2/\Q1.length=j - i:=⟨Q.take (j - i),Q.drop (j - i),(take_append_drop _ _).symm,by rw[length_take,H3.out];omega⟩;have hQ2:Q2.length=i:=by have:=H3.out;rw[hQQ]at this;simp at this;omega
    have hc:=fJ b o cap n (m - i) (m+j - i) i (A++L) P Q1 Q2 (R++C) f wr (by have:=H1.out;have:=HA.out;simp;omega) H2.out hQ2 (by omega) (by have:=H4.out;have:=HN.out;simp;omega) hsz (by have:=HPr.out;rw[hQQ]at this;simpa using this);have HCc:=hid hc;have HQQ:=hid hQQ;have w3:((j:Int) - (i:Int))=((j - i:Nat):Int):=by omega
    clear hc hQQ;go_wp2_with fail;refine(show Calls _ _ _ _ _ from HCc.out).mono ?_;rintro r w2 ⟨rfl,hPn,hCn⟩;go_wp2
    go_roundw
    case rel =>
     refine⟨i,j - i,L,Q2,Q1,P++R,rfl,by first | rfl | (congr 1),hi0,by omega,him,by omega,?_,H1,hQ2,hQ1,?_,?_,HCr.out.trans hCn⟩
     ·simpa using hPn
     ·show _=_;have:=H4.out;have:=H2.out;simp;omega
     ·show _=_;rw[H5.out,HQQ.out];simp
    case measure=>simp[intOf] <;> omega
def cls(l:List Pt)(i:Nat):Int:=(l[i]?.getD z2).2
theorem fm{l:List Pt}(h:Srt l){i j:Nat}(hij:i<=j)(hj:j<l.length):cls l i<=cls l j:=by
 unfold cls;rcases Nat.lt_or_eq_of_le hij with h1 | rfl
 ·have:=List.pairwise_iff_getElem.1 h i j (by omega) hj h1;rw[getElem?_eq_getElem (by omega),getElem?_eq_getElem hj];exact this
 ·exact Int.le_refl _
theorem eB{l:List Pt}{k:Nat}{x:Pt}(h:x∈l.take k):∃ i,i<k/\i<l.length/\x.2=cls l i:=by obtain⟨i,hi,e⟩:=List.mem_iff_getElem.1 h;rw[length_take]at hi;refine⟨i,by omega,by omega,?_⟩;unfold cls;rw[<-e,List.getElem_take,getElem?_eq_getElem (by omega)];rfl
theorem eC{l:List Pt}{k:Nat}{x:Pt}(h:x∈l.drop k):∃ i,k<=i/\i<l.length/\x.2=cls l i:=by obtain⟨i,hi,e⟩:=List.mem_iff_getElem.1 h;rw[length_drop]at hi;refine⟨k+i,by omega,by omega,?_⟩;unfold cls;rw[<-e,List.getElem_drop,getElem?_eq_getElem (by omega)];rfl
theorem sw(A X C:List Pt)(a k:Nat)(ha:A.length=a)(hk:k<X.length):(A++X++C)[a+k]?.getD z2=X[k]?.getD z2:=by subst ha;rw[append_assoc,getElem?_append_right (by omega),List.getElem?_append_left (by omega)];congr 2;omega
theorem DL(b o cap n a m e:Nat)(A:List Pt)(x:Pt)(Y C:List Pt)(W:World)(ha:A.length=a)(hx:a+1=m)(hy:m+Y.length=e)(hn:e+C.length=n)(hY:Srt Y)(hsz:n<=1000000)(hP:Pts W b o (A++x::Y++C)):
  Calls prog 383 #[.slice (some ⟨b,o,none⟩) n cap,.int .i64 a,.int .i64 m,.int .i64 e,.func (.func 363) #[] #[]] W fun r W'=>r=.returned (.tuple #[])/\∃ Z,Pts W' b o (A++Z++C)/\Chg b o n W W'/\Srt Z/\Stb (x::Y) Z:=by
 have hme:m<=e:=by omega
 have hen:e<=n:=by omega
 have ham:a<m:=by omega
 have HA:=hid ha;have HX:=hid hx;have HY:=hid hy;have HN:=hid hn;have HS:=hid hY;have HP:=hid hP;have q1:((m:Int) - (a:Int)==1)=true:=by simp;omega
 clear ha hx hy hn hP hY;go_enter func383,ntmps383;go_wp2_with fail
 go_loopw [10,11,12] (fun vi vj vh wr=>∃(i j:Nat),vi=.int .i64 i/\vj=.int .i64 j/\m<=i/\i<=j/\j<=e/\Below W.heap.size W wr/\Hid (i=m\/cls Y (i - 1 - m)<x.2)/\Hid (j=e\/x.2<=cls Y (j - m)))
  (fun vi vj _ _=>(intOf vj).toNat - (intOf vi).toNat)
 case atStart=>exact⟨m,e,rfl,rfl,le_refl _,hme,le_refl _,Below.refl _ _,.inl rfl,.inl rfl⟩
 case round =>
  obtain⟨i,j,rfl,rfl,hi,hij,hj,hB,H1,H2⟩:=hrel;by_cases hlt:i<j
  ·have hltz:(i:Int)<(j:Int):=by omega
   obtain⟨h,hh,hhi,hhj⟩:∃ h:Nat,((i:Int)+(j:Int)) / 2=(h:Int)/\i<=h/\h<j:=⟨(i+j) / 2,by omega,by omega,by omega⟩;have hPr:Pts wr b o (A++x::Y++C):=HP.out.below hB HP.out.lt;have hlen:(A++x::Y++C).length=n:=by have:=HA.out;have:=HX.out;have:=HY.out;have:=HN.out;simp;omega
   have hhy:h - m<Y.length:=by have:=HY.out;omega
   have e0:=hPr.c0 h (by omega);have e1:=hPr.c1 h (by omega);have e2:=hPr.c0 a (by omega);have e3:=hPr.c1 a (by omega);rw[show A++x::Y++C=A++x::(Y++C) by simp,eE _ _ _ _ HA.out]at e2 e3;have eg:(A++x::Y++C)[h]?.getD z2=Y[h - m]?.getD z2:=by rw[show A++x::Y++C=(A++[x])++Y++C by simp,show h=m+(h - m) by omega,sw _ _ _ m (h - m) (by have:=HA.out;have:=HX.out;simp;omega) hhy];congr 2;omega
   rw[eg]at e0 e1;have HCL:Hid (cls Y (h - m)=(Y[h - m]?.getD z2).2):=rfl;generalize Y[h - m]?.getD z2=y at e0 e1 HCL;have hlb:b<wr.heap.size:=hPr.lt;have hz1:(h:Int)<(n:Int):=by omega
   have hz2:(a:Int)<(n:Int):=by omega
   have hne:Nonempty (aH wr):=⟨⟨wr,Below.refl _ _⟩⟩;have x0:∀ u:aH wr,u.W.cell? ⟨b,o+h * 2,none⟩=some (.int .i32 y.1):=fun u=>(u.h.cell (p:=⟨b,o+h * 2,none⟩) hlb).trans e0;have x1:∀ u:aH wr,u.W.cell? ⟨b,o+h * 2+1,none⟩=some (.int .u8 y.2):=fun u=>(u.h.cell (p:=⟨b,o+h * 2+1,none⟩) hlb).trans e1;have x2:∀ u:aH wr,u.W.cell? ⟨b,o+a * 2,none⟩=some (.int .i32 x.1):=fun u=>(u.h.cell (p:=⟨b,o+a * 2,none⟩) hlb).trans e2;have x3:∀ u:aH wr,u.W.cell? ⟨b,o+a * 2+1,none⟩=some (.int .u8 x.2):=fun u=>(u.h.cell (p:=⟨b,o+a * 2+1,none⟩) hlb).trans e3;have hcall:Hid (∀ W:World,Calls prog 363 #[.agg #[.int .i32 y.1,.int .u8 y.2],.agg #[.int .i32 x.1,.int .u8 x.2]] W fun e w'=>e=.returned (.int .i64 (jq y.2 x.2))/\Below W.heap.size W w'):=fun W=>fx y x W;have hci:=kS y.2 x.2;generalize jq y.2 x.2=ci at hci hcall;have HB:=hid hB;clear e0 e1 e2 e3 eg hPr hB;by_cases hxp:y.2<x.2
   ·have hci':ci<0:=hci.2 hxp;clear hci;go_wp2_with fail;refine aw (by kernel_rfl) (by kernel_rfl) ?_;repeat (go_big_quiet_step ((go_at_call 363;exact aH.call _ (hcall.out _))))
    refine wpQuiet_nil ?_;rintro _ ⟨u,rfl⟩;have HBu:=hid (HB.out.trans (u.h.mono HB.out.size));clear x0 x1 x2 x3 hne;generalize u.W=wu at *;go_wp2
    go_roundw
    case rel=>exact⟨h+1,j,by go_num,rfl,by omega,by omega,hj,HBu.out,.inr (by rw[show h+1 - 1 - m=h - m by omega,HCL.out];exact hxp),H2⟩
    case measure=>simp[intOf] <;> omega
   ·have hci':¬ ci<0:=fun h=>hxp (hci.1 h);have hcd:decide (ci<0)=false:=by simpa using hci'
    clear hci;go_wp2_with fail;refine aw (by kernel_rfl) (by kernel_rfl) ?_;repeat (go_big_quiet_step ((go_at_call 363;exact aH.call _ (hcall.out _))))
    refine wpQuiet_nil ?_;rintro _ ⟨u,rfl⟩;have HBu:=hid (HB.out.trans (u.h.mono HB.out.size));clear x0 x1 x2 x3 hne;generalize u.W=wu at *;go_wp2
    go_roundw
    case rel=>exact⟨i,h,rfl,rfl,hi,hhi,by omega,HBu.out,H1,.inr (by rw[HCL.out];omega)⟩
    case measure=>simp[intOf] <;> omega
  ·have hltz:¬ (i:Int)<(j:Int):=by omega
   obtain rfl:i=j:=by omega
   obtain⟨Y1,Y2,hYY,hY1,hlo,hhi⟩:∃ Y1 Y2,Y=Y1++Y2/\Y1.length=i - m/\(∀ y∈Y1,y.2<x.2)/\(∀ y∈Y2,x.2<=y.2):=by
    refine⟨Y.take (i - m),Y.drop (i - m),(take_append_drop _ _).symm,by rw[length_take];have:=HY.out;omega,fun y hy=>?_,fun y hy=>?_⟩
    ·obtain⟨k,hk1,hk2,e⟩:=eB hy;rcases H1.out with h | h
     ·omega
     ·have:=fm HS.out (show k<=i - 1 - m by omega) (by have:=HY.out;omega);rw[e];omega
    ·obtain⟨k,hk1,hk2,e⟩:=eC hy;rcases H2.out with h | h
     ·have:=HY.out;omega
     ·have:=fm HS.out hk1 hk2;rw[e];omega
   have HZ:Hid (Srt (Y1++x::Y2)/\Stb (x::Y) (Y1++x::Y2)):=by
    have h1:=aT.1 (by rw[<-hYY];exact HS.out);refine⟨aT.2 ⟨h1.1,dm.2 ⟨hhi,h1.2.1⟩,fun p hp q hq=>?_⟩,?_⟩
    ·rcases List.mem_cons.1 hq with rfl | hq
     ·have:=hlo p hp;omega
     ·exact h1.2.2 p hp q hq
    ·rw[hYY];have:=(Stb.swap (X:=[x]) (Y:=Y1) (fun p hp q hq=>by simp at hp;subst hp;have:=hlo q hq;omega)).append (Stb.refl Y2);simpa using this
   have hPr:Pts wr b o (A++x::(Y1++(Y2++C))):=by have:=HP.out.below hB HP.out.lt;rw[hYY]at this;simpa using this
   have hCr:Chg b o n W wr:=(Chg.refl HP.out n).below hB;have HPr:=hid hPr;have HCr:=hid hCr;have hlY:Hid (Y1.length+Y2.length=Y.length):=by show _=_;rw[hYY];simp
   have HY1:=hid hY1;clear hPr hCr hB hYY hlo hhi hY1;have q2:(i:Int) - 1=((i - 1:Nat):Int):=by omega
   go_wp2_with fail
   go_loopw [13] (fun vk wr=>∃(k:Nat) (P Q:List Pt),vk=.int .i64 k/\a<=k/\k<=i - 1/\Pts wr b o (A++P++x::(Q++(Y2++C)))/\Hid (a+P.length=k)/\Hid (P++Q=Y1)/\Chg b o n W wr)
    (fun vk _=>i - (intOf vk).toNat)
   case atStart=>exact⟨a,[],Y1,rfl,le_refl _,by omega,by simpa using HPr.out,(by show _=_;simp),(by show _=_;simp),HCr.out⟩
   case round =>
    obtain⟨k,P,Q,rfl,hk1,hk2,hPk,HPL,HPQ,hCk⟩:=hrel;by_cases hlt:k<i - 1
    ·have hltz:(k:Int)<((i - 1:Nat):Int):=by omega
     obtain⟨y,Q',hQ'⟩:∃ y Q',Q=y::Q':=by
      cases Q with
      | nil=>have h1:=congrArg List.length HPQ.out;have h2:=HPL.out;have h3:=HY1.out;have h4:=HX.out;simp at h1;omega
      | cons y Q'=>exact⟨y,Q',rfl⟩
     have hPl:(A++P).length=k:=by have:=HPL.out;have:=HA.out;simp;omega
     have hPk2:Pts wr b o ((A++P)++x::y::(Q'++(Y2++C))):=by rw[hQ']at hPk;simpa using hPk
     have hlen2:((A++P)++x::y::(Q'++(Y2++C))).length=n:=by have h1:=congrArg List.length HPQ.out;have h2:=HPL.out;have h3:=HY1.out;have h4:=HX.out;have h5:=HY.out;have h6:=HN.out;have h7:=hlY.out;rw[hQ']at h1;simp at h1 hPl ⊢;omega
     have e0:=hPk2.c0 k (by omega);have e1:=hPk2.c1 k (by omega);have e2:=hPk2.c0 (k+1) (by omega);have e3:=hPk2.c1 (k+1) (by omega);rw[eE _ _ _ _ hPl]at e0 e1;rw[oI _ _ _ _ _ hPl]at e2 e3;have f0:wr.frozen? ⟨b,o+k * 2,none⟩=false:=hPk2.fr _;have f1:wr.frozen? ⟨b,o+k * 2+1,none⟩=false:=hPk2.fr _;have f2:wr.frozen? ⟨b,o+(k+1) * 2,none⟩=false:=hPk2.fr _;have f3:wr.frozen? ⟨b,o+(k+1) * 2+1,none⟩=false:=hPk2.fr _;have z1:(k:Int)<(n:Int):=by omega
     have z2:(k:Int)+1<(n:Int):=by omega
     have z3:(0:Int)<=(k:Int)+1:=by omega
     have z4:((k:Int)+1).toNat=k+1:=by omega
     have HPk:=hid hPk2;have HCk:=hid hCk;have HQ':=hid hQ';clear hPk hPk2 hCk hQ';go_wp2_with fail
     go_region
     have hPn:=(HPk.out.set k y (by omega)).set (k+1) x (by rw[length_set];omega);rw[swap_nb' _ _ _ _ _ hPl]at hPn;have hCn:=((((HCk.out.set (o+k * 2) (.int .i32 y.1) (by omega) (by omega)).set (o+k * 2+1) (.int .u8 y.2) (by omega) (by omega)).set (o+(k+1) * 2) (.int .i32 x.1) (by omega) (by omega)).set (o+(k+1) * 2+1) (.int .u8 x.2) (by omega) (by omega)).drew;have HPn:=hid hPn.drew;have HCn:=hid hCn;clear hPn hCn HPk HCk e0 e1 e2 e3 f0 f1 f2 f3;generalize World.drew _=wn at HPn HCn ⊢;go_wp2
     go_roundw
     case rel =>
      refine⟨k+1,P++[y],Q',by go_num,by omega,by omega,?_,?_,?_,HCn.out⟩
      ·simpa using HPn.out
      ·show _=_;have:=HPL.out;simp;omega
      ·show _=_;rw[<-HPQ.out,HQ'.out];simp
     case measure=>simp[intOf] <;> omega
    ·have hltz:¬ (k:Int)<((i - 1:Nat):Int):=by omega
     have hQ0:Hid (Q=[]):=by have h1:=congrArg List.length HPQ.out;have h2:=HPL.out;have h3:=HY1.out;have h4:=HX.out;simp at h1;exact List.length_eq_zero_iff.1 (by omega)
     go_wp2;refine bodyPost_ret (results_none rfl _ _ _) rfl ?_;refine⟨rfl,Y1++x::Y2,?_,hCk,HZ.out.1,HZ.out.2⟩;have h1:=HPQ.out;rw[hQ0.out]at hPk h1;rw[List.append_nil]at h1;rw[h1]at hPk;simpa using hPk
theorem AG(b o cap n a m e:Nat)(A X:List Pt)(y:Pt)(C:List Pt)(W:World)(ha:A.length=a)(hx:a+X.length=m)(hx1:X.length≠1)(hy:m+1=e)(hn:e+C.length=n)(hX:Srt X)(hsz:n<=1000000)(hP:Pts W b o (A++X++y::C)):
  Calls prog 383 #[.slice (some ⟨b,o,none⟩) n cap,.int .i64 a,.int .i64 m,.int .i64 e,.func (.func 363) #[] #[]] W fun r W'=>r=.returned (.tuple #[])/\∃ Z,Pts W' b o (A++Z++C)/\Chg b o n W W'/\Srt Z/\Stb (X++[y]) Z:=by
 have hme:m<e:=by omega
 have hen:e<=n:=by omega
 have ham:a<=m:=by omega
 have HA:=hid ha;have HX:=hid hx;have HY:=hid hy;have HN:=hid hn;have HS:=hid hX;have HP:=hid hP;have q1:((m:Int) - (a:Int)==1)=false:=by simp;omega
 have q2:((e:Int) - (m:Int)==1)=true:=by simp;omega
 clear ha hx hy hn hP hX hx1;go_enter func383,ntmps383;go_wp2_with fail
 go_loopw [14,15,16] (fun vi vj vh wr=>∃(i j:Nat),vi=.int .i64 i/\vj=.int .i64 j/\a<=i/\i<=j/\j<=m/\Below W.heap.size W wr/\Hid (i=a\/cls X (i - 1 - a)<=y.2)/\Hid (j=m\/y.2<cls X (j - a)))
  (fun vi vj _ _=>(intOf vj).toNat - (intOf vi).toNat)
 case atStart=>exact⟨a,m,rfl,rfl,le_refl _,ham,le_refl _,Below.refl _ _,.inl rfl,.inl rfl⟩
 case round =>
  obtain⟨i,j,rfl,rfl,hi,hij,hj,hB,H1,H2⟩:=hrel;by_cases hlt:i<j
  ·have hltz:(i:Int)<(j:Int):=by omega
   obtain⟨h,hh,hhi,hhj⟩:∃ h:Nat,((i:Int)+(j:Int)) / 2=(h:Int)/\i<=h/\h<j:=⟨(i+j) / 2,by omega,by omega,by omega⟩;have hPr:Pts wr b o (A++X++y::C):=HP.out.below hB HP.out.lt;have hlen:(A++X++y::C).length=n:=by have:=HA.out;have:=HX.out;have:=HY.out;have:=HN.out;simp;omega
   have hhx:h - a<X.length:=by have:=HX.out;omega
   have e0:=hPr.c0 h (by omega);have e1:=hPr.c1 h (by omega);have e2:=hPr.c0 m (by omega);have e3:=hPr.c1 m (by omega);rw[eE _ _ _ _ (by have:=HA.out;have:=HX.out;simp;omega)]at e2 e3;have eg:(A++X++y::C)[h]?.getD z2=X[h - a]?.getD z2:=by rw[show h=a+(h - a) by omega,sw _ _ _ a (h - a) HA.out hhx];congr 2;omega
   rw[eg]at e0 e1;have HCL:Hid (cls X (h - a)=(X[h - a]?.getD z2).2):=rfl;generalize X[h - a]?.getD z2=x at e0 e1 HCL;have hlb:b<wr.heap.size:=hPr.lt;have hz1:(h:Int)<(n:Int):=by omega
   have hz2:(m:Int)<(n:Int):=by omega
   have hne:Nonempty (aH wr):=⟨⟨wr,Below.refl _ _⟩⟩;have x0:∀ u:aH wr,u.W.cell? ⟨b,o+h * 2,none⟩=some (.int .i32 x.1):=fun u=>(u.h.cell (p:=⟨b,o+h * 2,none⟩) hlb).trans e0;have x1:∀ u:aH wr,u.W.cell? ⟨b,o+h * 2+1,none⟩=some (.int .u8 x.2):=fun u=>(u.h.cell (p:=⟨b,o+h * 2+1,none⟩) hlb).trans e1;have x2:∀ u:aH wr,u.W.cell? ⟨b,o+m * 2,none⟩=some (.int .i32 y.1):=fun u=>(u.h.cell (p:=⟨b,o+m * 2,none⟩) hlb).trans e2;have x3:∀ u:aH wr,u.W.cell? ⟨b,o+m * 2+1,none⟩=some (.int .u8 y.2):=fun u=>(u.h.cell (p:=⟨b,o+m * 2+1,none⟩) hlb).trans e3;have hcall:Hid (∀ W:World,Calls prog 363 #[.agg #[.int .i32 y.1,.int .u8 y.2],.agg #[.int .i32 x.1,.int .u8 x.2]] W fun e w'=>e=.returned (.int .i64 (jq y.2 x.2))/\Below W.heap.size W w'):=fun W=>fx y x W;have hci:=kS y.2 x.2;generalize jq y.2 x.2=ci at hci hcall;have HB:=hid hB;clear e0 e1 e2 e3 eg hPr hB;by_cases hxp:y.2<x.2
   ·have hci':ci<0:=hci.2 hxp;clear hci;go_wp2_with fail;refine aw (by kernel_rfl) (by kernel_rfl) ?_;repeat (go_big_quiet_step ((go_at_call 363;exact aH.call _ (hcall.out _))))
    refine wpQuiet_nil ?_;rintro _ ⟨u,rfl⟩;have HBu:=hid (HB.out.trans (u.h.mono HB.out.size));clear x0 x1 x2 x3 hne;generalize u.W=wu at *;go_wp2
    go_roundw
    case rel=>exact⟨i,h,rfl,rfl,hi,hhi,by omega,HBu.out,H1,.inr (by rw[HCL.out];exact hxp)⟩
    case measure=>simp[intOf] <;> omega
   ·have hci':¬ ci<0:=fun h=>hxp (hci.1 h);have hcd:decide (ci<0)=false:=by simpa using hci'
    clear hci;go_wp2_with fail;refine aw (by kernel_rfl) (by kernel_rfl) ?_;repeat (go_big_quiet_step ((go_at_call 363;exact aH.call _ (hcall.out _))))
    refine wpQuiet_nil ?_;rintro _ ⟨u,rfl⟩;have HBu:=hid (HB.out.trans (u.h.mono HB.out.size));clear x0 x1 x2 x3 hne;generalize u.W=wu at *;go_wp2
    go_roundw
    case rel=>exact⟨h+1,j,by go_num,rfl,by omega,by omega,hj,HBu.out,.inr (by rw[show h+1 - 1 - a=h - a by omega,HCL.out];omega),H2⟩
    case measure=>simp[intOf] <;> omega
  ·have hltz:¬ (i:Int)<(j:Int):=by omega
   obtain rfl:i=j:=by omega
   obtain⟨X1,X2,hXX,hX1,hlo,hhi⟩:∃ X1 X2,X=X1++X2/\X1.length=i - a/\(∀ x∈X1,x.2<=y.2)/\(∀ x∈X2,y.2<x.2):=by
    refine⟨X.take (i - a),X.drop (i - a),(take_append_drop _ _).symm,by rw[length_take];have:=HX.out;omega,fun x hx=>?_,fun x hx=>?_⟩
    ·obtain⟨k,hk1,hk2,e⟩:=eB hx;rcases H1.out with h | h
     ·omega
     ·have:=fm HS.out (show k<=i - 1 - a by omega) (by have:=HX.out;omega);rw[e];omega
    ·obtain⟨k,hk1,hk2,e⟩:=eC hx;rcases H2.out with h | h
     ·have:=HX.out;omega
     ·have:=fm HS.out hk1 hk2;rw[e];omega
   have HZ:Hid (Srt (X1++y::X2)/\Stb (X++[y]) (X1++y::X2)):=by rw[hXX];exact uU (by rw[<-hXX];exact HS.out) hhi hlo
   have hPr:Pts wr b o (A++X1++X2++y::C):=by have:=HP.out.below hB HP.out.lt;rw[hXX]at this;simpa using this
   have hCr:Chg b o n W wr:=(Chg.refl HP.out n).below hB;have HPr:=hid hPr;have HCr:=hid hCr;have hlX:Hid (X1.length+X2.length=X.length):=by show _=_;rw[hXX];simp
   have HX1:=hid hX1;clear hPr hCr hB hXX hlo hhi hX1;go_wp2_with fail
   go_loopw [17] (fun vk wr=>∃(k:Nat) (P Q:List Pt),vk=.int .i64 k/\i<=k/\k<=m/\Pts wr b o (A++X1++P++y::(Q++C))/\Hid (i+P.length=k)/\Hid (P++Q=X2)/\Chg b o n W wr)
    (fun vk _=>(intOf vk).toNat)
   case atStart =>
    exact⟨m,X2,[],rfl,by omega,le_refl _,by simpa using HPr.out,(by show _=_;have:=HX1.out;have:=hlX.out;have:=HX.out;omega),(by show _=_;simp),HCr.out⟩
   case round =>
    obtain⟨k,P,Q,rfl,hk1,hk2,hPk,HPL,HPQ,hCk⟩:=hrel;by_cases hlt:i<k
    ·obtain⟨j,rfl⟩:∃ j,k=j+1:=⟨k - 1,by omega⟩;have hltz:(i:Int)<(j:Int)+1:=by omega
     obtain⟨P',p,hP'⟩:∃ P' p,P=P'++[p]:=by refine⟨P.dropLast,P.getLast (fun h=>?_),(List.dropLast_concat_getLast _).symm⟩;have:=HPL.out;rw[h]at this;simp at this;omega
     have hPl:(A++X1++P').length=j:=by have h1:=HPL.out;have:=HA.out;have:=HX1.out;rw[hP']at h1;simp at h1 ⊢;omega
     have hPk2:Pts wr b o ((A++X1++P')++p::y::(Q++C)):=by rw[hP']at hPk;simpa using hPk
     have hlen2:((A++X1++P')++p::y::(Q++C)).length=n:=by have h1:=congrArg List.length HPQ.out;have h2:=HPL.out;have h3:=HX1.out;have h4:=HX.out;have h5:=HY.out;have h6:=HN.out;have h7:=hlX.out;rw[hP']at h1 h2;simp at h1 h2 hPl ⊢;omega
     have e0:=hPk2.c0 j (by omega);have e1:=hPk2.c1 j (by omega);have e2:=hPk2.c0 (j+1) (by omega);have e3:=hPk2.c1 (j+1) (by omega);rw[eE _ _ _ _ hPl]at e0 e1;rw[oI _ _ _ _ _ hPl]at e2 e3;have f0:wr.frozen? ⟨b,o+j * 2,none⟩=false:=hPk2.fr _;have f1:wr.frozen? ⟨b,o+j * 2+1,none⟩=false:=hPk2.fr _;have f2:wr.frozen? ⟨b,o+(j+1) * 2,none⟩=false:=hPk2.fr _;have f3:wr.frozen? ⟨b,o+(j+1) * 2+1,none⟩=false:=hPk2.fr _;have z1:(j:Int)<(n:Int):=by omega
     have z2:(j:Int)+1<(n:Int):=by omega
     have z3:(0:Int)<=(j:Int)+1:=by omega
     have z4:((j:Int)+1).toNat=j+1:=by omega
     have HPk:=hid hPk2;have HCk:=hid hCk;have HP':=hid hP';clear hPk hPk2 hCk hP';go_wp2_with fail
     go_region
     have hPn:=(HPk.out.set (j+1) p (by omega)).set j y (by rw[length_set];omega);rw[yN _ _ _ _ _ hPl]at hPn;have hCn:=((((HCk.out.set (o+(j+1) * 2) (.int .i32 p.1) (by omega) (by omega)).set (o+(j+1) * 2+1) (.int .u8 p.2) (by omega) (by omega)).set (o+j * 2) (.int .i32 y.1) (by omega) (by omega)).set (o+j * 2+1) (.int .u8 y.2) (by omega) (by omega)).drew;have HPn:=hid hPn.drew;have HCn:=hid hCn;clear hPn hCn HPk HCk e0 e1 e2 e3 f0 f1 f2 f3;generalize World.drew _=wn at HPn HCn ⊢;go_wp2
     go_roundw
     case rel =>
      refine⟨j,P',p::Q,by go_num,by omega,by omega,?_,?_,?_,HCn.out⟩
      ·simpa using HPn.out
      ·show _=_;have h1:=HPL.out;rw[HP'.out]at h1;simp at h1;omega
      ·show _=_;rw[<-HPQ.out,HP'.out];simp
     case measure=>simp[intOf] <;> omega
    ·have hltz:¬ (i:Int)<(k:Int):=by omega
     have hP0:Hid (P=[]):=List.length_eq_zero_iff.1 (by have:=HPL.out;omega);go_wp2;refine bodyPost_ret (results_none rfl _ _ _) rfl ?_;refine⟨rfl,X1++y::X2,?_,hCk,HZ.out.1,HZ.out.2⟩;have h1:=HPQ.out;rw[hP0.out]at hPk h1;rw[nil_append]at h1;rw[h1]at hPk;simpa using hPk
theorem lQ{X1 X2 Y1 Y2 Z1 Z2:List Pt}(hX:Srt (X1++X2))(hY:Srt (Y1++Y2))(C1:∀ x∈X1,∀ y∈Y2,x.2<=y.2)(C2:∀ y∈Y1,∀ x∈X2,y.2<x.2)
  (s1:Srt Z1) (s2:Srt Z2) (t1:Stb (X1++Y1) Z1) (t2:Stb (X2++Y2) Z2):Srt (Z1++Z2)/\Stb ((X1++X2)++(Y1++Y2)) (Z1++Z2):=by
 have hx:=aT.1 hX;have hy:=aT.1 hY;refine⟨aT.2 ⟨s1,s2,fun p hp q hq=>?_⟩,?_⟩
 ·have hp':=List.mem_append.1 (t1.perm.mem_iff.1 hp);have hq':=List.mem_append.1 (t2.perm.mem_iff.1 hq);rcases hp' with hp' | hp' <;> rcases hq' with hq' | hq'
  ·exact hx.2.2 p hp' q hq'
  ·exact C1 p hp' q hq'
  ·have:=C2 p hp' q hq';omega
  ·exact hy.2.2 p hp' q hq'
 ·have h1:=((Stb.refl X1).append (Stb.swap (X:=X2) (Y:=Y1) (fun p hp q hq=>by have:=C2 q hq p hp;omega))).append (Stb.refl Y2);have h2:Stb (X1++Y1++(X2++Y2)) (Z1++Z2):=t1.append t2;refine Stb.trans ?_ h2;simpa using h1
theorem DZ{a b:List Pt}(ha:Srt a)(hb:Srt b)(h:a=[]\/b=[]):Srt (a++b):=by
 rcases h with rfl | rfl
 ·simpa using hb
 ·simpa using ha
theorem Cp{X Y:List Pt}{a m e mid N s lo hi:Nat}(hx:a+X.length=m)(hy:m+Y.length=e)(hN:mid+m=N)(hX:Srt X)(hY:Srt Y)(hc:(lo=a/\hi=m)\/(lo+e=N/\hi=mid))(h1:lo<=s)(h2:s<=hi)
  (ha:a<=s) (hm:s<=m) (hd:s<=mid) (he:N<=s+e) (I1:s=lo\/cls X (s - 1 - a)<=cls Y (N - s - m)) (I2:s=hi\/cls Y (N - 1 - s - m)<cls X (s - a)) :
  ∃ X1 X2 Y1 Y2,X=X1++X2/\Y=Y1++Y2/\a+X1.length=s/\s+X2.length=m/\m+Y1.length=N - s/\N - s+Y2.length=e/\(∀ x∈X1,∀ y∈Y2,x.2<=y.2)/\(∀ y∈Y1,∀ x∈X2,y.2<x.2):=by
 refine⟨X.take (s - a),X.drop (s - a),Y.take (N - s - m),Y.drop (N - s - m),(take_append_drop _ _).symm,(take_append_drop _ _).symm,by rw[length_take];omega,by rw[length_drop];omega,by rw[length_take];omega,by rw[length_drop];omega,fun x hxm y hym=>?_,fun y hym x hxm=>?_⟩
 ·obtain⟨i,hi1,hi2,e1⟩:=eB hxm;obtain⟨k,hk1,hk2,e2⟩:=eC hym;rcases I1 with h | h
  ·rcases hc with⟨hc1,hc2⟩ | ⟨hc1,hc2⟩ <;> omega
  ·have g1:=fm hX (show i<=s - 1 - a by omega) (by omega);have g2:=fm hY hk1 hk2;rw[e1,e2];omega
 ·obtain⟨i,hi1,hi2,e1⟩:=eC hxm;obtain⟨k,hk1,hk2,e2⟩:=eB hym;rcases I2 with h | h
  ·rcases hc with⟨hc1,hc2⟩ | ⟨hc1,hc2⟩ <;> omega
  ·have g1:=fm hX hi1 hi2;have g2:=fm hY (show k<=N - 1 - s - m by omega) (by omega);rw[e1,e2];omega
def yy(b o n:Nat)(A X Y C:List Pt)(W:World)(r:Ending)(W':World):Prop:=r=.returned (.tuple #[])/\∃ Z,Pts W' b o (A++Z++C)/\Chg b o n W W'/\Srt Z/\Stb (X++Y) Z
theorem JN(F b o cap n:Nat)(hsz:n<=1000000)
  (ih:∀(a m e:Nat) (A X Y C:List Pt) (W:World),A.length=a->a+X.length=m->m+Y.length=e->e+C.length=n->0<X.length->0<Y.length->Srt X->Srt Y->e - a<F->Pts W b o (A++X++Y++C) ->
    Calls prog 383 #[.slice (some ⟨b,o,none⟩) n cap,.int .i64 a,.int .i64 m,.int .i64 e,.func (.func 363) #[] #[]] W fun r W'=>yy b o n A X Y C W r W')
  (a m e:Nat) (A X Y C:List Pt) (W:World) (ha:A.length=a) (hx:a+X.length=m) (hy:m+Y.length=e) (hn:e+C.length=n) (hx1:1<X.length) (hy1:1<Y.length) (hX:Srt X) (hY:Srt Y) (hF:e - a=F) (hP:Pts W b o (A++X++Y++C)) :
  Calls prog 383 #[.slice (some ⟨b,o,none⟩) n cap,.int .i64 a,.int .i64 m,.int .i64 e,.func (.func 363) #[] #[]] W fun r W'=>yy b o n A X Y C W r W':=by
 have ham:a+1<m:=by omega
 have hme:m+1<e:=by omega
 have hen:e<=n:=by omega
 have q1:((m:Int) - (a:Int)==1)=false:=by simp;omega
 have q2:((e:Int) - (m:Int)==1)=false:=by simp;omega
 obtain⟨mid,hmid,hm1,hm2⟩:∃ mid:Nat,((a:Int)+(e:Int)) / 2=(mid:Int)/\2 * mid<=a+e/\a+e<=2 * mid+1:=⟨(a+e) / 2,by omega,by omega,by omega⟩;obtain⟨N,hN,hN2⟩:∃ N:Nat,(mid:Int)+(m:Int)=(N:Int)/\mid+m=N:=⟨mid+m,by omega,rfl⟩;obtain⟨p,hp,hp2⟩:∃ p:Nat,(N:Int) - 1=(p:Int)/\p+1=N:=⟨N - 1,by omega,by omega⟩;have HN2:=hid hN2;have HP2:=hid hp2;have HIH:=hid ih;have HA:=hid ha;have HX:=hid hx;have HY:=hid hy;have HN:=hid hn;have HSX:=hid hX;have HSY:=hid hY;have HP:=hid hP;have HF:=hid hF;have hNn:N<=2000000:=by omega
 clear ha hx hy hn hP hX hY hF ih hN2 hp2 hx1 hy1;go_enter func383,ntmps383
 go_upto_if 140 with fail
 go_cut [20,21] from 138 (fun v20 v21 wc=>∃ lo hi:Nat,v20=.int .i64 lo/\v21=.int .i64 hi/\W=wc/\Hid ((lo=a/\hi=m)\/(lo+e=N/\hi=mid))/\a<=lo/\lo<=hi/\hi<=m/\hi<=mid/\N<=lo+e)
 case first =>
  by_cases hmm:mid<m
  ·have hz:(mid:Int)<(m:Int):=by omega
   have hz2:(N:Int) - (e:Int)=((N - e:Nat):Int):=by have:=HN2.out;omega
   go_wp2
   go_meet
   case rel=>exact⟨N - e,mid,by first | rfl | (congr 1),rfl,rfl,.inr ⟨by have:=HN2.out;omega,rfl⟩,by have:=HN2.out;omega,by have:=HN2.out;omega,by omega,le_refl _,by have:=HN2.out;omega⟩
  ·have hz:¬ (mid:Int)<(m:Int):=by omega
   go_wp2
   go_meet
   case rel=>exact⟨a,m,rfl,rfl,rfl,.inl ⟨rfl,rfl⟩,le_refl _,by omega,le_refl _,by omega,by have:=HN2.out;omega⟩
 case rest =>
  obtain⟨lo,hi,rfl,rfl,rfl,HC,hl1,hl2,hl3,hl4,hl5⟩:=hcut;go_wp2_with fail
  go_loopw [20,21,23] (fun vs vr vc wr=>∃(s r:Nat),vs=.int .i64 s/\vr=.int .i64 r/\lo<=s/\s<=r/\r<=hi/\Below W.heap.size W wr/\Hid (s=lo\/cls X (s - 1 - a)<=cls Y (N - s - m))/\Hid (r=hi\/cls Y (N - 1 - r - m)<cls X (r - a)))
   (fun vs vr _ _=>(intOf vr).toNat - (intOf vs).toNat)
  case atStart=>exact⟨lo,hi,rfl,rfl,le_refl _,hl2,le_refl _,Below.refl _ _,.inl rfl,.inl rfl⟩
  case round =>
   obtain⟨s,r,rfl,rfl,hs1,hsr,hr1,hB,I1,I2⟩:=hrel;by_cases hlt:s<r
   ·have hltz:(s:Int)<(r:Int):=by omega
    obtain⟨c,hc,hc1,hc2⟩:∃ c:Nat,((s:Int)+(r:Int)) / 2=(c:Int)/\s<=c/\c<r:=⟨(s+r) / 2,by omega,by omega,by omega⟩;obtain⟨d,hd,hd2⟩:∃ d:Nat,(p:Int) - (c:Int)=(d:Int)/\d+c+1=N:=⟨p - c,by have:=HP2.out;have:=HN2.out;omega,by have:=HP2.out;have:=HN2.out;omega⟩;have HD2:=hid hd2;have hdm:m<=d:=by have:=HN2.out;omega
    have hde:d<e:=by have:=HN2.out;omega
    clear hd2;have hPr:Pts wr b o (A++X++Y++C):=HP.out.below hB HP.out.lt;have hlen:(A++X++Y++C).length=n:=by have:=HA.out;have:=HX.out;have:=HY.out;have:=HN.out;simp;omega
    have hcx:c - a<X.length:=by have:=HX.out;omega
    have hdy:d - m<Y.length:=by have:=HY.out;omega
    have e0:=hPr.c0 c (by omega);have e1:=hPr.c1 c (by omega);have e2:=hPr.c0 d (by omega);have e3:=hPr.c1 d (by omega);have eg:(A++X++Y++C)[c]?.getD z2=X[c - a]?.getD z2:=by rw[show A++X++Y++C=A++X++(Y++C) by simp,show c=a+(c - a) by omega,sw _ _ _ a (c - a) HA.out hcx];congr 2;omega
    have eh:(A++X++Y++C)[d]?.getD z2=Y[d - m]?.getD z2:=by rw[show d=m+(d - m) by omega,sw _ _ _ m (d - m) (by have:=HA.out;have:=HX.out;simp;omega) hdy];congr 2;omega
    rw[eg]at e0 e1;rw[eh]at e2 e3;have HCX:Hid (cls X (c - a)=(X[c - a]?.getD z2).2):=rfl;have HCY:Hid (cls Y (d - m)=(Y[d - m]?.getD z2).2):=rfl;generalize X[c - a]?.getD z2=x at e0 e1 HCX;generalize Y[d - m]?.getD z2=y at e2 e3 HCY;have hlb:b<wr.heap.size:=hPr.lt;have hz1:(c:Int)<(n:Int):=by omega
    have hz2:(d:Int)<(n:Int):=by omega
    have hne:Nonempty (aH wr):=⟨⟨wr,Below.refl _ _⟩⟩;have x0:∀ u:aH wr,u.W.cell? ⟨b,o+c * 2,none⟩=some (.int .i32 x.1):=fun u=>(u.h.cell (p:=⟨b,o+c * 2,none⟩) hlb).trans e0;have x1:∀ u:aH wr,u.W.cell? ⟨b,o+c * 2+1,none⟩=some (.int .u8 x.2):=fun u=>(u.h.cell (p:=⟨b,o+c * 2+1,none⟩) hlb).trans e1;have x2:∀ u:aH wr,u.W.cell? ⟨b,o+d * 2,none⟩=some (.int .i32 y.1):=fun u=>(u.h.cell (p:=⟨b,o+d * 2,none⟩) hlb).trans e2;have x3:∀ u:aH wr,u.W.cell? ⟨b,o+d * 2+1,none⟩=some (.int .u8 y.2):=fun u=>(u.h.cell (p:=⟨b,o+d * 2+1,none⟩) hlb).trans e3;have hcall:Hid (∀ W:World,Calls prog 363 #[.agg #[.int .i32 y.1,.int .u8 y.2],.agg #[.int .i32 x.1,.int .u8 x.2]] W fun e w'=>e=.returned (.int .i64 (jq y.2 x.2))/\Below W.heap.size W w'):=fun W=>fx y x W;have hci:=kS y.2 x.2;generalize jq y.2 x.2=ci at hci hcall;have HB:=hid hB;clear e0 e1 e2 e3 eg eh hPr hB;by_cases hxp:y.2<x.2
    ·have hci':ci<0:=hci.2 hxp;clear hci;go_wp2_with fail;refine aw (by kernel_rfl) (by kernel_rfl) ?_;repeat (go_big_quiet_step ((go_at_call 363;exact aH.call _ (hcall.out _))))
     refine wpQuiet_nil ?_;rintro _ ⟨u,rfl⟩;have HBu:=hid (HB.out.trans (u.h.mono HB.out.size));clear x0 x1 x2 x3 hne;generalize u.W=wu at *;go_wp2
     go_roundw
     case rel=>exact⟨s,c,rfl,rfl,hs1,hc1,by omega,HBu.out,I1,.inr (by rw[show N - 1 - c - m=d - m by have:=HD2.out;omega,HCX.out,HCY.out];exact hxp)⟩
     case measure=>simp[intOf] <;> omega
    ·have hci':¬ ci<0:=fun h=>hxp (hci.1 h);have hcd:decide (ci<0)=false:=by simpa using hci'
     clear hci;go_wp2_with fail;refine aw (by kernel_rfl) (by kernel_rfl) ?_;repeat (go_big_quiet_step ((go_at_call 363;exact aH.call _ (hcall.out _))))
     refine wpQuiet_nil ?_;rintro _ ⟨u,rfl⟩;have HBu:=hid (HB.out.trans (u.h.mono HB.out.size));clear x0 x1 x2 x3 hne;generalize u.W=wu at *;go_wp2
     go_roundw
     case rel=>exact⟨c+1,r,by go_num,rfl,by omega,by omega,hr1,HBu.out,.inr (by rw[show c+1 - 1 - a=c - a by omega,show N - (c+1) - m=d - m by have:=HD2.out;omega,HCX.out,HCY.out];omega),I2⟩
     case measure=>simp[intOf] <;> omega
   ·have hltz:¬ (s:Int)<(r:Int):=by omega
    obtain rfl:s=r:=by omega
    obtain⟨X1,X2,Y1,Y2,hXX,hYY,l1,l2,l3,l4,C1,C2⟩:=Cp HX.out HY.out HN2.out HSX.out HSY.out HC.out hs1 hr1 (by omega) (by omega) (by omega) (by omega) I1.out I2.out;obtain⟨t,ht,ht2⟩:∃ t:Nat,(N:Int) - (s:Int)=(t:Int)/\t+s=N:=⟨N - s,by have:=HN2.out;omega,by have:=HN2.out;omega⟩;have hts:N - s=t:=by omega
    rw[hts]at l3 l4;have HT2:=hid ht2;have L1:=hid l1;have L2:=hid l2;have L3:=hid l3;have L4:=hid l4;have b1:a<=s:=by omega
    have b2:s<=m:=by omega
    have b3:m<=t:=by omega
    have b4:t<=e:=by omega
    have b5:s<=mid:=by omega
    have b6:mid<=t:=by have:=HN2.out;omega
    have HXX:=hid hXX;have HYY:=hid hYY;have HC1:=hid C1;have HC2:=hid C2;have HSp:Hid (Srt (X1++X2)/\Srt (Y1++Y2)):=⟨by rw[<-hXX];exact HSX.out,by rw[<-hYY];exact HSY.out⟩;have hPr:Hid (Pts wr b o (A++X1++X2++Y1++Y2++C)):=by have:=HP.out.below hB HP.out.lt;show Pts _ _ _ _;rw[hXX,hYY]at this;simpa using this
    have hCr:Hid (Chg b o n W wr):=(Chg.refl HP.out n).below hB;clear hXX hYY l1 l2 l3 l4 C1 C2 ht2 hts hB I1 I2 hltz
    go_upto_region 39 with fail
    go_cut [185] from 178 (fun v wc=>v=.bool (decide (s<m/\m<t))/\wr=wc)
    case first =>
     by_cases g1:s<m
     ·have g1z:(s:Int)<(m:Int):=by omega
      have g1d:decide ((s:Int)<(m:Int))=true:=decide_eq_true g1z;by_cases g2:m<t
      ·have g2z:(m:Int)<(t:Int):=by omega
       have g2d:decide ((m:Int)<(t:Int))=true:=decide_eq_true g2z;have GG:Hid (decide (s<m/\m<t)=true):=decide_eq_true ⟨g1,g2⟩;go_wp2
       go_meet
       case rel=>exact⟨by rw[GG.out],rfl⟩
      ·have g2d:decide ((m:Int)<(t:Int))=false:=decide_eq_false (by omega);have GG:Hid (decide (s<m/\m<t)=false):=decide_eq_false (fun h=>g2 h.2);go_wp2
       go_meet
       case rel=>exact⟨by rw[GG.out],rfl⟩
     ·have g1d:decide ((s:Int)<(m:Int))=false:=decide_eq_false (by omega);have GG:Hid (decide (s<m/\m<t)=false):=decide_eq_false (fun h=>g1 h.1);go_wp2
      go_meet
      case rel=>exact⟨by rw[GG.out],rfl⟩
    case rest =>
     obtain⟨rfl,rfl⟩:=hcut;obtain⟨B,hB⟩:∃ B:Bool,B=decide (s<m/\m<t):=⟨_,rfl⟩;rw[<-hB];have HB:=hid hB;clear hB
     go_upto_if 185 with fail
     go_cut [] from 178 (fun wc=>Hid (Pts wc b o (A++X1++Y1++X2++Y2++C))/\Hid (Chg b o n W wc))
     case first =>
      cases B with
      | true =>
       have hb:=of_decide_eq_true HB.out.symm;have hc:=xe b o cap n s m t (A++X1) X2 Y1 (Y2++C) (.func (.func 363) #[] #[]) wr (by have:=HA.out;have:=L1.out;simp;omega) L2.out L3.out (by have:=L4.out;have:=HN.out;simp;omega) (by have:=L2.out;omega) (by have:=L3.out;omega) hsz (by have:=hPr.out;simpa using this);have HCc:=hid hc;clear hc hb;go_wp2_with fail;refine(show Calls _ _ _ _ _ from HCc.out).mono ?_;rintro r w2 ⟨rfl,hPn,hCn⟩;go_wp2
       go_meet
       case rel=>exact⟨by show Pts _ _ _ _;simpa using hPn,hCr.out.trans hCn⟩
      | false =>
       have hb:=of_decide_eq_false HB.out.symm
       have hz:X2=[]\/Y1=[]:=by
        by_cases h:s<m
        ·exact .inr (List.length_eq_zero_iff.1 (by have:=L3.out;omega))
        ·exact .inl (List.length_eq_zero_iff.1 (by have:=L2.out;omega))
       have HPn:Hid (Pts wr b o (A++X1++Y1++X2++Y2++C)):=by show Pts _ _ _ _;have:=hPr.out;rcases hz with hz | hz <;> rw[hz]at this ⊢ <;> simpa using this
       clear hb hz;go_wp2
       go_meet
       case rel=>exact⟨HPn,hCr⟩
     case rest =>
      obtain⟨HP1,HC1r⟩:=hcut;clear hPr hCr HB;generalize wc=wr at *
      go_upto_region 41 with fail
      go_cut [199] from 192 (fun v wc=>v=.bool (decide (a<s/\s<mid))/\wr=wc)
      case first =>
       by_cases g1:a<s
       ·have g1z:(a:Int)<(s:Int):=by omega
        have g1d:decide ((a:Int)<(s:Int))=true:=decide_eq_true g1z;by_cases g2:s<mid
        ·have g2z:(s:Int)<(mid:Int):=by omega
         have g2d:decide ((s:Int)<(mid:Int))=true:=decide_eq_true g2z;have GG:Hid (decide (a<s/\s<mid)=true):=decide_eq_true ⟨g1,g2⟩;go_wp2
         go_meet
         case rel=>exact⟨by rw[GG.out],rfl⟩
        ·have g2d:decide ((s:Int)<(mid:Int))=false:=decide_eq_false (by omega);have GG:Hid (decide (a<s/\s<mid)=false):=decide_eq_false (fun h=>g2 h.2);go_wp2
         go_meet
         case rel=>exact⟨by rw[GG.out],rfl⟩
       ·have g1d:decide ((a:Int)<(s:Int))=false:=decide_eq_false (by omega);have GG:Hid (decide (a<s/\s<mid)=false):=decide_eq_false (fun h=>g1 h.1);go_wp2
        go_meet
        case rel=>exact⟨by rw[GG.out],rfl⟩
      case rest =>
       obtain⟨rfl,rfl⟩:=hcut;obtain⟨B,hB⟩:∃ B:Bool,B=decide (a<s/\s<mid):=⟨_,rfl⟩;rw[<-hB];have HB:=hid hB;clear hB
       go_upto_if 199 with fail
       go_cut [] from 192 (fun wc=>∃ Z1,Hid (Pts wc b o (A++Z1++X2++Y2++C))/\Hid (Chg b o n W wc)/\Hid (Srt Z1)/\Hid (Stb (X1++Y1) Z1))
       case first =>
        cases B with
        | true =>
         have hb:=of_decide_eq_true HB.out.symm;have hc:=HIH.out a s mid A X1 Y1 (X2++Y2++C) wr HA.out L1.out (by have:=L3.out;have:=HT2.out;have:=HN2.out;omega) (by have:=L2.out;have:=L4.out;have:=HN.out;have:=HT2.out;have:=HN2.out;simp;omega) (by have:=L1.out;omega) (by have:=L3.out;have:=HT2.out;have:=HN2.out;omega) (aT.1 HSp.out.1).1 (aT.1 HSp.out.2).1 (by have:=HF.out;omega) (by have:=HP1.out;simpa using this);have HCc:=hid hc;clear hc hb;go_wp2_with fail;refine(show Calls _ _ _ _ _ from HCc.out).mono ?_;rintro r w2 ⟨rfl,Z1,hPn,hCn,hS1,hT1⟩;go_wp2
         go_meet
         case rel=>exact⟨Z1,by show Pts _ _ _ _;simpa using hPn,HC1r.out.trans hCn,hS1,hT1⟩
        | false =>
         have hb:=of_decide_eq_false HB.out.symm
         have hz:X1=[]\/Y1=[]:=by
          by_cases h:a<s
          ·exact .inr (List.length_eq_zero_iff.1 (by have:=L3.out;have:=HT2.out;have:=HN2.out;omega))
          ·exact .inl (List.length_eq_zero_iff.1 (by have:=L1.out;omega))
         have HPn:Hid (Pts wr b o (A++(X1++Y1)++X2++Y2++C)/\Srt (X1++Y1)):=by refine⟨by have:=HP1.out;simpa using this,?_⟩;exact DZ (aT.1 HSp.out.1).1 (aT.1 HSp.out.2).1 hz
         clear hb hz;go_wp2
         go_meet
         case rel=>exact⟨X1++Y1,HPn.out.1,HC1r,HPn.out.2,Stb.refl _⟩
       case rest =>
        obtain⟨Z1,HP2r,HC2r,HS1,HT1⟩:=hcut;clear HP1 HC1r HB;generalize wc=wr at *;have HL1:Hid (Z1.length+a=mid):=by show _=_;have:=HT1.out.len;have:=L1.out;have:=L3.out;have:=HT2.out;have:=HN2.out;simp at *;omega
        go_upto_region 43 with fail
        go_cut [213] from 206 (fun v wc=>v=.bool (decide (mid<t/\t<e))/\wr=wc)
        case first =>
         by_cases g1:mid<t
         ·have g1z:(mid:Int)<(t:Int):=by omega
          have g1d:decide ((mid:Int)<(t:Int))=true:=decide_eq_true g1z;by_cases g2:t<e
          ·have g2z:(t:Int)<(e:Int):=by omega
           have g2d:decide ((t:Int)<(e:Int))=true:=decide_eq_true g2z;have GG:Hid (decide (mid<t/\t<e)=true):=decide_eq_true ⟨g1,g2⟩;go_wp2
           go_meet
           case rel=>exact⟨by rw[GG.out],rfl⟩
          ·have g2d:decide ((t:Int)<(e:Int))=false:=decide_eq_false (by omega);have GG:Hid (decide (mid<t/\t<e)=false):=decide_eq_false (fun h=>g2 h.2);go_wp2
           go_meet
           case rel=>exact⟨by rw[GG.out],rfl⟩
         ·have g1d:decide ((mid:Int)<(t:Int))=false:=decide_eq_false (by omega);have GG:Hid (decide (mid<t/\t<e)=false):=decide_eq_false (fun h=>g1 h.1);go_wp2
          go_meet
          case rel=>exact⟨by rw[GG.out],rfl⟩
        case rest =>
         obtain⟨rfl,rfl⟩:=hcut;obtain⟨B,hB⟩:∃ B:Bool,B=decide (mid<t/\t<e):=⟨_,rfl⟩;rw[<-hB];have HB:=hid hB;clear hB;cases B with
         | true =>
          have hb:=of_decide_eq_true HB.out.symm;have hc:=HIH.out mid t e (A++Z1) X2 Y2 C wr (by have:=HA.out;have:=HL1.out;simp;omega) (by have:=L2.out;have:=HT2.out;have:=HN2.out;omega) L4.out HN.out (by have:=L2.out;have:=HT2.out;have:=HN2.out;omega) (by have:=L4.out;omega) (aT.1 HSp.out.1).2.1 (aT.1 HSp.out.2).2.1 (by have:=HF.out;omega) (by have:=HP2r.out;simpa using this);have HCc:=hid hc;clear hc hb;go_wp2_with fail;refine(show Calls _ _ _ _ _ from HCc.out).mono ?_;rintro r w2 ⟨rfl,Z2,hPn,hCn,hS2,hT2⟩;go_wp2
          go_end0
          have hfin:=lQ HSp.out.1 HSp.out.2 HC1.out HC2.out HS1.out hS2 HT1.out hT2;refine⟨rfl,Z1++Z2,by simpa using hPn,HC2r.out.trans hCn,hfin.1,?_⟩;rw[HXX.out,HYY.out];exact hfin.2
         | false =>
          have hb:=of_decide_eq_false HB.out.symm
          have hz:X2=[]\/Y2=[]:=by
           by_cases h:mid<t
           ·exact .inr (List.length_eq_zero_iff.1 (by have:=L4.out;omega))
           ·exact .inl (List.length_eq_zero_iff.1 (by have:=L2.out;have:=HT2.out;have:=HN2.out;omega))
          have HS2:Hid (Srt (X2++Y2)):=by exact DZ (aT.1 HSp.out.1).2.1 (aT.1 HSp.out.2).2.1 hz
          clear hb hz;go_wp2
          go_end0
          have hfin:=lQ HSp.out.1 HSp.out.2 HC1.out HC2.out HS1.out HS2.out HT1.out (Stb.refl _);refine⟨rfl,Z1++(X2++Y2),by have:=HP2r.out;simpa using this,HC2r.out,hfin.1,?_⟩;rw[HXX.out,HYY.out];exact hfin.2
theorem yM(b o cap n:Nat)(hsz:n<=1000000):∀(F:Nat) (a m e:Nat) (A X Y C:List Pt) (W:World),A.length=a->a+X.length=m->m+Y.length=e->e+C.length=n->0<X.length->0<Y.length->Srt X->Srt Y->e - a<F->Pts W b o (A++X++Y++C) ->
  Calls prog 383 #[.slice (some ⟨b,o,none⟩) n cap,.int .i64 a,.int .i64 m,.int .i64 e,.func (.func 363) #[] #[]] W fun r W'=>yy b o n A X Y C W r W':=by
 intro F
 induction F with
 | zero=>intro a m e A X Y C W _ _ _ _ _ _ _ _ h;omega
 | succ F ih =>
  intro a m e A X Y C W ha hx hy hn hX0 hY0 hX hY hF hP;by_cases h1:X.length=1
  ·obtain⟨x,rfl⟩:=List.length_eq_one_iff.1 h1;exact DL b o cap n a m e A x Y C W ha (by simpa using hx) hy hn hY hsz (by simpa using hP)
  by_cases h2:Y.length=1
  ·obtain⟨y,rfl⟩:=List.length_eq_one_iff.1 h2;exact AG b o cap n a m e A X y C W ha hx h1 (by simpa using hy) hn hX hsz (by simpa using hP)
  exact JN (e - a) b o cap n hsz (fun a' m' e' A' X' Y' C' W' q1 q2 q3 q4 q5 q6 q7 q8 q9 q10=>ih a' m' e' A' X' Y' C' W' q1 q2 q3 q4 q5 q6 q7 q8 (by omega) q10) a m e A X Y C W ha hx hy hn (by omega) (by omega) hX hY rfl hP
def Blk(s:Nat)(D:List (List Pt)):Prop:=∀ d∈D,d.length=s/\Srt d
theorem Blk.len{s:Nat}:∀ {D:List (List Pt)},Blk s D->D.flatten.length=s * D.length
 | [],_=>by simp
 | d::D,h=>by have h1:=(h d (by simp)).1;have h2:=Blk.len (D:=D) (fun x hx=>h x (by simp[hx]));simp only[List.flatten_cons,length_append,length_cons];rw[h1,h2,Nat.mul_add];omega
theorem Blk.snoc{s:Nat}{D:List (List Pt)}{d:List Pt}(h:Blk s D)(h1:d.length=s)(h2:Srt d):Blk s (D++[d]):=by
 intro x hx;rcases List.mem_append.1 hx with hx | hx
 ·exact h x hx
 ·simp at hx;subst hx;exact⟨h1,h2⟩
theorem Blk.nil(s:Nat):Blk s []:=fun d hd=>by cases hd
theorem wj{s:Nat}{D:List (List Pt)}{F:List Pt}(h:Blk s D)(hF:Srt F)(hn:D.flatten.length+F.length<=s)(hs:0<s):Srt (D.flatten++F):=by
 have hl:=h.len;match D,h,hl,hn with
 | [],_,_,_=>simpa using hF
 | [d],h,hl,hn =>
  have h1:=h d (by simp);have:F=[]:=List.length_eq_zero_iff.1 (by simp at hn;omega);rw[this];simpa using h1.2
 | d::d'::D,h,hl,hn =>
  have h1:=(h d (by simp)).1;have h2:=(h d' (by simp)).1;simp at hn;omega
theorem Ng{s:Nat}{D:List (List Pt)}{F:List Pt}(h:Blk s D)(hF:F.length<s)(hn:2 * s<=D.flatten.length+F.length):∃ X Y D',D=X::Y::D':=by
 have hl:=h.len;match D,h,hl,hn with
 | [],_,_,hn=>simp at hn;omega
 | [d],h,hl,hn =>
  have h1:=(h d (by simp)).1;simp at hn;omega
 | d::d'::D,h,hl,hn=>exact⟨d,d',D,rfl⟩
theorem II{s:Nat}{D:List (List Pt)}{F:List Pt}(h:Blk s D)(hn:D.flatten.length+F.length<2 * s):D=[]\/∃ X,D=[X]:=by
 have hl:=h.len;match D,h,hl,hn with
 | [],_,_,hn=>exact .inl rfl
 | [d],h,hl,hn=>exact .inr ⟨d,rfl⟩
 | d::d'::D,h,hl,hn =>
  have h1:=(h d (by simp)).1;have h2:=(h d' (by simp)).1;simp at hn;omega
theorem wU(b o cap n:Nat)(l:List Pt)(W:World)(hn:l.length=n)(hsz:n<=100000)(hP:Pts W b o l):
  Calls prog 376 #[.slice (some ⟨b,o,none⟩) n cap,.int .i64 n,.func (.func 363) #[] #[]] W fun r W'=>r=.returned (.tuple #[])/\Pts W' b o (di l)/\Chg b o n W W':=by
 have HN:=hid hn;have HP:=hid hP;have FIN:Hid (∀ W' l',Pts W' b o l'->Chg b o n W W'->Srt l'->Stb l l'->Pts W' b o (di l)/\Chg b o n W W'):=fun W' l' h1 h2 h3 h4=>by rw[<-Gw h4 h3];exact⟨h1,h2⟩
 clear hn hP;go_enter func376,ntmps376;go_wp2_with fail
 go_loopw [7,8] (fun v7 v8 wr=>∃(a:Nat) (D:List (List Pt)) (E:List Pt),v7=.int .i64 a/\v8=.int .i64 (a+20:Nat)/\a<=n/\Pts wr b o (D.flatten++E)/\Hid (D.flatten.length=a)/\Hid (Blk 20 D)/\Hid (Stb l (D.flatten++E))/\Chg b o n W wr)
  (fun v7 _ _=>n - (intOf v7).toNat)
 case atStart=>exact⟨0,[],l,rfl,rfl,zero_le _,by simpa using HP.out,rfl,Blk.nil _,(by show Stb _ _;simpa using Stb.refl l),Chg.refl HP.out n⟩
 case round =>
  obtain⟨a,D,E,rfl,rfl,han,hPr,HL,HB,HS,hCr⟩:=hrel;have HE:Hid (a+E.length=n):=by show _=_;have:=HS.out.len;have:=HL.out;have:=HN.out;simp at *;omega
  have HPr:=hid hPr;have HCr:=hid hCr;clear hPr hCr;by_cases hlt:a+20<=n
  ·have hz:(a:Int)+20<=(n:Int):=by omega
   obtain⟨M,C,hEM,hM⟩:∃ M C,E=M++C/\M.length=20:=⟨E.take 20,E.drop 20,(take_append_drop _ _).symm,by rw[length_take];have:=HE.out;omega⟩;have HEM:=hid hEM;have hc:=zI b o cap n a 20 D.flatten M C wr HL.out hM (by have:=HE.out;rw[hEM]at this;simp at this;omega) (by omega) (by have:=HPr.out;rw[hEM]at this;simpa using this);have HC:=hid hc;have HM:=hid hM;clear hc hEM hM;go_wp2_with fail;refine(show Calls _ _ _ _ _ from HC.out).mono ?_;rintro r w2 ⟨rfl,M',hPn,hCn,hSn,hTn⟩;go_wp2
   go_roundw
   case rel =>
    refine⟨a+20,D++[M'],C,rfl,by go_num,hlt,?_,?_,HB.out.snoc (by rw[hTn.len];exact HM.out) hSn,?_,HCr.out.trans hCn⟩
    ·simpa using hPn
    ·show _=_;have h1:=HL.out;have h2:=hTn.len;have h3:=HM.out;simp at h1 ⊢;omega
    ·show Stb _ _;refine HS.out.trans ?_;rw[HEM.out];have:=((Stb.refl D.flatten).append hTn).append (Stb.refl C);simpa using this
   case measure=>simp[intOf] <;> omega
  ·have hz:¬ (a:Int)+20<=(n:Int):=by omega
   have hc:=zI b o cap n a E.length D.flatten E [] wr HL.out rfl (by have:=HE.out;simp;omega) (by omega) (by have:=HPr.out;simpa using this);rw[HE.out]at hc;have HC:=hid hc;clear hc;go_wp2_with fail;refine(show Calls _ _ _ _ _ from HC.out).mono ?_;rintro r w2 ⟨rfl,F0,hPn,hCn,hSn,hTn⟩;have HP2:Hid (Pts w2 b o (D.flatten++F0)):=by show Pts _ _ _ _;simpa using hPn
   have HC2:=hid (HCr.out.trans hCn);have HS2:Hid (Stb l (D.flatten++F0)):=HS.out.trans ((Stb.refl _).append hTn);have HF2:Hid (F0.length<20):=by show _<_;rw[hTn.len];have:=HE.out;omega
   have HSF:=hid hSn;clear hPn hCn hSn hTn HS HPr HCr HC;go_wp2_with fail
   go_loopw [6,7,8,9] (fun v6 v7 v8 v9 wr=>∃(s:Nat) (D:List (List Pt)) (F:List Pt),v6=.int .i64 s/\0<s/\s<=300000/\Pts wr b o (D.flatten++F)/\Hid (Blk s D)/\Hid (F.length<s)/\Hid (Srt F)/\Hid (Stb l (D.flatten++F))/\Chg b o n W wr)
    (fun v6 _ _ _ _=>n - (intOf v6).toNat)
   case atStart=>exact⟨20,D,F0,rfl,by omega,by omega,HP2.out,HB,HF2,HSF,HS2,HC2.out⟩
   case round =>
    obtain⟨s,D,F,rfl,hs0,hs1,hPr,HB,HF,HSF,HS,hCr⟩:=hrel;have HLn:Hid (D.flatten.length+F.length=n):=by show _=_;have:=HS.out.len;have:=HN.out;simp at *;omega
    by_cases hsn:s<n
    ·have hz2:(s:Int)<(n:Int):=by omega
     obtain⟨t,ht1,ht2,ht3⟩:∃ t:Nat,2 * (s:Int)=(t:Int)/\(s:Int) * 2=(t:Int)/\2 * s=t:=⟨2 * s,by omega,by omega,rfl⟩;have HT:=hid ht3;have ht4:t<=200000:=by omega
     have ht5:s<t:=by omega
     clear ht3;have HPr:=hid hPr;have HCr:=hid hCr;clear hPr hCr;go_wp2_with fail
     go_loopw [7,8] (fun v7 v8 wr=>∃(a:Nat) (E D':List (List Pt)),v7=.int .i64 a/\v8=.int .i64 (a+t:Nat)/\a<=n/\Pts wr b o (E.flatten++(D'.flatten++F))/\Hid (E.flatten.length=a)/\Hid (Blk t E)/\Hid (Blk s D')/\Hid (Stb l (E.flatten++(D'.flatten++F)))/\Chg b o n W wr)
      (fun v7 _ _=>n - (intOf v7).toNat)
     case atStart=>exact⟨0,[],D,rfl,by first | rfl | (congr 1;omega),zero_le _,by simpa using HPr.out,rfl,Blk.nil _,HB,(by show Stb _ _;simpa using HS.out),HCr.out⟩
     case round =>
      obtain⟨a,E,D',rfl,rfl,han,hPr,HL,HBE,HBD,HS,hCr⟩:=hrel;have HE:Hid (a+(D'.flatten.length+F.length)=n):=by show _=_;have:=HS.out.len;have:=HL.out;have:=HN.out;simp at *;omega
      have HPr:=hid hPr;have HCr:=hid hCr;clear hPr hCr;by_cases hlt:a+t<=n
      ·have hz:(a:Int)+(t:Int)<=(n:Int):=by omega
       obtain⟨X,Y,D2,hD⟩:=Ng HBD.out HF.out (by have:=HT.out;have:=HE.out;omega);have hX:=HBD.out X (by rw[hD];simp);have hY:=HBD.out Y (by rw[hD];simp);have HBD2:Hid (Blk s D2):=fun d hd=>HBD.out d (by rw[hD];simp[hd]);have hc:=yM b o cap n (by omega) (n+1) a (a+s) (a+t) E.flatten X Y (D2.flatten++F) wr HL.out (by omega) (by have:=HT.out;omega) (by have h1:=HE.out;have:=HT.out;rw[hD]at h1;simp at h1 ⊢;omega) (by omega) (by omega) hX.2 hY.2 (by omega) (by have:=HPr.out;rw[hD]at this;simpa using this);have HC:=hid hc;have HD:=hid hD;have HXY:Hid (X.length=s/\Y.length=s):=⟨hX.1,hY.1⟩;clear hc hD hX hY;go_wp2_with fail;refine(show Calls _ _ _ _ _ from HC.out).mono ?_;rintro r w3 ⟨rfl,Z,hPn,hCn,hSn,hTn⟩;go_wp2
       go_roundw
       case rel =>
        refine⟨a+t,E++[Z],D2,rfl,by go_num,hlt,?_,?_,HBE.out.snoc (by rw[hTn.len];have:=HXY.out;have:=HT.out;simp;omega) hSn,HBD2,?_,HCr.out.trans hCn⟩
        ·simpa using hPn
        ·show _=_;have h1:=HL.out;have h2:=hTn.len;have h3:=HXY.out;have:=HT.out;simp at h1 h2 ⊢;omega
        ·show Stb _ _;refine HS.out.trans ?_;rw[HD.out];have:=((Stb.refl E.flatten).append hTn).append (Stb.refl (D2.flatten++F));simpa using this
       case measure=>simp[intOf] <;> omega
      ·have hz:¬ (a:Int)+(t:Int)<=(n:Int):=by omega
       by_cases hm:a+s<n
       ·have hzm:(a:Int)+(s:Int)<(n:Int):=by omega
        obtain⟨X,hD⟩:∃ X,D'=[X]:=by
         rcases II (F:=F) HBD.out (by have:=HE.out;have:=HT.out;omega) with h | h
         ·have h1:=HE.out;have:=HF.out;rw[h]at h1;simp at h1;omega
         ·exact h
        have hX:=HBD.out X (by rw[hD];simp);have hc:=yM b o cap n (by omega) (n+1) a (a+s) n E.flatten X F [] wr HL.out (by omega) (by have h1:=HE.out;rw[hD]at h1;simp at h1;omega) (by simp) (by omega) (by have h1:=HE.out;rw[hD]at h1;simp at h1;omega) hX.2 HSF.out (by omega) (by have:=HPr.out;rw[hD]at this;simpa using this);have HC:=hid hc;have HD:=hid hD;have HXl:=hid hX.1;clear hc hD hX;go_wp2_with fail;refine(show Calls _ _ _ _ _ from HC.out).mono ?_;rintro r w3 ⟨rfl,Z,hPn,hCn,hSn,hTn⟩;go_wp2
        go_roundw
        case rel =>
         refine⟨t,E,Z,rfl,by omega,by omega,by simpa using hPn,HBE,?_,hSn,?_,HCr.out.trans hCn⟩
         ·show _<_;rw[hTn.len];have:=HXl.out;have:=HT.out;have:=HF.out;simp;omega
         ·show Stb _ _;refine HS.out.trans ?_;rw[HD.out];have:=(Stb.refl E.flatten).append hTn;simpa using this
        case measure=>simp[intOf] <;> omega
       ·have hzm:¬ (a:Int)+(s:Int)<(n:Int):=by omega
        have HG:Hid (∃ G,D'.flatten++F=G/\Srt G/\G.length<t):=by
         refine⟨_,rfl,?_,?_⟩
         ·exact wj HBD.out HSF.out (by have:=HE.out;omega) hs0
         ·have:=HE.out;have:=HT.out;rw[length_append];omega
        go_wp2
        go_roundw
        case rel =>
         obtain⟨G,hG1,hG2,hG3⟩:=HG.out;have h1:=HPr.out;have h2:=HS.out;rw[hG1]at h1 h2;exact⟨t,E,G,rfl,by omega,by omega,h1,HBE,hG3,hG2,h2,HCr.out⟩
        case measure=>simp[intOf] <;> omega
    ·have hz2:¬ (s:Int)<(n:Int):=by omega
     have HR:=hid (FIN.out wr _ hPr hCr (wj HB.out HSF.out (by have:=HLn.out;omega) hs0) HS.out);go_wp2
     go_end0
     exact⟨rfl,HR.out.1,HR.out.2⟩
def cl(r:Int):Int:=(D.fnd r).2.2.2.2.2.1
def pt(r:Int):Pt:=(r,cl r)
def wP:Nat->Int->Bool
 | 0,r=>(D.dcp r).isEmpty
 | k+1,r=>(D.dcp r).all (wP k)
def fdn:Nat->Int->List Int
 | 0,r=>[r]
 | k+1,r=>if (D.dcp r).isEmpty then [r] else (D.dcp r).flatMap (fdn k)
def fd(r:Int):List Int:=fdn 5 r
def keys:List Int:=[8486,8490,8491]++D.prs.map (·.1)
theorem gM{r:Int}(h:(D.dcp r).isEmpty=false):r∈keys:=by
 unfold D.dcp at h;by_cases hs:D.sgl r≠0
 ·unfold keys;rw[List.mem_append];refine .inl ?_;unfold D.sgl at hs;by_cases h1:r=8486
  ·simp[h1]
  by_cases h2:r=8490
  ·simp[h2]
  by_cases h3:r=8491
  ·simp[h3]
  have e1:(r==8486)=false:=by simpa using h1
  have e2:(r==8490)=false:=by simpa using h2
  have e3:(r==8491)=false:=by simpa using h3
  exact absurd (by simp[List.lookup,e1,e2,e3]) hs
 ·rw[if_neg hs]at h;cases he:D.prs.find? (fun x=>x.1==r) with
  | none=>rw[he]at h;simp at h
  | some p =>
   unfold keys;rw[List.mem_append];exact .inr (List.mem_map.2 ⟨p,List.mem_of_find?_eq_some he,by simpa using List.find?_some he⟩)
theorem Mb:(keys.all fun r=>wP 4 r&&decide (fdn 5 r=(D.dcp r).flatMap (fdn 5))&&decide (cl r=0)&&(fd r).all (fun c=>(D.dcp c).isEmpty)&&decide (cl ((fd r).headD 0)=0)&&decide ((fd r).length<=3)&&!(fd r).isEmpty)=true:=by kernel_rfl
theorem kB{r:Int}(h:r∈keys):wP 4 r=true/\fd r=(D.dcp r).flatMap fd/\cl r=0/\(∀ c∈fd r,D.dcp c=[])/\cl ((fd r).headD 0)=0/\(fd r).length<=3/\fd r≠[]:=by have:=List.all_eq_true.1 Mb r h;simp only[Bool.and_eq_true,decide_eq_true_eq,List.all_eq_true,Bool.not_eq_true',List.isEmpty_iff,List.isEmpty_eq_false_iff]at this;obtain⟨⟨⟨⟨⟨⟨h1,h2⟩,h3⟩,h4⟩,h5⟩,h6⟩,h7⟩:=this;exact⟨h1,h2,h3,h4,h5,h6,h7⟩
theorem Rm(r:Int):wP 4 r=true:=by
 cases h:(D.dcp r).isEmpty with
 | true =>
      have:D.dcp r=[]:=by simpa using h
      show(D.dcp r).all (wP 3)=true;rw[this];rfl
 | false=>exact(kB (gM h)).1
theorem lD{r:Int}(h:D.dcp r=[]):fd r=[r]:=by show(if (D.dcp r).isEmpty then [r] else _)=[r];rw[h];rfl
theorem MG{r:Int}(h:D.dcp r≠[]):fd r=(D.dcp r).flatMap fd:=(kB (gM (by simpa using h))).2.1
theorem Hl(r:Int):1<=(fd r).length/\(fd r).length<=3:=by
 by_cases h:D.dcp r=[]
 ·rw[lD h];simp
 ·have:=kB (gM (by simpa using h))
  exact⟨by have:=this.2.2.2.2.2.2;cases e:fd r with
    | nil=>exact absurd e this
    | cons a l=>simp,this.2.2.2.2.2.1⟩
theorem MF{r:Int}(h:cl r=0):cl ((fd r).headD 0)=0:=by
 by_cases h1:D.dcp r=[]
 ·rw[lD h1];exact h
 ·exact(kB (gM (by simpa using h1))).2.2.2.2.1
theorem zO(l:List Int):(l.flatMap fd).length<=l.length * 3:=by
 induction l with
 | nil=>simp
 | cons a l ih=>rw[List.flatMap_cons,length_append,length_cons];have:=(Hl a).2;omega
theorem nC{α:Type}{P:List α->Prop}(h0:P [])(h1:∀ l p,P l->P (l++[p]))(l:List α):P l:=by
 have:∀ r:List α,P r.reverse:=by
  intro r
  induction r with
  | nil=>exact h0
  | cons a r ih=>rw[List.reverse_cons];exact h1 _ _ ih
 have h:=this l.reverse
 rwa [List.reverse_reverse]at h
theorem tlv(c:Array Value)(i:Nat):c.toList[i]? = c[i]? := by simp
def stp(s:List Pt×List Pt)(p:Pt):List Pt×List Pt:=if p.2=0 then (s.1++di s.2++[p],[]) else (s.1,s.2++[p])
def st(l:List Pt):List Pt×List Pt:=l.foldl stp ([],[])
def ord(l:List Pt):List Pt:=(st l).1++di (st l).2
theorem rB(l:List Pt)(p:Pt):st (l++[p])=stp (st l) p:=by simp[st,List.foldl_append]
theorem DY(l:List Pt):(st l).1.length+(st l).2.length=l.length:=by
 induction l using nC with
 | h0=>rfl
 | h1 l p ih =>
  rw[rB];unfold stp;split
  ·have:=(cP (st l).2).len;simp only[length_append,length_cons,length_nil];omega
  ·simp only[length_append,length_cons,length_nil];omega
def c2(p:Pt):List Value:=[.int .i32 p.1,.int .u8 p.2]
def bg(l:List Pt):List Value:=l.flatMap c2
theorem cQ(l:List Pt):(bg l).length=l.length * 2:=by
 induction l with
 | nil=>rfl
 | cons s l ih=>simp only[bg,List.flatMap_cons,length_append,length_cons]at ih ⊢;rw[ih];simp[c2];omega
theorem lC(l:List Pt):∀ j,j<l.length->(bg l)[j * 2]? = some (.int .i32 (l[j]?.getD z2).1)/\(bg l)[j * 2+1]? = some (.int .u8 (l[j]?.getD z2).2):=by
 induction l with
 | nil=>intro j hj;simp at hj
 | cons s l ih =>
  intro j hj;rcases j with _ | j
  ·simp[bg,c2]
  ·have h:=ih j (by simpa using hj);have e:bg (s::l)=c2 s++bg l:=rfl;have hl:(c2 s).length=2:=rfl;rw[e,getElem?_append_right (by omega),getElem?_append_right (by omega),hl,show(j+1) * 2 - 2=j * 2 by omega,show(j+1) * 2+1 - 2=j * 2+1 by omega];simpa using h
theorem fp{W:World}{base g n cap:Nat}{O S:List Pt}(h:W.ownsRow base 312 2 (.slice (some ⟨g,0,none⟩) n cap) n (bg (O++S))):Pts W g (O.length * 2) S:=by
 obtain⟨hl,h⟩:=h;rcases h with⟨h,_⟩ | ⟨g',cap',cur,e,_,hg,_,_,_,ht⟩
 ·cases h
 ·cases e;refine⟨cur,312,hg,fun j hj=>?_⟩;have hn:(O++S).length * 2=n * 2:=by rw[<-hl,cQ]
  rw[length_append]at hn;have hf:=lC (O++S) (O.length+j) (by rw[length_append];omega);rw[<-ht,getElem?_take_of_lt (by omega),getElem?_take_of_lt (by omega),tlv,tlv]at hf;rw[show O.length * 2+j * 2=(O.length+j) * 2 by omega];rw[getElem?_append_right (by omega),show O.length+j - O.length=j by omega]at hf;exact hf
theorem Cc{n:Nat}{X:List Value}{l:List Pt}(hn:l.length=n)(hX:X.length=n * 2)(h:∀ j,j<n->X[j * 2]? = some (.int .i32 (l[j]?.getD z2).1)/\X[j * 2+1]? = some (.int .u8 (l[j]?.getD z2).2)):X=bg l:=by
 apply List.ext_getElem?;intro i;by_cases hi:i<n * 2
 ·have hj:=h (i / 2) (by omega);have hf:=lC l (i / 2) (by omega);rcases Nat.mod_two_eq_zero_or_one i with hm | hm
  ·rw[show i=i / 2 * 2 by omega,hj.1,hf.1]
  ·rw[show i=i / 2 * 2+1 by omega,hj.2,hf.2]
 ·rw[List.getElem?_eq_none (by omega),List.getElem?_eq_none (by rw[cQ];omega)]
theorem ub{W W':World}{base g n cap:Nat}{O S S':List Pt}(h:W.ownsRow base 312 2 (.slice (some ⟨g,0,none⟩) n cap) n (bg (O++S)))(hc:Chg g (O.length * 2) S.length W W')(hp:Pts W' g (O.length * 2) S')(hl:S'.length=S.length):
  W'.ownsRow base 312 2 (.slice (some ⟨g,0,none⟩) n cap) n (bg (O++S')):=by
 obtain⟨hl0,h⟩:=h;rcases h with⟨h,_⟩ | ⟨g',cap',cur,e,hb,hg,hn1,hn2,hn3,ht⟩
 ·cases h
 ·cases e;obtain⟨c1,c2',t,e1,e2,hs,hf⟩:=hc.blk;rw[hg]at e1;cases e1;obtain⟨c3,t3,e3,hp⟩:=hp;rw[e2]at e3;cases e3;have hn:(O++S).length * 2=n * 2:=by rw[<-hl0,cQ]
  rw[length_append]at hn;refine⟨by rw[cQ,length_append,hl];exact hn,.inr ⟨g,cap,c2',rfl,hb,e2,hn1,hn2,by rw[hs,hn3],?_⟩⟩;refine Cc (n:=n) (by rw[length_append,hl];omega) (by rw[length_take,Array.length_toList,hs,hn3];have:=Nat.mul_le_mul_right 2 hn1;omega) (fun j hj=>?_);rw[getElem?_take_of_lt (by omega),getElem?_take_of_lt (by omega),tlv,tlv];by_cases hjo:j<O.length
  ·rw[hf _ (.inl (by omega)),hf _ (.inl (by omega))];have hff:=lC (O++S) j (by rw[length_append];omega);rw[<-ht,getElem?_take_of_lt (by omega),getElem?_take_of_lt (by omega),tlv,tlv,List.getElem?_append_left hjo]at hff;rw[List.getElem?_append_left hjo];exact hff
  ·have:=hp (j - O.length) (by omega);rw[show O.length * 2+(j - O.length) * 2=j * 2 by omega]at this;rw[getElem?_append_right (by omega)];exact this
theorem lv(b o cap n:Nat)(l:List Pt)(W:World)(hn:l.length=n)(hsz:n<=100000)(hP:Pts W b o l):
  Calls prog 333 #[.slice (some ⟨b,o,none⟩) n cap] W fun r W'=>r=.returned (.tuple #[])/\Pts W' b o (di l)/\Chg b o n W W':=by
 have hst:Calls prog 362 #[.slice (some ⟨b,o,none⟩) n cap,.func (.func 363) #[] #[]] W fun r W'=>r=.returned (.tuple #[])/\Pts W' b o (di l)/\Chg b o n W W':=by
  have hs:=hid (wU b o cap n l W hn hsz hP);clear hP hn;go_enter func362,ntmps362;go_wp2_with fail;refine(show Calls _ _ _ _ _ from hs.out).mono ?_;rintro r W' ⟨rfl,h1,h2⟩;go_wp2
  go_end0
  exact⟨rfl,h1,h2⟩
 have hs:=hid hst;clear hP hn hst;go_enter func333,ntmps333;go_wp2_with fail;refine(show Calls _ _ _ _ _ from hs.out).mono ?_;rintro r W' ⟨rfl,h1,h2⟩;go_wp2
 go_end0
 exact⟨rfl,h1,h2⟩
theorem Gy(a:Option Addr)(cap:Nat)(W:World):Calls prog 382 #[.slice a 0 cap,.int .i64 0,.int .i64 0,.func (.func 363) #[] #[]] W fun r W'=>r=.returned (.tuple #[])/\W'=W:=by
 go_enter func382,ntmps382;go_wp2_with fail;refine wp_loop_rounds 1 ?_;rw[rounds_succ];go_wp2
 go_end0
 exact⟨rfl,rfl⟩
theorem oo(a:Option Addr)(cap:Nat)(W:World):Calls prog 333 #[.slice a 0 cap] W fun r W'=>r=.returned (.tuple #[])/\W'=W:=by
 have h1:Calls prog 376 #[.slice a 0 cap,.int .i64 0,.func (.func 363) #[] #[]] W fun r W'=>r=.returned (.tuple #[])/\W'=W:=by
  go_enter func376,ntmps376;go_wp2_with fail;refine wp_loop_rounds 1 ?_;rw[rounds_succ];go_wp2_with fail;refine(Gy a cap _).mono ?_;rintro r W' ⟨rfl,rfl⟩;go_wp2_with fail;refine wp_loop_rounds 1 ?_;rw[rounds_succ];go_wp2
  go_end0
  exact⟨rfl,rfl⟩
 have h2:Calls prog 362 #[.slice a 0 cap,.func (.func 363) #[] #[]] W fun r W'=>r=.returned (.tuple #[])/\W'=W:=by
  have hs:=hid h1;clear h1;go_enter func362,ntmps362;go_wp2_with fail;refine(show Calls _ _ _ _ _ from hs.out).mono ?_;rintro r W' ⟨rfl,rfl⟩;go_wp2
  go_end0
  exact⟨rfl,rfl⟩
 have hs:=hid h2;clear h1 h2;go_enter func333,ntmps333;go_wp2_with fail;refine(show Calls _ _ _ _ _ from hs.out).mono ?_;rintro r W' ⟨rfl,rfl⟩;go_wp2
 go_end0
 exact⟨rfl,rfl⟩
open Go.RowKit Go.Shelf
def stays:Obj->Bool
 | .cells _ t _=>decide (t≠312/\t≠280/\t≠3)
 | _=>false
structure Kp(B:Nat)(W W':World):Prop where
 size:W.heap.size<=W'.heap.size
 cel:∀(k:Nat) (o:Obj),W.heap[k]? = some o->stays o=true->W'.heap[k]? = some o
 oth:∀(k:Nat) (o:Obj),B<=k->W.heap[k]? = some o->o.isCells=false->W'.heap[k]? = some o
theorem Kp.trans{B:Nat}{X Y Z:World}(h:Kp B X Y)(k:Kp B Y Z):Kp B X Z :=
 ⟨le_trans h.size k.size,fun i o hi ho=>k.cel i o (h.cel i o hi ho) ho,fun i o hb hi ho=>k.oth i o hb (h.oth i o hb hi ho) ho⟩
theorem Kp.mono{B C:Nat}{X Y:World}(h:Kp B X Y)(hb:B<=C):Kp C X Y:=⟨h.size,h.cel,fun i o hi=>h.oth i o (le_trans hb hi)⟩
theorem Kp.grown{B:Nat}{X Y:World}{row:Option Nat}(hg:X.grownBy Y row)(hr:∀ k,row=some k->∃ o:Obj,X.heap[k]? = some o/\o.isCells=true/\stays o=false):Kp B X Y:=by
 refine⟨hg.size,fun k o hk ho=>(hg.block k (Array.getElem?_eq_some_iff.1 hk).1 (fun e=>?_)).trans hk,fun k o _ hk ho=>(hg.block k (Array.getElem?_eq_some_iff.1 hk).1 (fun e=>?_)).trans hk⟩
 ·obtain⟨o',h1,h2,h3⟩:=hr k e.symm;rw[hk]at h1;cases h1;rw[ho]at h3;cases h3
 ·obtain⟨o',h1,h2,h3⟩:=hr k e.symm;rw[hk]at h1;cases h1;rw[ho]at h2;cases h2
theorem Kp.below{B:Nat}{X Y:World}(h:Below X.heap.size X Y):Kp B X Y :=
 ⟨h.size,fun k o hk _=>(h.block k (Array.getElem?_eq_some_iff.1 hk).1).trans hk,fun k o _ hk _=>(h.block k (Array.getElem?_eq_some_iff.1 hk).1).trans hk⟩
theorem Kp.boxed{B b:Nat}{X Y:World}{t:TypeId}{v:Value}(h:Kp B X Y)(hb:Boxed X b t v)(ht:t≠312/\t≠280/\t≠3):Boxed Y b t v :=
 h.cel b _ hb (by simpa[stays]using ht)
def jB(g:Nat)(lb:Array Value)(xs:List Int)(w:World):Prop :=
 ∀(l:Nat) (J:List Int->World->Prop) (W:World),Below w.heap.size w W->OwnFrom W.heap.size J ->
  (∀ pre x W1,J pre W1->pre++[x] <+: xs->∀ m,YieldAt Fence.wide m prog l #[.int .i32 x] W1 fun e W'=>e=.returned (.bool true)/\J (pre++[x]) W'/\Kp W.heap.size W1 W') ->
  J [] W->∀ n,CallsIn Fence.wide n prog g (#[.func (.yield l) #[] #[]]++lb) W fun e W'=>(∃ v,e=.returned v)/\J xs W'
def Qi(B:Nat)(I:List Int->World->Prop)(xs:List Int)(W:World):Exit->Act->World->Prop
 | .normal,_,W'=>Kp B W W'/\I xs W'
 | _,_,_=>False
theorem OwnFrom.mono{β:Type}{B C:Nat}{I:β->World->Prop}(h:OwnFrom B I)(hb:B<=C):OwnFrom C I :=
 fun s X Y row hs hg hr=>h s X Y row hs hg (fun r e=>⟨le_trans hb (hr r e).1,(hr r e).2⟩)
theorem dR{β:Type}{B k:Nat}{o:Obj}(hk:k<B):OwnFrom B (fun(_:β) W=>W.heap[k]? = some o) :=
 fun s X Y row hs hg hr=>(hg.block k (Array.getElem?_eq_some_iff.1 hs).1 (fun e=>by have:=(hr k e.symm).1;omega)).trans hs
theorem iv{g:Operand}{ps:Array Tmp}{assign body:Code}{Q:Exit->Act->World->Prop}{a:Act}{w:World}{n gf:Nat}{lb:Array Value}{xs:List Int}
  (hg:a.eval g=.func (.func gf) #[] lb) (eg:∀ args w,(callFunc gf args).run prog w=.ok (.enter gf args) w) (hseq:jB gf lb xs w) (hps:ps.size=1)
  (I:List Int->World->Prop) (hI:OwnFrom w.heap.size I) (h0:I [] w) (a₁:Int->Act)
  (hassign:∀(l:Nat) (x:Int) (W:World) (m:Nat) (K:Act->World->Prop),K (a₁ x) W ->
    assign.wpIn (Fence.wide.inRound l) m prog (Exit.then K (fun _ _ _=>False)) { tmps:=(ps.zip #[Value.int .i32 x]).foldl (fun t (p,v)=>t.setIfInBounds p v) a.tmps,defers:=[] } W)
  (hbody:∀(l:Nat) (pre:List Int) (x:Int) (W:World) (m:Nat),I pre W->pre++[x] <+: xs->body.wpIn (Fence.wide.inRound l) m prog (Qi w.heap.size I (pre++[x]) W) (a₁ x) W)
  (hdone:∀(D:Nat) (W:World),w.heap.size<=D->I xs W->W.heap[D]? = some (.deferred (some []))->Q .normal { a with defers:={ target:=.collected D,args:=#[] }::a.defers } W) :
  (Code.rangeFunc g ps assign body).wpIn Fence.wide n prog Q a w:=by
 refine wpIn_rangeFunc fun fn hfn=>?_;obtain⟨B,hB⟩:∃ B,B=w.heap.size:=⟨_,rfl⟩;obtain⟨rdy,hrdy⟩:∃ r:Loop,r={ state:=.ready,pending:=none,fn:=fn,tmps:=a.tmps,params:=ps,assign:=assign,body:=body,defers:=B }:=⟨_,rfl⟩;obtain⟨V,hV⟩:∃ V,V=(w.alloc (.deferred (some []))).alloc (.loop rdy):=⟨_,rfl⟩;have hVs:V.heap.size=B+2:=by rw[hV,hB];simp
 have hVl:V.heap[B+1]? = some (.loop rdy):=by rw[hV,hB];have:=World.alloc_heap_new (w.alloc (.deferred (some []))) (.loop rdy);rwa [World.size_alloc]at this
 have hVd:V.heap[B]? = some (.deferred (some [])):=by rw[hV,hB];exact(Below.heap_alloc _ _ _ (by simp)).trans (World.alloc_heap_new w _)
 have hVb:Below w.heap.size w V:=by rw[hV];exact((Below.refl _ w).alloc (le_refl _) _).alloc (by simp) _
 refine⟨B+1,[{ target:=.collected B,args:=#[] }],V,{ target:=.fn (.func gf) lb,args:=#[.func (.yield (B+1)) #[] #[]] },V,gf,#[.func (.yield (B+1)) #[] #[]]++lb,V,?_,?_,fun _ _=>trivial,?_,(fun h=>by cases h),?_⟩
 ·rw[hV,hrdy,hB];exact run_enterLoop_outer _ _ _ _ _
 ·simp only[resolve,hg];simp[go_sem]
 ·simp[invoke,go_sem,eg]
 have hIb:OwnFrom B I:=by rw[hB];exact hI
 refine(hseq (B+1) (fun pre W=>I pre W/\W.heap[B+1]? = some (.loop rdy)/\W.heap[B]? = some (.deferred (some []))) V hVb ?_ ?_ ⟨?_,hVl,hVd⟩ (n - 1)).mono ?_
 ·refine OwnFrom.and (OwnFrom.mono hI (by omega)) (OwnFrom.and (dR (by omega)) (dR (by omega)))
 ·rintro pre x W ⟨hi,hl,hd⟩ hp m;have hlt:B+1<W.heap.size:=(Array.getElem?_eq_some_iff.1 hl).1;have hy:=run_yield (P:=prog) (args:=#[Value.int .i32 x]) hl (by rw[hrdy];exact hps.symm);rw[hrdy]at hy;refine⟨fn,_,assign,body,hy,roundIn_of_wpIn hfn (hassign _ x W m _ ⟨_,run_beginRound hl (by rw[hrdy]),?_⟩)⟩;obtain⟨V1,hV1⟩:∃ V1,V1=W.putObj (B+1) (.loop { rdy with state:=.busy }):=⟨_,rfl⟩;rw[<-hV1];have l1:V1.heap[B+1]? = some (.loop { rdy with state:=.busy }):=by rw[hV1];exact World.putObj_heap_same hlt
  have d1:V1.heap[B]? = some (.deferred (some [])):=by rw[hV1];exact(putObj_heap_other (by omega)).trans hd
  have i1:I pre V1:=by rw[hV1];exact hIb.putObj _ hi (by omega) hl rfl
  have k1:Kp (B+2) W V1:=by
   rw[hV1];refine⟨by simp,fun k o hk ho=>?_,fun k o hb hk ho=>(putObj_heap_other (by omega)).trans hk⟩;by_cases e:k=B+1
   ·subst e;rw[hl]at hk;cases hk;cases ho
   ·exact(putObj_heap_other e).trans hk
  refine wpIn_mono (hbody (B+1) pre x V1 m i1 hp) ?_;rintro ex a3 W3 hq;cases ex with
  | normal =>
   obtain⟨k3,i3⟩:=hq;rw[<-hB]at k3;have l3:=k3.oth _ _ (by omega) l1 rfl;have d3:=k3.oth _ _ (le_refl _) d1 rfl;refine⟨_,_,run_endRound (P:=prog) none l3,rfl,⟨hIb.putObj _ i3 (by omega) l3 rfl,?_,(putObj_heap_other (by omega)).trans d3⟩,?_⟩
   ·rw[World.putObj_heap_same (Array.getElem?_eq_some_iff.1 l3).1,hrdy];rfl
   ·rw[hVs];refine k1.trans ((k3.mono (by omega)).trans ?_);refine⟨by simp,fun k o hk ho=>?_,fun k o hb hk ho=>(putObj_heap_other (by omega)).trans hk⟩;by_cases e:k=B+1
    ·subst e;rw[l3]at hk;cases hk;cases ho
    ·exact(putObj_heap_other e).trans hk
  | ret=>exact hq.elim
  | exit _=>exact hq.elim
  | goto _=>exact hq.elim
  | panic _=>exact hq.elim
  | outgrown=>exact hq.elim
 ·rw[hV];exact OwnFrom.alloc hI _ (OwnFrom.alloc hI _ h0)
 ·rintro e W2 ⟨⟨v,rfl⟩,hi,hl,hd⟩;refine⟨none,_,by have:=run_endLoop (P:=prog) hl (by rw[hrdy];simp);rw[hrdy]at this;exact this,?_⟩;rw[<-hrdy];exact hdone B _ (by omega) (hIb.putObj _ hi (by omega) hl rfl) ((putObj_heap_other (by omega)).trans hd)
attribute [local go_sem] Oper.semAt_some
def bU(W:World)(v:Value)(zs:List Int):Prop :=
 ∃ a cap,v=.slice a zs.length cap/\(0<zs.length->∃ b off cur,a=some ⟨b,off,none⟩/\W.heap[b]? = some (.cells cur 21 (0,0))/\∀ j,j<zs.length->cur[off+j]? = some (.int .i32 (zs[j]?.getD 0)))
theorem bU.of_ints{W:World}{v:Value}{zs:List Int}(h:D.av W v zs):bU W v zs:=by obtain⟨a,cap,e,_,f⟩:=h;refine⟨a,cap,e,fun hp=>?_⟩;obtain⟨b,e2,g⟩:=f hp;refine⟨b,0,_,e2,g,fun j hj=>?_⟩;simp[getElem?_eq_getElem hj]
theorem bU.of_own{W:World}{base n:Nat}{v:Value}{zs:List Int}(hn:n=zs.length)(h:W.ownsRow base 21 1 v n (zs.map (Value.int .i32))):bU W v zs:=by
 subst hn;rcases h.2 with⟨rfl,h0⟩ | ⟨g,cap,cur,rfl,_,hg,_,_,_,ht⟩
 ·exact⟨none,0,by rw[h0],fun hp=>by omega⟩
 ·refine⟨_,cap,rfl,fun hp=>⟨g,0,cur,rfl,hg,fun j hj=>?_⟩⟩;have h1:(cur.toList.take (zs.length * 1))[j]? = some (.int .i32 (zs[j]?.getD 0)):=by rw[ht,List.getElem?_map,getElem?_eq_getElem hj];rfl
  rw[getElem?_take_of_lt (by omega)]at h1;simpa using h1
theorem bU.kp{B:Nat}{W W':World}{v:Value}{zs:List Int}(h:bU W v zs)(hk:Kp B W W'):bU W' v zs:=by obtain⟨a,cap,e,f⟩:=h;refine⟨a,cap,e,fun hp=>?_⟩;obtain⟨b,off,cur,e2,g,hc⟩:=f hp;exact⟨b,off,cur,e2,hk.cel b _ g rfl,hc⟩
theorem bU.cell{W:World}{a:Option Addr}{n cap:Nat}{zs:List Int}(h:bU W (.slice a n cap) zs)(hn:n=zs.length)(hp:0<zs.length):∃ b off,a=some ⟨b,off,none⟩/\b<W.heap.size/\∀ j,j<zs.length->W.cell? ⟨b,off+j,none⟩=some (.int .i32 (zs[j]?.getD 0)):=by obtain⟨a',cap',e,f⟩:=h;cases e;obtain⟨b,off,cur,e2,g,hc⟩:=f hp;exact⟨b,off,e2,(Array.getElem?_eq_some_iff.1 g).1,fun j hj=>by simp[World.cell?,g,hc j hj]⟩
theorem iL{W W':World}(h:Below W.heap.size W W'):W.grownBy W' none:=⟨h.os,h.tape,h.output,h.size,fun k hk _=>h.block k hk⟩
theorem OwnFrom.below{β:Type}{B:Nat}{J:β->World->Prop}(hJ:OwnFrom B J){s:β}{W W':World}(h:J s W)(hb:Below W.heap.size W W'):J s W' :=
 hJ s W W' none h (iL hb) (fun r e=>by cases e)
def mk(D:Nat):Deferred:={ target:=.collected D,args:=#[] }
def Marks(B:Nat)(Ds:List Nat)(W:World):Prop:=∀ D∈Ds,B<=D/\W.heap[D]? = some (.deferred (some []))
theorem Marks.kp{B:Nat}{Ds:List Nat}{W W':World}(h:Marks B Ds W)(hk:Kp B W W'):Marks B Ds W':=fun D hD=>⟨(h D hD).1,hk.oth D _ (h D hD).1 (h D hD).2 rfl⟩
theorem Marks.ownFrom{β:Type}{B C:Nat}{Ds:List Nat}(h:∀ D∈Ds,D<C):OwnFrom C (fun(_:β) W=>Marks B Ds W) :=
 fun s X Y row hs hg hr D hD=>⟨(hs D hD).1,(hg.block D (Array.getElem?_eq_some_iff.1 (hs D hD).2).1 (fun e=>by have:=(hr D e.symm).1;have:=h D hD;omega)).trans (hs D hD).2⟩
theorem gL{n:Nat}{fn:Func}{tmps:Array Value}{R:Ending->World->Prop}{J:List Int->World->Prop}{xs:List Int}{B:Nat}{v:Value}(hJ:OwnFrom B J)(hres:∀ W,(results fn tmps).run prog W=.ok v W)
  (hR:∀ W',J xs W'->R (.returned v) W'):∀(Ds:List Nat) (W:World),Ds.Nodup->Marks B Ds W->J xs W->LeavesInM Fence.wide n prog fn tmps R (Ds.map mk) .returning W
 | [],W,_,_,hj=>⟨_,hres W,hR W hj⟩
 | D::Ds,W,hn,hm,hj=>by have hD:=hm D (by simp);refine⟨by simp,.inl ⟨D,_,rfl,run_takeDeferred hD.2,?_⟩⟩;refine gL hJ hres hR Ds _ (List.nodup_cons.1 hn).2 (fun E hE=>⟨(hm E (by simp[hE])).1,?_⟩) (hJ.putObj _ hj hD.1 hD.2 rfl);exact(putObj_heap_other (fun e=>(List.nodup_cons.1 hn).1 (by rw[<-e];exact hE))).trans (hm E (by simp[hE])).2
theorem wB(n:Nat)(r:Int)(w:World):
  CallsIn Fence.wide n prog 335 #[.int .i32 r] w fun e w'=>e=.returned (.func (.func 365) #[] #[.pointer (some ⟨w.heap.size,0,none⟩)])/\w'=w.alloc (.cells #[.int .i32 r] 21):=by
 refine callsIn_of_wp func335 rfl trivial ?_ rfl;simp only[ntmps335,size_toArray,length_cons,length_nil,Nat.reduceAdd,Nat.reduceSub,replicate_succ,replicate_zero,push_toArray,append_toArray,nil_append,cons_append];gi_wp2;go_ret;exact⟨rfl,rfl⟩
theorem MS(r:Int):(D.dcp r).length<=2:=by
 unfold D.dcp;split
 ·simp
 ·split <;> simp
theorem kY(k:Nat)(h:k<1000000):wrap64 ((k:Int)+1)=((k+1:Nat):Int):=by unfold wrap64;omega
theorem pw(r:Int)(hp:∀ p∈D.dcp r,∀(w:World) (Br:Nat),Boxed w Br 21 (.int .i32 p)->jB 365 #[.pointer (some ⟨Br,0,none⟩)] (fd p) w)
  (w:World) (Br:Nat) (hbr:Boxed w Br 21 (.int .i32 r)):jB 365 #[.pointer (some ⟨Br,0,none⟩)] (fd r) w:=by
 intro l J W hW hJ hY h0 n;have hbW:Boxed W Br 21 (.int .i32 r):=(hW.block Br hbr.lt).trans hbr;have hdec:=D.yj r;have hfn:=@lD r;have hfc:=@MG r;have hLl:=MS r;generalize D.dcp r=L at hp hdec hfn hfc hLl;have HDEC:=hid hdec;have HP:=hid hp;have hc1:=(hbW.alloc (.cells #[.func (.yield l) #[] #[]] 81)).cell;have hby:=Boxed.new W 81 (.func (.yield l) #[] #[]);obtain⟨B,hB⟩:∃ B,B=W.heap.size:=⟨_,rfl⟩;rw[<-hB]at hby;have HB:=hid hB;have HJ:Hid (OwnFrom B J):=by rw[hB];exact hJ
 clear hdec hp hJ;refine callsIn_of_wp_marks func365 rfl trivial ?_ rfl;simp only[ntmps365,size_toArray,length_cons,length_nil,Nat.reduceAdd,Nat.reduceSub,replicate_succ,replicate_zero,push_toArray,append_toArray,nil_append,cons_append];gi_wp2_with fail;refine⟨trivial,(fun h=>by cases h),?_⟩;refine(callsIn_wide.2 (HDEC.out _)).mono ?_;rintro e W2 ⟨⟨v,rfl,hI⟩,hB2⟩;have ag:=bU.of_ints hI;have hbb:Below W.heap.size W W2:=((Below.refl _ W).alloc (le_refl _) _).trans (hB2.mono (by simp));have hy2:Boxed W2 B 81 (.func (.yield l) #[] #[]):=(hB2.block B (by rw[hB];simp)).trans hby;have hr2:Boxed W2 Br 21 (.int .i32 r):=(hbb.block Br hbW.lt).trans hbW;have hj2:J [] W2:=OwnFrom.below HJ.out h0 hbb;have hs2:B<W2.heap.size:=hy2.lt;obtain⟨a,cap,rfl,hrf⟩:=ag;rw[<-hB];clear hI hbb hc1 hby hB hbW hB2;by_cases hL:L=[]
 ·subst hL;have cy:=hy2.cell;have cr:=hr2.cell;have hfd:fd r=[r]:=hfn rfl;obtain⟨fn,tmps,assign,body,hy,hR⟩:=hY [] r W2 hj2 (by rw[hfd];simp) (n - 1);gi_wp2;refine⟨(fun h=>by cases h),hR.mono ?_⟩;rintro e W3 ⟨rfl,hj3,hk3⟩;gi_wp2;exact⟨_,results_none rfl _ _ _,⟨_,rfl⟩,by rw[hfd];exact hj3⟩
 ·have hLp:0<L.length:=by cases L with
   | nil=>exact absurd rfl hL
   | cons a l=>simp
  have hLb:((L.length:Int)==0)=false:=by simp;omega
  obtain⟨b,off,cur,rfl,hbk,hcur⟩:=hrf hLp;have HC:=hid hcur;have hfd:Hid (fd r=L.flatMap fd):=hfc hL;clear hcur hrf hfn hfc HDEC hL;gi_wp2_with fail
  refine wpIn_loop (fun act wr=>∃(k:Nat) (Ds:List Nat) (u4 u5 u6 u12 u13 u14 u18 u19 u20 u21 u22 u23 u24 u25 u26 u27 u28:Value),k<=L.length/\Boxed wr B 81 (.func (.yield l) #[] #[])/\wr.heap[b]? = some (.cells cur 21 (0,0))/\J ((L.take k).flatMap fd) wr/\Marks B Ds wr/\Ds.Nodup /\
      act={ tmps:=#[.func (.yield l) #[] #[],.pointer (some ⟨Br,0,none⟩),.pointer (some ⟨B,0,none⟩),.slice (some ⟨b,off,none⟩) L.length cap,u4,u5,u6,.int .i32 r,.slice (some ⟨b,off,none⟩) L.length cap,.slice (some ⟨b,off,none⟩) L.length cap,.int .i64 L.length,.bool false,u12,u13,u14,.slice (some ⟨b,off,none⟩) L.length cap,.int .i64 L.length,.int .i64 k,u18,u19,u20,u21,u22,u23,u24,u25,u26,u27,u28],defers:=Ds.map mk })
   (fun act _=>L.length - (intOf (act.tmps.getD 17 undef)).toNat) ?_ ?_
  ·exact⟨0,[],_,_,_,_,_,_,_,_,_,_,_,_,_,_,_,_,_,zero_le _,hy2,hbk,by simpa using hj2,(fun D hD=>by cases hD),List.nodup_nil,rfl⟩
  ·rintro act wr ⟨k,Ds,u4,u5,u6,u12,u13,u14,u18,u19,u20,u21,u22,u23,u24,u25,u26,u27,u28,hk,hyr,hbr',hjr,hmr,hnd,rfl⟩;by_cases hlt:k<L.length
   ·have hltz:(k:Int)<(L.length:Int):=by omega
    have hck:wr.cell? ⟨b,off+k,none⟩=some (.int .i32 (L[k]?.getD 0)):=by simp[World.cell?,hbr',HC.out k hlt]
    have hpk:L[k]?.getD 0∈L:=by rw[getElem?_eq_getElem hlt];exact List.getElem_mem hlt
    have htk:Hid ((L.take (k+1)).flatMap fd=(L.take k).flatMap fd++fd (L[k]?.getD 0)):=by show _=_;rw[List.take_succ_eq_append_getElem hlt,flatMap_append,getElem?_eq_getElem hlt];simp
    have hpre:Hid ((L.take (k+1)).flatMap fd <+: fd r):=by
     show _ <+: _;rw[hfd.out]
     conv=>rhs;rw[<-take_append_drop (k+1) L,flatMap_append]
     exact List.prefix_append _ _
    have HPK:=hid (HP.out _ hpk);generalize L[k]?.getD 0=p at hck htk HPK;clear hpk HP;gi_wp2_with fail;refine⟨trivial,(fun h=>by cases h),?_⟩;refine(wB _ p _).mono ?_;rintro e W3 ⟨rfl,hW3⟩;gi_wp2_with fail;clear hW3;obtain⟨V,hV⟩:∃ V,V=wr.alloc (.cells #[.int .i32 p] 21):=⟨_,rfl⟩;have hVb:Below wr.heap.size wr V:=by rw[hV];exact(Below.refl _ wr).alloc (le_refl _) _
    have hVp:Boxed V wr.heap.size 21 (.int .i32 p):=by rw[hV];exact Boxed.new wr 21 _
    have hVy:Boxed V B 81 (.func (.yield l) #[] #[]):=(hVb.block B hyr.lt).trans hyr;have hVc:V.heap[b]? = some (.cells cur 21 (0,0)):=(hVb.block b (Array.getElem?_eq_some_iff.1 hbr').1).trans hbr';have hVj:J ((L.take k).flatMap fd) V:=OwnFrom.below HJ.out hjr hVb;have hVm:Marks B Ds V:=fun D hD=>⟨(hmr D hD).1,(hVb.block D (Array.getElem?_eq_some_iff.1 (hmr D hD).2).1).trans (hmr D hD).2⟩;have hBV:B<=V.heap.size:=Nat.le_of_lt hVy.lt;have hDV:∀ D∈Ds,D<V.heap.size:=fun D hD=>(Array.getElem?_eq_some_iff.1 (hVm D hD).2).1;have hbV:b<V.heap.size:=(Array.getElem?_eq_some_iff.1 hVc).1;rw[<-hV];clear hyr hbr' hjr hmr hVb hV hck
    refine iv (gf:=365) (lb:=#[.pointer (some ⟨wr.heap.size,0,none⟩)]) (xs:=fd p) rfl (enters_of func365 (by kernel_rfl) rfl) (HPK.out V wr.heap.size hVp) rfl
     (fun pre W'=>J ((L.take k).flatMap fd++pre) W'/\Boxed W' B 81 (.func (.yield l) #[] #[])/\W'.heap[b]? = some (.cells cur 21 (0,0))/\Marks B Ds W')
     (OwnFrom.and (fun s X Y row hs hg hr=>OwnFrom.mono HJ.out hBV _ X Y row hs hg hr) (OwnFrom.and (Own.from (boxed_own _ _ _) _) (OwnFrom.and (dR hbV) (Marks.ownFrom hDV))))
     ⟨by simpa using hVj,hVy,hVc,hVm⟩
     (fun x=>{ tmps:=#[.func (.yield l) #[] #[],.pointer (some ⟨Br,0,none⟩),.pointer (some ⟨B,0,none⟩),.slice (some ⟨b,off,none⟩) L.length cap,u4,.int .i32 p,.int .i32 x,.int .i32 r,.slice (some ⟨b,off,none⟩) L.length cap,.slice (some ⟨b,off,none⟩) L.length cap,.int .i64 L.length,.bool false,u12,u13,u14,.slice (some ⟨b,off,none⟩) L.length cap,.int .i64 L.length,.int .i64 k,.bool true,.pointer (some ⟨b,off+k,none⟩),.int .i32 p,.int .i32 p,.func (.func 365) #[] #[.pointer (some ⟨wr.heap.size,0,none⟩)],.int .i32 x,u24,u25,u26,u27,u28],defers:=[] }) ?assign ?body ?done
    case assign =>
     intro l' x W' m K hK;gi_wp2;exact hK
    case body =>
     rintro l' pre x W' m ⟨hj,hyb,hcb,hmb⟩ hpx;have cy:=hyb.cell;have hq:(L.take k).flatMap fd++pre++[x] <+: fd r:=by refine List.IsPrefix.trans ?_ hpre.out;rw[htk.out,append_assoc];exact(List.prefix_append_right_inj _).2 hpx
     obtain⟨fn,tmps,assign,body,hy,hR⟩:=hY _ x W' hj hq (m - 1);gi_wp2;refine⟨(fun h=>by cases h),hR.mono ?_⟩;rintro e W4 ⟨rfl,hj4,hk4⟩;rw[<-HB.out]at hk4;gi_wp2;exact⟨hk4.mono hBV,by rw[<-append_assoc];exact hj4,hk4.boxed hyb (by decide),hk4.cel b _ hcb rfl,hmb.kp hk4⟩
    case done =>
     rintro D W' hD ⟨hj,hyb,hcb,hmb⟩ hdf;have hws:=kY k (by omega);gi_wp2;refine⟨⟨k+1,D::Ds,_,_,_,_,_,_,_,_,_,_,_,_,_,_,_,_,_,by omega,hyb,hcb,by rw[htk.out];exact hj,?_,?_,rfl⟩,?_⟩
     ·intro E hE;rcases List.mem_cons.1 hE with rfl | hE
      ·exact⟨by omega,hdf⟩
      ·exact hmb E hE
     ·exact List.nodup_cons.2 ⟨fun h=>by have:=hDV D h;omega,hnd⟩
     ·simp[intOf];omega
   ·have hltz:¬ (k:Int)<(L.length:Int):=by omega
    have hkk:Hid ((L.take k).flatMap fd=fd r):=by show _=_;rw[take_of_length_le (by omega),hfd.out]
    gi_wp2;refine gL HJ.out (fun W=>results_none rfl _ _ _) (fun W' hj=>⟨⟨_,rfl⟩,hj⟩) Ds wr hnd hmr ?_;rw[<-hkk.out];exact hjr
theorem mc:∀(k:Nat) (r:Int),wP k r=true->∀(w:World) (Br:Nat),Boxed w Br 21 (.int .i32 r)->jB 365 #[.pointer (some ⟨Br,0,none⟩)] (fd r) w
 | 0,r,ht,w,Br,hb=>pw r (fun p hp=>by
     have:D.dcp r=[]:=by simpa[wP]using ht
     rw[this]at hp;cases hp) w Br hb
 | k+1,r,ht,w,Br,hb=>pw r (fun p hp=>mc k p (List.all_eq_true.1 ht p hp)) w Br hb
attribute [local go_sem] Oper.semAt_some
theorem wC(n:Nat)(v:Value)(w:World)(hv:∃ a m c,v=.slice a m c):
  CallsIn Fence.wide n prog 309 #[v] w fun e w'=>e=.returned (.func (.func 334) #[] #[.pointer (some ⟨w.heap.size,0,none⟩)])/\w'=w.alloc (.cells #[v] 43):=by
 obtain⟨a,m,c,rfl⟩:=hv;refine callsIn_of_wp func309 rfl trivial ?_ rfl;simp only[ntmps309,size_toArray,length_cons,length_nil,Nat.reduceAdd,Nat.reduceSub,replicate_succ,replicate_zero,push_toArray,append_toArray,nil_append,cons_append];gi_wp2;go_ret;exact⟨rfl,rfl⟩
theorem CF(w:World)(Bl:Nat)(v:Value)(L:List Int)(hlen:L.length<=100000)(hbl:Boxed w Bl 43 v)(hrow0:bU w v L):jB 334 #[.pointer (some ⟨Bl,0,none⟩)] (L.flatMap fd) w:=by
 intro l J W hW hJ hY h0 n;have hbW:Boxed W Bl 43 v:=(hW.block Bl hbl.lt).trans hbl;have ag:bU W v L:=hrow0.kp (Kp.below (B:=0) hW);obtain⟨a,cap,rfl,hrf⟩:=ag;have hc1:=(hbW.alloc (.cells #[.func (.yield l) #[] #[]] 81)).cell;have hby:=Boxed.new W 81 (.func (.yield l) #[] #[]);obtain⟨B,hB⟩:∃ B,B=W.heap.size:=⟨_,rfl⟩;rw[<-hB]at hby;have HB:=hid hB;have HJ:Hid (OwnFrom B J):=by rw[hB];exact hJ
 have hj2:J [] (W.alloc (.cells #[.func (.yield l) #[] #[]] 81)):=OwnFrom.alloc hJ _ h0;have hrf2:0<L.length->∃ b off cur,a=some ⟨b,off,none⟩/\(W.alloc (.cells #[.func (.yield l) #[] #[]] 81)).heap[b]? = some (.cells cur 21 (0,0))/\∀ j,j<L.length->cur[off+j]? = some (.int .i32 (L[j]?.getD 0)):=fun hp=>by obtain⟨b,off,cur,e2,g,hc⟩:=hrf hp;exact⟨b,off,cur,e2,(Below.heap_alloc W _ b (Array.getElem?_eq_some_iff.1 g).1).trans g,hc⟩
 clear hJ hrf;refine callsIn_of_wp_marks func334 rfl trivial ?_ rfl;simp only[ntmps334,size_toArray,length_cons,length_nil,Nat.reduceAdd,Nat.reduceSub,replicate_succ,replicate_zero,push_toArray,append_toArray,nil_append,cons_append];gi_wp2_with fail;rw[<-hB];clear hB
 refine wpIn_loop (fun act wr=>∃(k:Nat) (Ds:List Nat) (u3 u4 u5 u9 u10 u11 u12 u13 u14 u15 u16 u17 u18 u19:Value),k<=L.length/\Boxed wr B 81 (.func (.yield l) #[] #[])/\(0<L.length->∃ b off cur,a=some ⟨b,off,none⟩/\wr.heap[b]? = some (.cells cur 21 (0,0))/\∀ j,j<L.length->cur[off+j]? = some (.int .i32 (L[j]?.getD 0)))/\J ((L.take k).flatMap fd) wr/\Marks B Ds wr/\Ds.Nodup /\
     act={ tmps:=#[.func (.yield l) #[] #[],.pointer (some ⟨Bl,0,none⟩),.pointer (some ⟨B,0,none⟩),u3,u4,u5,.slice a L.length cap,.int .i64 L.length,.int .i64 k,u9,u10,u11,u12,u13,u14,u15,u16,u17,u18,u19],defers:=Ds.map mk })
  (fun act _=>L.length - (intOf (act.tmps.getD 8 undef)).toNat) ?_ ?_
 ·exact⟨0,[],_,_,_,_,_,_,_,_,_,_,_,_,_,_,zero_le _,hby,hrf2,by simpa using hj2,(fun D hD=>by cases hD),List.nodup_nil,rfl⟩
 ·rintro act wr ⟨k,Ds,u3,u4,u5,u9,u10,u11,u12,u13,u14,u15,u16,u17,u18,u19,hk,hyr,hfr,hjr,hmr,hnd,rfl⟩;by_cases hlt:k<L.length
  ·have hltz:(k:Int)<(L.length:Int):=by omega
   obtain⟨b,off,cur,rfl,hbr',hcur⟩:=hfr (by omega);have hck:wr.cell? ⟨b,off+k,none⟩=some (.int .i32 (L[k]?.getD 0)):=by simp[World.cell?,hbr',hcur k hlt]
   have HC:=hid hcur;have htk:Hid ((L.take (k+1)).flatMap fd=(L.take k).flatMap fd++fd (L[k]?.getD 0)):=by show _=_;rw[List.take_succ_eq_append_getElem hlt,flatMap_append,getElem?_eq_getElem hlt];simp
   have hpre:Hid ((L.take (k+1)).flatMap fd <+: L.flatMap fd):=by
    show _ <+: _
    conv=>rhs;rw[<-take_append_drop (k+1) L,flatMap_append]
    exact List.prefix_append _ _
   generalize L[k]?.getD 0=p at hck htk;clear hcur hfr hrf2;gi_wp2_with fail;refine⟨trivial,(fun h=>by cases h),?_⟩;refine(wB _ p _).mono ?_;rintro e W3 ⟨rfl,hW3⟩;gi_wp2_with fail;clear hW3;obtain⟨V,hV⟩:∃ V,V=wr.alloc (.cells #[.int .i32 p] 21):=⟨_,rfl⟩;have hVb:Below wr.heap.size wr V:=by rw[hV];exact(Below.refl _ wr).alloc (le_refl _) _
   have hVp:Boxed V wr.heap.size 21 (.int .i32 p):=by rw[hV];exact Boxed.new wr 21 _
   have hVy:Boxed V B 81 (.func (.yield l) #[] #[]):=(hVb.block B hyr.lt).trans hyr;have hVc:V.heap[b]? = some (.cells cur 21 (0,0)):=(hVb.block b (Array.getElem?_eq_some_iff.1 hbr').1).trans hbr';have hVj:J ((L.take k).flatMap fd) V:=OwnFrom.below HJ.out hjr hVb;have hVm:Marks B Ds V:=fun D hD=>⟨(hmr D hD).1,(hVb.block D (Array.getElem?_eq_some_iff.1 (hmr D hD).2).1).trans (hmr D hD).2⟩;have hBV:B<=V.heap.size:=Nat.le_of_lt hVy.lt;have hDV:∀ D∈Ds,D<V.heap.size:=fun D hD=>(Array.getElem?_eq_some_iff.1 (hVm D hD).2).1;have hbV:b<V.heap.size:=(Array.getElem?_eq_some_iff.1 hVc).1;rw[<-hV];clear hyr hbr' hjr hmr hVb hV hck hby hj2 hc1 hbW
   refine iv (gf:=365) (lb:=#[.pointer (some ⟨wr.heap.size,0,none⟩)]) (xs:=fd p) rfl (enters_of func365 (by kernel_rfl) rfl) (mc 4 p (Rm p) V wr.heap.size hVp) rfl
    (fun pre W'=>J ((L.take k).flatMap fd++pre) W'/\Boxed W' B 81 (.func (.yield l) #[] #[])/\W'.heap[b]? = some (.cells cur 21 (0,0))/\Marks B Ds W')
    (OwnFrom.and (fun s X Y row hs hg hr=>OwnFrom.mono HJ.out hBV _ X Y row hs hg hr) (OwnFrom.and (Own.from (boxed_own _ _ _) _) (OwnFrom.and (dR hbV) (Marks.ownFrom hDV))))
    ⟨by simpa using hVj,hVy,hVc,hVm⟩
    (fun x=>{ tmps:=#[.func (.yield l) #[] #[],.pointer (some ⟨Bl,0,none⟩),.pointer (some ⟨B,0,none⟩),u3,.int .i32 p,.int .i32 x,.slice (some ⟨b,off,none⟩) L.length cap,.int .i64 L.length,.int .i64 k,.bool true,.pointer (some ⟨b,off+k,none⟩),.int .i32 p,.int .i32 p,.func (.func 365) #[] #[.pointer (some ⟨wr.heap.size,0,none⟩)],.int .i32 x,u15,u16,u17,u18,u19],defers:=[] }) ?assign ?body ?done
   case assign =>
    intro l' x W' m K hK;gi_wp2;exact hK
   case body =>
    rintro l' pre x W' m ⟨hj,hyb,hcb,hmb⟩ hpx;have cy:=hyb.cell;have hq:(L.take k).flatMap fd++pre++[x] <+: L.flatMap fd:=by refine List.IsPrefix.trans ?_ hpre.out;rw[htk.out,append_assoc];exact(List.prefix_append_right_inj _).2 hpx
    obtain⟨fn,tmps,assign,body,hy,hR⟩:=hY _ x W' hj hq (m - 1);gi_wp2;refine⟨(fun h=>by cases h),hR.mono ?_⟩;rintro e W4 ⟨rfl,hj4,hk4⟩;rw[<-HB.out]at hk4;gi_wp2;exact⟨hk4.mono hBV,by rw[<-append_assoc];exact hj4,hk4.boxed hyb (by decide),hk4.cel b _ hcb rfl,hmb.kp hk4⟩
   case done =>
    rintro D W' hD ⟨hj,hyb,hcb,hmb⟩ hdf;have hws:=kY k (by omega);gi_wp2;refine⟨⟨k+1,D::Ds,_,_,_,_,_,_,_,_,_,_,_,_,_,_,by omega,hyb,(fun _=>⟨b,off,cur,rfl,hcb,HC.out⟩),by rw[htk.out];exact hj,?_,?_,rfl⟩,?_⟩
    ·intro E hE;rcases List.mem_cons.1 hE with rfl | hE
     ·exact⟨by omega,hdf⟩
     ·exact hmb E hE
    ·exact List.nodup_cons.2 ⟨fun h=>by have:=hDV D h;omega,hnd⟩
    ·simp[intOf];omega
  ·have hltz:¬ (k:Int)<(L.length:Int):=by omega
   have hkk:Hid ((L.take k).flatMap fd=L.flatMap fd):=by show _=_;rw[take_of_length_le (by omega)]
   gi_wp2;refine gL HJ.out (fun W=>results_none rfl _ _ _) (fun W' hj=>⟨⟨_,rfl⟩,hj⟩) Ds wr hnd hmr ?_;rw[<-hkk.out];exact hjr
attribute [local go_sem] Oper.semAt_some
theorem jB.later{g:Nat}{lb:Array Value}{xs:List Int}{w V:World}(h:jB g lb xs w)(hb:Below w.heap.size w V):jB g lb xs V :=
 fun l J W hW hJ hY h0 n=>h l J W (hb.trans (hW.mono hb.size)) hJ hY h0 n
theorem Tryz.info312:(prog.info? 312).map (fun i=>(i.zero,i.size,i.bytes))=some (some (.agg #[.int .i32 0,.int .u8 0]),2,8):=by kernel_rfl
theorem an{base B:Nat}{e:TypeId}{size:Nat}{v:Value}{n:Nat}{xs:List Value}{w w':World}(h:w.ownsRow base e size v n xs)(hb:Below B w w')(hB:w.heap.size<=B):w'.ownsRow base e size v n xs:=by
 rcases h with⟨h1,⟨rfl,h2⟩ | ⟨g,cap,cur,rfl,hbg,hg,h3⟩⟩
 ·exact⟨h1,.inl ⟨rfl,h2⟩⟩
 ·have hlt:g<w.heap.size:=(Array.getElem?_eq_some_iff.1 hg).1;exact⟨h1,.inr ⟨g,cap,cur,rfl,hbg,(hb.block g (by omega)).trans hg,h3⟩⟩
def NL(n0 B1 B2:Nat)(pre:List Int)(W:World):Prop :=
 ∃ v,Boxed W B1 280 v/\Boxed W B2 3 (.int .i64 ((st (pre.map pt)).1.length:Nat))/\W.ownsRow n0 312 2 v pre.length (bg ((st (pre.map pt)).1++(st (pre.map pt)).2))
theorem NL.own(n0 B1 B2:Nat):Own (NL n0 B1 B2):=by
 rintro s X Y row ⟨v,h1,h2,h3⟩ hg hr;refine⟨v,boxed_own B1 280 (fun _=>v) s X Y row h1 hg hr,boxed_own B2 3 (fun _=>.int .i64 ((st (s.map pt)).1.length:Nat)) s X Y row h2 hg hr,h3.kept hg ?_⟩;rcases h3.2 with⟨rfl,_⟩ | ⟨g,cap,cur,rfl,_,hgb,_⟩
 ·exact .inl rfl
 ·refine .inr fun e'=>?_;obtain⟨o,ho,hc⟩:=hr g (by simpa[Value.ownBlock]using e'.symm);rw[hgb]at ho;cases ho;cases hc
theorem Tryz.sizeOf312'(W:World):(sizeOf (prog.elem 280)).run prog W=.ok 2 W:=by kernel_rfl
theorem dj{base n k:Nat}{v:Value}{O S:List Pt}{W:World}(ag:W.ownsRow base 312 2 v n (bg (O++S)))(hk:O.length=k)(hn:n<=100000):
  ∃ v',(∀ W2,(Instr.slice 280 v (some (.int .i64 (k:Nat))) none none).run prog W2=.ok v' W2) /\
   Calls prog 333 #[v'] W fun r W'=>r=.returned (.tuple #[])/\W'.ownsRow base 312 2 v n (bg (O++di S))/\W.grownBy W' v.ownBlock:=by
 have hl:k+S.length=n:=by have:=ag.1;rw[cQ,length_append]at this;omega
 rcases id ag.2 with⟨rfl,h0⟩ | ⟨g,cap,cur,rfl,hb,hg,hnc,_⟩
 ·have hS:S=[]:=List.length_eq_zero_iff.1 (by omega);have hk0:k=0:=by omega
  subst hS hk0;refine⟨.slice none 0 0,fun W2=>?_,(oo none 0 W).mono ?_⟩
  ·rw[run_slice_l W2 280 none 0 0 (by kernel_rfl) .i64 ((0:Nat):Int) (by omega) (by omega),Tryz.sizeOf312' W2];rfl
  ·rintro r W' ⟨rfl,rfl⟩;exact⟨rfl,ag,⟨rfl,rfl,rfl,le_refl _,fun _ _ _=>rfl⟩⟩
 ·by_cases hS:S=[]
  ·subst hS;refine⟨.slice (if cap=k then some ⟨g,0,none⟩ else some ((⟨g,0,none⟩:Addr).add (k * 2))) 0 (cap - k),fun W2=>?_,(oo _ _ W).mono ?_⟩
   ·rw[run_slice_l W2 280 (some ⟨g,0,none⟩) n cap (by kernel_rfl) .i64 (k:Int) (by omega) (by simp at hl;omega),Tryz.sizeOf312' W2];simp only[Result.andThen,sliced,Int.toNat_natCast];have:n - k=0:=by simp at hl;omega
    rw[this];split <;> rfl
   ·rintro r W' ⟨rfl,rfl⟩;exact⟨rfl,ag,⟨rfl,rfl,rfl,le_refl _,fun _ _ _=>rfl⟩⟩
  ·have hSl:0<S.length:=List.length_pos_iff.2 hS;refine⟨.slice (some ⟨g,k * 2,none⟩) (n - k) (cap - k),fun W2=>?_,?_⟩
   ·rw[run_slice_l W2 280 (some ⟨g,0,none⟩) n cap (by kernel_rfl) .i64 (k:Int) (by omega) (by omega),Tryz.sizeOf312' W2];simp only[Result.andThen,sliced,Int.toNat_natCast];rw[if_neg (by omega)];simp[Addr.add];omega
   ·have hp:Pts W g (k * 2) S:=by rw[<-hk];exact fp ag
    refine(lv g (k * 2) (cap - k) (n - k) S W (by omega) (by omega) hp).mono ?_;rintro r W' ⟨rfl,h1,h2⟩;have e:n - k=S.length:=by omega
    rw[e,<-hk]at h2;rw[<-hk]at h1;exact⟨rfl,ub ag h2 h1 (cP S).len,h2.g⟩
theorem zE{base n:Nat}{v:Value}{X:List Value}{W:World}(ag:W.ownsRow base 312 2 v n X)(W2:World):(Builtin.len_ #[280] 3 #[v]).run prog W2=.ok (.int .i64 n) W2:=by
 rcases ag.2 with⟨rfl,h0⟩ | ⟨g,cap,cur,rfl,_⟩
 ·subst h0;kernel_rfl
 ·rw[run_len_slice W2 280 3 _ _ _ (by kernel_rfl)];rfl
theorem gJ{base n:Nat}{v:Value}{X:List Value}{W:World}(ag:W.ownsRow base 312 2 v n X):∀ k,v.ownBlock=some k->∃ o:Obj,W.heap[k]? = some o/\o.isCells=true/\stays o=false:=by
 rcases ag.2 with⟨rfl,h0⟩ | ⟨g,cap,cur,rfl,_,hg,_⟩
 ·intro k hk;simp[Value.ownBlock]at hk
 ·intro k hk;obtain rfl:g=k:=by simpa[Value.ownBlock]using hk
  exact⟨_,hg,rfl,rfl⟩
theorem ra{W:World}{b:Nat}{t:TypeId}{v:Value}(h:Boxed W b t v)(ht:t=280\/t=3):∀ k,some b=some k->∃ o:Obj,W.heap[k]? = some o/\o.isCells=true/\stays o=false:=by intro k hk;cases hk;refine⟨_,h,rfl,?_⟩;rcases ht with rfl | rfl <;> rfl
theorem dV{base n:Nat}{v:Value}{X:List Value}{W:World}(ag:W.ownsRow base 312 2 v n X)(k:Nat)(h:v.ownBlock=some k):base<=k/\k<W.heap.size:=ag.lt k h
theorem FY(W:World)(x y:Value)(b:Nat)(hb:b=W.heap.size):∀ j z,([x,y]:List Value)[j]? = some z->(W.alloc (.cells #[x,y] 312)).cell? ((⟨b,0,none⟩:Addr).add j)=some z:=by
 intro j z hj;subst hb;have hg:(W.alloc (.cells #[x,y] 312)).heap[W.heap.size]? = some (.cells #[x,y] 312 (0,0)):=heap_alloc_last W _;rcases j with _ | _ | j
 ·simp at hj;subst hj;show World.cell? _ ⟨W.heap.size,0,none⟩=_;unfold World.cell?;rw[hg];rfl
 ·simp at hj;subst hj;show World.cell? _ ⟨W.heap.size,1,none⟩=_;unfold World.cell?;rw[hg];rfl
 ·simp at hj
theorem nt{C B n:Nat}{w W Wx w5:World}{o:Obj}{v v5 rv:Value}{X Y:List Value}(hv:Boxed Wx B 280 v)(hr:Boxed Wx (B+1) 3 rv)(ag:Wx.ownsRow B 312 2 v n X)(hgrow:(Wx.alloc o).grownBy w5 v.ownBlock)
  (hown:w5.ownsRow B 312 2 v5 (n+1) Y) (hk:Kp C W Wx) (hB:Below B w Wx) (hw:B<=w.heap.size) :
  Kp C W (w5.setCell ⟨B,0,none⟩ v5)/\(Boxed (w5.setCell ⟨B,0,none⟩ v5) B 280 v5/\Boxed (w5.setCell ⟨B,0,none⟩ v5) (B+1) 3 rv/\(w5.setCell ⟨B,0,none⟩ v5).ownsRow B 312 2 v5 (n+1) Y)/\Below B w (w5.setCell ⟨B,0,none⟩ v5):=by
 have hrowa:=ag.alloc o;have hv5:Boxed w5 B 280 v:=(hv.alloc o).kept hgrow ((hv.alloc o).not_row (by decide) hrowa);have hr5:Boxed w5 (B+1) 3 rv:=(hr.alloc o).kept hgrow ((hr.alloc o).not_row (by decide) hrowa);have hg6:=grownBy_setCell' w5 B v5;refine⟨?_,⟨hv5.set v5,hr5.other (by omega) v5,hown.kept hg6 (.inr (fun e=>hv5.not_row (by decide) hown e.symm))⟩,?_⟩
 ·exact hk.trans ((Kp.below ((Below.refl _ Wx).alloc (le_refl _) o)).trans ((Kp.grown hgrow (gJ hrowa)).trans (Kp.grown hg6 (ra hv5 (.inl rfl)))))
 ·have hBa:Below B w (Wx.alloc o):=hB.alloc (by have:=hB.size;omega) o;have hBg:Below B w w5:=hBa.grown hgrow (by have:=hBa.size;omega) (fun k e=>(dV hrowa k e).1);exact hBg.grown hg6 (by have:=hBg.size;omega) (fun k e=>by cases e;exact le_refl _)
theorem gS(l:List Pt)(x c:Int):bg (l++[(x,c)])=bg l++[.int .i32 x,.int .u8 c]:=by simp[bg,c2]
theorem ui(gf:Nat)(lb:Array Value)(xs:List Int)(w:World)(hlen:xs.length<=100000)(eg:∀ args w,(callFunc gf args).run prog w=.ok (.enter gf args) w)(hseq:jB gf lb xs w):
  Calls prog 308 #[.func (.func gf) #[] lb] w fun e W'=>∃ v,e=.returned v/\W'.ownsRow w.heap.size 312 2 v xs.length (bg (ord (xs.map pt)))/\Below w.heap.size w W':=by
 refine(callsIn_wide (n:=3)).1 ?_;obtain⟨i0,hi,hz0,hz1,hz2⟩:=info_parts Tryz.info312;obtain⟨B,hB⟩:∃ B,B=w.heap.size:=⟨_,rfl⟩;obtain⟨V,hV⟩:∃ V,V=(w.alloc (.cells #[.slice none 0 0] 280)).alloc (.cells #[.int .i64 0] 3):=⟨_,rfl⟩;have b1:Boxed V B 280 (.slice none 0 0):=by rw[hV,hB];exact(Boxed.new w 280 _).alloc _
 have b2:Boxed V (B+1) 3 (.int .i64 0):=by rw[hV,hB];have:=Boxed.new (w.alloc (.cells #[.slice none 0 0] 280)) 3 (.int .i64 0);rwa [World.size_alloc]at this
 have hVb:Below B w V:=by rw[hV,hB];exact((Below.refl _ w).alloc (le_refl _) _).alloc (by simp) _
 have hVs:V.heap.size=B+2:=by rw[hV,hB];simp
 have hf:jB gf lb xs V:=hseq.later (by rw[<-hB];exact hVb);refine callsIn_of_wp_marks func308 rfl trivial ?_ rfl;simp only[ntmps308,size_toArray,length_cons,length_nil,Nat.reduceAdd,Nat.reduceSub,replicate_succ,replicate_zero,push_toArray,append_toArray,nil_append,cons_append];gi_wp2_with fail;rw[<-hV,<-hB];clear hV;have HB:=hid hB;clear hB
 refine iv (gf:=gf) (lb:=lb) (xs:=xs) rfl eg hf rfl (fun pre W=>NL B B (B+1) pre W/\Below B w W)
  (OwnFrom.and (Own.from (NL.own B B (B+1)) _) (ownFrom_below (le_of_eq HB.out) (by omega)))
  ⟨⟨_,b1,b2,World.ownsRow_nil _ _ _ _⟩,hVb⟩
  (fun x=>{ tmps:=#[.func (.func gf) #[] lb,undef,.slice none 0 0,.pointer (some ⟨B,0,none⟩),.pointer (some ⟨B+1,0,none⟩),.int .i32 x,undef,.func (.func gf) #[] lb,.int .i32 x,undef,undef,undef,undef,undef,undef,undef,undef,undef,undef,undef,undef,undef,undef,undef,undef,undef,undef,undef,undef,undef,undef,undef],defers:=[] }) ?assign ?body ?done
 case assign =>
  intro l' x W' m K hK;gi_wp2;exact hK
 case body =>
  rintro l' pre x W m ⟨⟨v,hv,hrw,ag⟩,hB⟩ hpx;have hpl:pre.length+1<=xs.length:=by have:=hpx.length_le;simpa using this
  gi_wp2_with fail;refine⟨trivial,(fun h=>by cases h),?_⟩;refine(CallsIn.inRound l' (callsIn_wide.2 (D.qZ x _))).mono ?_;rintro e W1 ⟨rfl,hB1⟩;have HPX:=hid hpx;clear hpx;have hst:st ((pre++[x]).map pt)=stp (st (pre.map pt)) (x,cl x):=by rw[List.map_append,List.map_cons,List.map_nil,rB];rfl
  have hlO:(st (pre.map pt)).1.length+(st (pre.map pt)).2.length=pre.length:=by rw[DY,List.length_map]
  have hx2:(pt x).2=cl x:=rfl;generalize hcl:(D.fnd x).2.2.2.2.2.1=c;replace hcl:cl x=c:=hcl;rw[hcl]at hst;obtain⟨O,hO⟩:∃ O,O=(st (pre.map pt)).1:=⟨_,rfl⟩;obtain⟨S,hS⟩:∃ S,S=(st (pre.map pt)).2:=⟨_,rfl⟩;have est:st (pre.map pt)=(O,S):=by rw[hO,hS]
  rw[est]at hst;rw[<-hO]at hrw hlO;rw[<-hS]at hlO;rw[<-hO,<-hS]at ag;have HST:=hid hst;have HEST:=hid est;have HlO:=hid hlO;clear hst est hO hS hlO hcl hx2;obtain⟨W2,hW2⟩:∃ W2,W2=W1.alloc (.cells #[.int .i32 x,.int .u8 c] 312):=⟨_,rfl⟩;have hb2:Below W.heap.size W W2:=by rw[hW2];exact hB1.alloc hB1.size _
  have hv2:Boxed W2 B 280 v:=(hb2.block B hv.lt).trans hv;have hr2:Boxed W2 (B+1) 3 (.int .i64 (O.length:Nat)):=(hb2.block _ hrw.lt).trans hrw;have hrow2:W2.ownsRow B 312 2 v pre.length (bg (O++S)):=an ag hb2 (le_refl _);have hp2:W2.heap[W1.heap.size]? = some (.cells #[.int .i32 x,.int .u8 c] 312 (0,0)):=by rw[hW2];exact heap_alloc_last W1 _
  have hgl:∀ k,v.ownBlock=some k->k<W1.heap.size:=fun k hk=>Nat.lt_of_lt_of_le (dV ag k hk).2 hB1.size;have hBw2:Below B w W2:=hB.trans (hb2.mono (by have:=hB.size;have:=HB.out;omega));have hk2:Kp V.heap.size W W2:=Kp.below hb2;have hs1:B+1<W1.heap.size:=Nat.lt_of_lt_of_le hrw.lt hB1.size;have hws:W2.heap.size=W1.heap.size+1:=by rw[hW2];simp
  have HB1:=hid hB1;clear hB1 ag hrw hv hB hb2;by_cases hc0:c=0
  ·subst hc0;obtain⟨v',hsl,hcall⟩:=dj hrow2 rfl (by omega);have hln:=zE hrow2;have HC:=hid hcall;have cv:=hv2.cell;have crw:=hr2.cell;rw[hW2]at cv crw;clear hcall;gi_wp2_with fail;rw[<-hW2];refine⟨trivial,(fun h=>by cases h),?_⟩;refine(CallsIn.inRound l' (callsIn_wide.2 HC.out)).mono ?_;rintro e W3 ⟨rfl,hrow3,hg3⟩;have hbad:=gJ hrow2;have hv3:Boxed W3 B 280 v:=hv2.kept hg3 (hv2.not_row (by decide) hrow2);have hr3:Boxed W3 (B+1) 3 (.int .i64 (O.length:Nat)):=hr2.kept hg3 (hr2.not_row (by decide) hrow2);have hp3:W3.heap[W1.heap.size]? = some (.cells #[.int .i32 x,.int .u8 0] 312 (0,0)):=(hg3.block _ (by omega) (fun e=>by have:=hgl _ e.symm;omega)).trans hp2;have hB3:Below B w W3:=hBw2.grown hg3 (by have:=hBw2.size;have:=HB.out;omega) (fun k e=>(dV hrow2 k e).1);have hk3:Kp V.heap.size W W3:=hk2.trans (Kp.grown hg3 hbad);have hgl3:=hgl;have hs3:W1.heap.size+1<=W3.heap.size:=by have:=hg3.size;omega
   have cv3:=hv3.cell;have fr3:=hr3.frozen;have crw3:=hr3.cell;have hbl3:Hid (∀ k,v.ownBlock=some k->B<=k/\k<W1.heap.size):=fun k hk=>⟨(dV hrow2 k hk).1,hgl k hk⟩;clear hv2 hr2 hp2 hrow2 hBw2 hk2 hgl cv crw hsl HC hbad hg3 hws hW2;obtain⟨W4,hW4⟩:∃ W4,W4=W3.setCell ⟨B+1,0,none⟩ (.int .i64 ((pre.length:Int)+1)):=⟨_,rfl⟩;have hv4:Boxed W4 B 280 v:=by rw[hW4];exact hv3.other (by omega) _
   have hr4:Boxed W4 (B+1) 3 (.int .i64 ((pre.length:Int)+1)):=by rw[hW4];exact hr3.set _
   have hg4:W3.grownBy W4 (some (B+1)):=by rw[hW4];exact grownBy_setCell' W3 (B+1) _
   have hp4:W4.heap[W1.heap.size]? = some (.cells #[.int .i32 x,.int .u8 0] 312 (0,0)):=(hg4.block _ (by omega) (fun e=>by have:=Option.some.inj e;omega)).trans hp3;have hrow4:W4.ownsRow B 312 2 v pre.length (bg (O++di S)):=hrow3.kept hg4 (.inr (fun e=>hr3.not_row (by decide) hrow3 e.symm));have hB4:Below B w W4:=hB3.grown hg4 (by have:=hB3.size;have:=HB.out;omega) (fun k e=>by cases e;omega);have hk4:Kp V.heap.size W W4:=hk3.trans (Kp.grown hg4 (ra hr3 (.inr rfl)));have hs4:W1.heap.size+1<=W4.heap.size:=by have:=hg4.size;omega
   have hwr:wrap64 ((pre.length:Int)+1)=((pre.length+1:Nat):Int):=kY _ (by omega);have cv4:=hv4.cell;have cp0:W4.cell? ⟨W1.heap.size,0,none⟩=some (.int .i32 x):=by simp[World.cell?,hp4]
   have cp1:W4.cell? ⟨W1.heap.size,1,none⟩=some (.int .u8 0):=by simp[World.cell?,hp4]
   rw[hW4]at cv4 cp0 cp1;have hrowA:=hrow4;have hvA:=hv4;rw[hW4]at hrowA hvA;have hB3s:B+2<=W3.heap.size:=by omega
   have hrow5:((W3.setCell ⟨B+1,0,none⟩ (.int .i64 ((pre.length:Int)+1))).alloc (.cells #[.int .i32 x,.int .u8 0] 312)).ownsRow B 312 2 v pre.length (bg (O++di S)):=hrowA.alloc _;have hnews:=FY (W3.setCell ⟨B+1,0,none⟩ (.int .i64 ((pre.length:Int)+1))) (.int .i32 x) (.int .u8 0) W3.heap.size (size_setCell' _ _ _).symm;gi_wp2_with (gi_at_builtin;refine wpListIn_append_own _ rfl _ _ 280 rfl B 312 i0 (.agg #[.int .i32 0,.int .u8 0]) 2 8 underlying280 hi hz0 hz1 hz2 rfl (by decide) _ _ _ rfl hrow5 _ 1 1 [.int .i32 x,.int .u8 0] rfl rfl hnews (by simp[Value.oneCell']) (by unfold maxLen;omega) (by omega) (by simp;omega) ?_;intro v2 w5 hown5 hgrow5 _;obtain⟨g5,cap5,rfl⟩:=ownsRow_succ hown5;have hv5:Boxed w5 B 280 v:=(hvA.alloc _).kept hgrow5 ((hvA.alloc _).not_row (by decide) hrow5);have cv5:=hv5.cell;have fv5:=hv5.frozen);rw[<-hW4]at hgrow5;obtain⟨k6,g6,b6⟩:=nt hv4 hr4 hrow4 hgrow5 hown5 hk4 hB4 (le_of_eq HB.out);refine⟨k6,⟨_,g6.1,?_,?_⟩,b6⟩
   ·rw[HST.out];have:(stp (O,S) (x,0)).1.length=pre.length+1:=by have:=HlO.out;have:=(cP S).len;simp[stp];omega
    rw[this];exact g6.2.1
   ·rw[HST.out];have e1:(stp (O,S) (x,0)).1++(stp (O,S) (x,0)).2=(O++di S)++[(x,0)]:=by simp[stp]
    rw[e1,gS];have e2:(pre++[x]).length=pre.length+1:=by simp
    rw[e2];exact g6.2.2
  ·have hcb:(c==0)=false:=by simpa using hc0
   have cv:=hv2.cell;have cp0:W2.cell? ⟨W1.heap.size,0,none⟩=some (.int .i32 x):=by simp[World.cell?,hp2]
   have cp1:W2.cell? ⟨W1.heap.size,1,none⟩=some (.int .u8 c):=by simp[World.cell?,hp2]
   have hrowA:=hrow2;have hvA:=hv2;rw[hW2]at hrowA hvA cv cp0 cp1;have hB3s:B+2<=W1.heap.size:=by omega
   have hrow5:((W1.alloc (.cells #[.int .i32 x,.int .u8 c] 312)).alloc (.cells #[.int .i32 x,.int .u8 c] 312)).ownsRow B 312 2 v pre.length (bg (O++S)):=hrowA.alloc _;have hnews:=FY (W1.alloc (.cells #[.int .i32 x,.int .u8 c] 312)) (.int .i32 x) (.int .u8 c) (W1.heap.size+1) (by simp);gi_wp2_with (gi_at_builtin;refine wpListIn_append_own _ rfl _ _ 280 rfl B 312 i0 (.agg #[.int .i32 0,.int .u8 0]) 2 8 underlying280 hi hz0 hz1 hz2 rfl (by decide) _ _ _ rfl hrow5 _ 1 1 [.int .i32 x,.int .u8 c] rfl rfl hnews (by simp[Value.oneCell']) (by unfold maxLen;omega) (by omega) (by simp;omega) ?_;intro v2 w5 hown5 hgrow5 _;obtain⟨g5,cap5,rfl⟩:=ownsRow_succ hown5;have hv5:Boxed w5 B 280 v:=(hvA.alloc _).kept hgrow5 ((hvA.alloc _).not_row (by decide) hrow5);have cv5:=hv5.cell;have fv5:=hv5.frozen);rw[<-hW2]at hgrow5;obtain⟨k6,g6,b6⟩:=nt hv2 hr2 hrow2 hgrow5 hown5 hk2 hBw2 (le_of_eq HB.out);refine⟨k6,⟨_,g6.1,?_,?_⟩,b6⟩
   ·rw[HST.out];have:(stp (O,S) (x,c)).1.length=O.length:=by simp[stp,hc0]
    rw[this];exact g6.2.1
   ·rw[HST.out];have e1:(stp (O,S) (x,c)).1++(stp (O,S) (x,c)).2=(O++S)++[(x,c)]:=by simp[stp,hc0]
    rw[e1,gS];have e2:(pre++[x]).length=pre.length+1:=by simp
    rw[e2];exact g6.2.2
 case done =>
  rintro D W hD ⟨⟨v,hv,hrw,ag⟩,hB⟩ hdf;have hc1:=hv.cell;have hc2:=hrw.cell;have hrow':W.ownsRow B 312 2 v xs.length (bg ((st (xs.map pt)).1++(st (xs.map pt)).2)):=ag;obtain⟨v',hsl,hcall⟩:=dj hrow' rfl (by omega);have HC:=hid hcall;clear hcall ag;gi_wp2_with fail;refine⟨trivial,?_⟩;refine(callsIn_wide.2 HC.out).mono ?_;rintro e W3 ⟨rfl,hrow3,hg3⟩;have hv3:Boxed W3 B 280 v:=hv.kept hg3 (hv.not_row (by decide) hrow');have hdf3:W3.heap[D]? = some (.deferred (some [])):=by refine(hg3.block D (Array.getElem?_eq_some_iff.1 hdf).1 (fun e=>?_)).trans hdf;obtain⟨o,h1,h2,h3⟩:=gJ hrow' D e.symm;rw[hdf]at h1;cases h1;cases h2
  have hB3:Below B w W3:=hB.grown hg3 (by have:=hB.size;have:=HB.out;omega) (fun k e=>(dV hrow' k e).1);have cv3:=hv3.cell;gi_wp2;refine⟨by simp,.inl ⟨_,_,rfl,run_takeDeferred hdf3,?_⟩⟩;refine⟨_,results_tmp rfl _ _ _,v,rfl,?_,?_⟩
  ·rw[<-HB.out];exact ownsRow_putObj hrow3 _ hdf3 rfl
  ·rw[<-HB.out];exact hB3.trans (belowK_b (w:=w) (le_of_eq HB.out) W3 D _ _ (by have:=HB.out;omega) hdf3 rfl rfl)
def CH(W:World)(v:Value)(l:List Pt):Prop:=∃ a cap,v=.slice a l.length cap/\(0<l.length->∃ g,a=some ⟨g,0,none⟩/\Pts W g 0 l)
theorem CH.of_own{W:World}{base n:Nat}{v:Value}{l:List Pt}(h:W.ownsRow base 312 2 v n (bg l)):CH W v l:=by
 have hl:l.length=n:=by have:=h.1;rw[cQ]at this;omega
 rcases id h.2 with⟨rfl,h0⟩ | ⟨g,cap,cur,rfl,_⟩
 ·exact⟨none,0,by rw[hl,h0],fun hp=>by omega⟩
 ·refine⟨_,cap,by rw[hl],fun _=>⟨g,rfl,?_⟩⟩;have:=fp (O:=[]) (S:=l) (by simpa using h);simpa using this
theorem iH:(prog.info? 21).map (fun i=>(i.zero,i.size,i.bytes))=some (some (.int .i32 0),1,4):=by kernel_rfl
theorem xF(n:Nat):(madeCells #[Value.int .i32 0] n).toList=List.replicate n (.int .i32 0):=by unfold madeCells;simp[Nat.mod_one,List.map_const']
def part(l:List Pt)(k:Nat):List Int:=(l.take k).map (·.1)++List.replicate (l.length - k) 0
theorem Ff(l:List Pt)(k:Nat)(hk:k<l.length):(part l k).set k (l[k]?.getD z2).1=part l (k+1):=by
 unfold part;have h1:((l.take k).map (·.1)).length=k:=by rw[List.length_map,length_take];omega
 rw[show l.length - k=(l.length - (k+1))+1 by omega,List.replicate_succ,List.take_succ_eq_append_getElem hk,getElem?_eq_getElem hk];rw[List.set_append_right _ _ (by omega),h1,Nat.sub_self];simp only[List.set_cons_zero,List.map_append,List.map_cons,List.map_nil,append_assoc,cons_append,nil_append,Option.getD_some]
theorem AM(v:Value)(l:List Pt)(w:World)(hlen:l.length<=100000)(hr:CH w v l):
  Calls prog 306 #[v] w fun e W'=>∃ v',e=.returned v'/\W'.ownsRow w.heap.size 21 1 v' l.length ((l.map (·.1)).map (Value.int .i32))/\Below w.heap.size w W':=by
 obtain⟨a,cap,rfl,hf⟩:=hr;obtain⟨n,hn⟩:=Ex' l.length;have hmk:=fun W=>run_make_row' (P:=prog) 43 21 (.int .i32 0) 4 underlying43 iH rfl .i64 .i64 n (by omega) (by omega) W;have hz:∀ W,(zeroValue 312).run prog W=.ok (.agg #[.int .i32 0,.int .u8 0]) W:=(zero_of_info (P:=prog) (t:=312) (n:=2) (by kernel_rfl)).1;have h0:(w.alloc (.cells (madeCells #[.int .i32 0] n) 21)).ownsRow w.heap.size 21 1 (.slice (some ⟨w.heap.size,0,none⟩) n n) n ((part l 0).map (Value.int .i32)):=by refine⟨by simp[part,hn],.inr ⟨w.heap.size,n,_,rfl,le_refl _,heap_alloc_last w _,le_refl _,by unfold maxLen;omega,by rw[size_madeCells];omega,?_⟩⟩;rw[xF];simp[part,hn]
 have H0:=hid h0;have HF:=hid hf;rw[hn]at hlen ⊢;have HN:=hid hn;clear h0 hf hn;go_enter func306,ntmps306;go_wp2_with fail
 go_loopw [11] (fun i wr=>∃ k:Nat,k<=n/\i=.int .i64 k/\wr.ownsRow w.heap.size 21 1 (.slice (some ⟨w.heap.size,0,none⟩) n n) n ((part l k).map (Value.int .i32))/\Below w.heap.size w wr) (fun i _=>n - (intOf i).toNat)
 case atStart=>exact⟨0,zero_le _,rfl,H0.out,(Below.refl _ w).alloc (le_refl _) _⟩
 case round =>
  obtain⟨k,hk,rfl,ag,hB⟩:=hrel;by_cases hlt:k<n
  ·obtain⟨g,rfl,hp⟩:=HF.out (by have:=HN.out;omega);have hp':=hp.below hB hp.lt;have hkl:k<l.length:=by have:=HN.out;omega
   have e0:=hp'.c0 k hkl;have e1:=hp'.c1 k hkl;have HPS:=hid (Ff l k hkl);obtain⟨p,hpe⟩:=Ex' (l[k]?.getD z2);rw[hpe]at e0 e1 HPS;simp only[Nat.zero_add]at e0 e1;have hltz:(k:Int)<(n:Int):=by omega
   have hsz:w.heap.size<wr.heap.size:=(ag.lt _ rfl).2;have hra:=ag.alloc (.cells #[.int .i32 p.1,.int .u8 p.2] 312)
   have hck:(wr.alloc (.cells #[.int .i32 p.1,.int .u8 p.2] 312)).cell? ⟨w.heap.size,k,none⟩=some (.int .i32 ((part l k)[k]?.getD 0)):=by
    have h3:=hra.cellAt k (by omega);have h4:k<(part l k).length:=by unfold part;simp;omega
    rw[h3,List.getElem?_map,getElem?_eq_getElem h4];rfl
   have hfk:(wr.alloc (.cells #[.int .i32 p.1,.int .u8 p.2] 312)).frozen? ⟨w.heap.size,k,none⟩=false:=by
    rcases hra.2 with⟨h,_⟩ | ⟨g',cap',cur,h,_,hg,_⟩
    ·cases h
    ·cases h;simp[World.frozen?,hg]
   generalize (part l k)[k]?.getD 0=y at hck;clear hp hp' hpe;go_wp2;have hst:=ag.stored k (.int .i32 p.1);have hB1:=hB.setCell (p:=⟨w.heap.size,k,none⟩) (le_refl _) (.int .i32 p.1);have hB2:=hB1.alloc hB1.size (.cells #[.int .i32 p.1,.int .u8 p.2] 312)
   go_roundw
   case rel=>exact⟨k+1,by omega,by go_num,by have:=hst.1;rw[<-List.map_set,HPS.out]at this;exact this.alloc _,hB2⟩
   case measure=>simp[intOf];omega
  ·have hltz:¬ (k:Int)<(n:Int):=by omega
   have HE:Hid (part l k=l.map (·.1)):=by
    show _=_;unfold part;have h1:l.length - k=0:=by have:=HN.out;omega
    rw[h1,take_of_length_le (by omega)];simp
   go_wp2;go_ret;exact⟨_,rfl,by have h:=ag;rw[HE.out]at h;simpa using h,hB⟩
theorem Ce(u v:Value)(a b:List Int)(w:World)(ha:a.length<=100000)(hu:bU w u a)(hv:bU w v b):
  Calls prog 367 #[u,v] w fun e W'=>e=.returned (.bool (decide (a=b)))/\Below w.heap.size w W':=by
 obtain⟨ua,uc,rfl,huf⟩:=hu;obtain⟨va,vc,rfl,hvf⟩:=hv;by_cases hl:a.length=b.length
 ·have HR:Hid (∀ k,k<=a.length->(∀ j,j<k->a[j]?.getD 0=b[j]?.getD 0)->k=a.length->a=b):=by intro k hk h e;apply List.ext_getElem hl;intro i h1 h2;have:=h i (by omega);rw[getElem?_eq_getElem h1,getElem?_eq_getElem h2]at this;exact this
  have HNE:Hid (∀ k,k<a.length->a[k]?.getD 0≠b[k]?.getD 0->a≠b):=fun k hk h e=>h (by rw[e]);obtain⟨n,hn⟩:=Ex' a.length;rw[hn]at ha huf HR HNE;rw[<-hl,hn]at hvf;rw[<-hl,hn];have HUF:=hid huf;have HVF:=hid hvf;obtain⟨R,hR⟩:∃ R:Prop,R=(a=b):=⟨_,rfl⟩
  have hdec:∀ t:Bool,(t=true↔a=b)->Ending.returned (.bool t)=.returned (.bool (decide (a=b))):=fun t h=>by
   congr 2;cases t with
   | true=>exact(decide_eq_true (h.1 rfl)).symm
   | false=>exact(decide_eq_false (fun e=>by have:=h.2 e;cases this)).symm
  have HD:=hid hdec;obtain⟨db,hdb⟩:∃ db,db=decide (a=b):=⟨_,rfl⟩;rw[<-hdb]at HD ⊢;clear huf hvf hl hn hR hdec hdb;go_enter func367,ntmps367;go_wp2_with fail
  go_loopw [13] (fun i wr=>∃ k:Nat,k<=n/\i=.int .i64 k/\Below w.heap.size w wr/\Hid (∀ j,j<k->a[j]?.getD 0=b[j]?.getD 0)) (fun i _=>n - (intOf i).toNat)
  case atStart=>exact⟨0,zero_le _,rfl,Below.refl _ _,(fun j hj=>by omega)⟩
  case round =>
   obtain⟨k,hk,rfl,hB,HS⟩:=hrel;by_cases hlt:k<n
   ·obtain⟨b1,o1,cur1,rfl,hg1,hc1⟩:=HUF.out (by omega);obtain⟨b2,o2,cur2,rfl,hg2,hc2⟩:=HVF.out (by omega);have d1:wr.cell? ⟨b1,o1+k,none⟩=some (.int .i32 (a[k]?.getD 0)):=by simp[World.cell?,(hB.block b1 (Array.getElem?_eq_some_iff.1 hg1).1).trans hg1,hc1 k hlt]
    have d2:wr.cell? ⟨b2,o2+k,none⟩=some (.int .i32 (b[k]?.getD 0)):=by simp[World.cell?,(hB.block b2 (Array.getElem?_eq_some_iff.1 hg2).1).trans hg2,hc2 k hlt]
    have hltz:(k:Int)<(n:Int):=by omega
    by_cases he:a[k]?.getD 0=b[k]?.getD 0
    ·have HS2:Hid (∀ j,j<k+1->a[j]?.getD 0=b[j]?.getD 0):=fun j hj=>by
      by_cases hjk:j=k
      ·subst hjk;exact he
      ·exact HS.out j (by omega)
     rw[<-he]at d2;generalize a[k]?.getD 0=y at d1 d2;clear hc1 hc2 he;go_wp2_with fail
     go_quiet (fail)
     go_wp2
     go_roundw
     case rel=>exact⟨k+1,by omega,by go_num,⟨hB.os,hB.tape,hB.output,hB.size,hB.block⟩,HS2⟩
     case measure=>simp[intOf];omega
    ·have HF:=hid (HNE.out k hlt he);generalize a[k]?.getD 0=y at d1 he;generalize b[k]?.getD 0=z at d2 he;have hb:(y != z)=true:=by simpa using he
     have hb2:(y==z)=false:=by simpa using he
     clear hc1 hc2 he;go_wp2_with fail
     go_quiet (fail)
     go_wp2;go_ret;exact⟨HD.out false ⟨fun h=>(by cases h),fun h=>absurd h HF.out⟩,⟨hB.os,hB.tape,hB.output,hB.size,hB.block⟩⟩
   ·have hltz:¬ (k:Int)<(n:Int):=by omega
    have HE:=hid (HR.out k hk HS.out (by omega));go_wp2;go_ret;exact⟨HD.out true ⟨fun _=>HE.out,fun _=>rfl⟩,hB⟩
 ·have hd:decide (a=b)=false:=decide_eq_false (fun e=>hl (by rw[e]));rw[hd];have hb:((a.length:Int) != (b.length:Int))=true:=by simp;omega
  have hb2:((a.length:Int)==(b.length:Int))=false:=by simp;omega
  clear huf hvf;go_enter func367,ntmps367;go_wp2;go_ret;exact⟨rfl,Below.refl _ _⟩
def rch(B:List Pt)(c:Pt):Bool:=match B.getLast? with
 | none=>true
 | some b=>decide (b.2<c.2)
theorem rQ(a:Option Addr)(cap:Nat)(c:Pt)(w:World):Calls prog 330 #[.slice a 0 cap,.agg #[.int .i32 c.1,.int .u8 c.2]] w fun e W'=>e=.returned (.bool true)/\Below w.heap.size w W':=by
 go_enter func330,ntmps330;go_wp2_with fail
 go_quiet (fail)
 go_wp2;go_ret;exact⟨rfl,D.below_drewN ((Below.refl _ w).alloc (le_refl _) _) _⟩
theorem rP(g o n cap:Nat)(X:List Pt)(b c:Pt)(w:World)(hn:n=X.length)(hnl:n<=100000)(hp:Pts w g o (X++[b])):
  Calls prog 330 #[.slice (some ⟨g,o,none⟩) (n+1) cap,.agg #[.int .i32 c.1,.int .u8 c.2]] w fun e W'=>e=.returned (.bool (decide (b.2<c.2)))/\Below w.heap.size w W':=by
 have e1:=hp.c1 n (by simp;omega);rw[hn,eE X b [] X.length rfl,<-hn]at e1;have hlt:=hp.lt;have e2:(w.alloc (.cells #[.int .i32 c.1,.int .u8 c.2] 312)).cell? ⟨g,o+n * 2+1,none⟩=some (.int .u8 b.2):=by rw[World.cell?_of_block (Below.heap_alloc w _ g hlt)];exact e1
 have h0:((n:Int)+1==0)=false:=by simp;omega
 have hnz:(n:Int)<(n:Int)+1:=by omega
 clear hp e1 hn;go_enter func330,ntmps330;go_wp2_with fail
 go_quiet (fail)
 go_wp2;go_ret;exact⟨rfl,D.below_drewN ((Below.refl _ w).alloc (le_refl _) _) _⟩
end N
end Go.Proofs.YtlmflmdmolcfhaaGreatDoor
