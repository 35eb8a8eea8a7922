/- Contracts and plain facts. -/
import Derived.Test.YtmkompnhefhngaaGreatDoorZ2
import Derived.Deep.Cut
import Derived.Deep.OwnRows
import Derived.Deep.CutRange
import Derived.Laws.Cover4
set_option maxRecDepth 100000
set_option maxHeartbeats 16000000
set_option linter.unusedVariables false
set_option linter.unnecessarySimpa false
open Nat (le_refl zero_le le_trans le_of_eq zero_add)
open List (getElem?_eq_getElem length_append append_assoc length_take take_append_drop length_cons foldl_cons cons_append take_succ_eq_append_getElem nil_append length_map take_of_length_le length_nil getElem?_take_of_lt drop_eq_getElem_cons getElem?_append_right size_toArray push_toArray append_toArray flatMap_append length_set foldl_append map_append length_drop append_nil find?_some)
open Go.World (putObj_heap_other size_alloc)
open Array (replicate_succ replicate_zero)
open Bool (and_eq_true)
namespace Go.Proofs.YtmkompnhefhngaaGreatDoor
open Tryz Go.RowKit
namespace N
def jt(a b:Int):Int:=if a<b then -1 else if b<a then 1 else 0
theorem ln(a b:Int):(jt a b<0)↔a<b:=by unfold jt;split <;> (try split) <;> omega
theorem lT(a:Int)(w:World):Calls prog 307 #[.int .u8 a] w fun e w'=>e=.returned (.bool false)/\w'=w:=by go_enter func307,ntmps307;go_wp2;go_ret;exact⟨by simp,rfl⟩
theorem wZ(a b:Int)(w:World):Calls prog 294 #[.int .u8 a,.int .u8 b] w fun e w'=>e=.returned (.int .i64 (jt a b))/\w'=w:=by
 obtain⟨c,hc⟩:∃ c,c=jt a b:=⟨_,rfl⟩;have HC:=hid hc;rw[<-hc];clear hc;by_cases h1:a<b
 ·have HE:Hid (c=-1):=by show _=_;rw[HC.out];unfold jt;rw[if_pos h1]
  clear HC;go_enter func294,ntmps294;go_wp2_with(go_at_call 307;refine(lT _ _).mono ?_;rintro e w' ⟨rfl,rfl⟩);go_ret;exact⟨by rw[HE.out];rfl,rfl⟩
 ·by_cases h2:b<a
  ·have HE:Hid (c=1):=by show _=_;rw[HC.out];unfold jt;rw[if_neg h1,if_pos h2]
   clear HC;go_enter func294,ntmps294;go_wp2_with(go_at_call 307;refine(lT _ _).mono ?_;rintro e w' ⟨rfl,rfl⟩);go_ret;exact⟨by rw[HE.out];rfl,rfl⟩
  ·have HE:Hid (c=0):=by show _=_;rw[HC.out];unfold jt;rw[if_neg h1,if_neg h2]
   clear HC;go_enter func294,ntmps294;go_wp2_with(go_at_call 307;refine(lT _ _).mono ?_;rintro e w' ⟨rfl,rfl⟩);go_ret;exact⟨by rw[HE.out];rfl,rfl⟩
theorem fx(x y:Pt)(w:World):Calls prog 293 #[.agg #[.int .i32 x.1,.int .u8 x.2],.agg #[.int .i32 y.1,.int .u8 y.2]] w fun e w'=>e=.returned (.int .i64 (jt x.2 y.2))/\Below w.heap.size w w':=by go_enter func293,ntmps293;go_wp2_with fail;refine(wZ _ _ _).mono ?_;rintro e w' ⟨rfl,rfl⟩;go_wp2;go_ret;exact⟨rfl,((Below.refl _ w).alloc (le_refl _) _).alloc (by simp) _⟩
theorem Ao(b o cap n a m:Nat)(A M C:List Pt)(W:World)(ha:A.length=a)(hm:M.length=m)(hn:a+m+C.length=n)(hsz:n<=1000000)(hP:Pts W b o (A++M++C)):
  Calls prog 312 #[.slice (some ⟨b,o,none⟩) n cap,.int .i64 a,.int .i64 (a+m:Nat),.func (.func 293) #[] #[]] W fun e W'=>e=.returned (.tuple #[])/\∃ M',Pts W' b o (A++M'++C)/\Chg b o n W W'/\Srt M'/\Stb M M':=by
 obtain⟨t,ht⟩:=Ex' (a+m);have htn:t<=n:=by omega
 rw[ht];have HA:=hid ha;have HM:=hid hm;have HN:=hid hn;have HT:=hid ht;have HP:=hid hP;clear ha hm hn ht hP;by_cases hm0:m=0
 ·have hM0:Hid (M=[]):=List.length_eq_zero_iff.1 (by rw[HM.out,hm0]);have hta:t=a:=by have:=HT.out;omega
  go_enter func312,ntmps312;go_wp2_with fail;refine wp_loop_rounds 1 ?_;rw[rounds_succ];go_wp2;all_goals first | (exfalso;omega) | skip
  go_end0
  exact⟨rfl,M,HP.out,Chg.refl HP.out n,by rw[hM0.out];exact Srt.nil,Stb.refl _⟩
 have hat:a+1<=t:=by have:=HT.out;omega
 go_enter func312,ntmps312;go_wp2_with fail
 go_loopw [8] (fun i wr=>∃(k:Nat) (D:List Pt),a+1<=k/\k<=t/\i=.int .i64 k/\Pts wr b o (A++D++(M.drop (k - a)++C))/\Hid (D.length=k - a)/\Hid (Srt D)/\Hid (Stb (M.take (k - a)) D)/\Chg b o n W wr)
  (fun i _=>t - (intOf i).toNat)
 case atStart =>
  refine⟨a+1,M.take 1,le_refl _,hat,by go_num,?_,?_,?_,?_,Chg.refl HP.out n⟩
  ·have:=HP.out;rw[show a+1 - a=1 by omega];rw[show A++M.take 1++(M.drop 1++C)=A++M++C by rw[append_assoc,<-append_assoc (M.take 1),take_append_drop,append_assoc]];exact this
  ·show _=_;rw[length_take,HM.out];omega
  ·show Srt _
   obtain⟨x,M',hM'⟩:∃ x M',M=x::M':=by
    cases M with
    | nil=>exact absurd HM.out (by simp;omega)
    | cons x M'=>exact⟨x,M',rfl⟩
   rw[hM'];exact zF x
  ·show Stb _ _;rw[show a+1 - a=1 by omega];exact Stb.refl _
 case round =>
  obtain⟨k,D,hk1,hk2,rfl,hPr,HL,HS,HB,hCr⟩:=hrel;by_cases hlt:k<t
  ·have hltz:(k:Int)<(t:Int):=by omega
   obtain⟨x,R,hx⟩:∃ x R,M.drop (k - a)=x::R:=by
    have hh:k - a<M.length:=by rw[HM.out];have:=HT.out;omega
    exact⟨M[k - a],M.drop (k - a+1),drop_eq_getElem_cons hh⟩
   have HR:Hid (M.drop (k+1 - a)=R/\M.take (k+1 - a)=M.take (k - a)++[x]):=by
    have hh:k - a<M.length:=by rw[HM.out];have:=HT.out;omega
    have e:=drop_eq_getElem_cons hh;rw[hx]at e;obtain⟨e1,e2⟩:=List.cons.inj e;rw[show k+1 - a=k - a+1 by omega];exact⟨e2.symm,by rw[take_succ_eq_append_getElem hh,e1]⟩
   rw[hx]at hPr;have HPr:=hid hPr;have HCr:=hid hCr;clear hx hPr hCr;go_wp2_with fail
   go_loopw [9] (fun j wr=>∃(i:Nat) (P Q:List Pt),a<=i/\i<=k/\j=.int .i64 i/\Pts wr b o (A++P++x::(Q++(R++C)))/\Hid (a+P.length=i)/\Hid (P++Q=D)/\Hid (∀ q∈Q,x.2<q.2)/\Chg b o n W wr)
    (fun j _=>(intOf j).toNat)
   case atStart =>
    refine⟨k,D,[],by omega,le_refl _,rfl,by simpa using HPr.out,?_,?_,?_,HCr.out⟩
    ·show _=_;have:=HL.out;omega
    ·show _=_;simp
    ·intro q hq;cases hq
   case round =>
    obtain⟨i,P,Q,hi1,hi2,rfl,hPq,HPL,HPQ,HQ,hCq⟩:=hrel
    have FIN:Hid ((∀ p∈P,p.2<=x.2)->Srt (P++x::Q)/\Stb (M.take (k+1 - a)) (P++x::Q)/\(P++x::Q).length=k+1 - a):=fun hp=>by
     have h:=vY (by rw[HPQ.out];exact HS.out) HQ.out hp;refine⟨h.1,?_,?_⟩
     ·rw[HR.out.2];refine(HB.out.append (Stb.refl [x])).trans ?_;rw[<-HPQ.out];exact h.2
     ·have h2:=h.2.len;rw[h2,length_append,HPQ.out,HL.out];simp;omega
    by_cases hia:a<i
    ·obtain⟨j,rfl⟩:∃ j,i=j+1:=⟨i - 1,by omega⟩;obtain⟨P',p,hP'⟩:∃ P' p,P=P'++[p]:=by refine⟨P.dropLast,P.getLast (fun h=>?_),(List.dropLast_concat_getLast _).symm⟩;have:=HPL.out;rw[h]at this;simp at this;omega
     have hPl:(A++P').length=j:=by have:=HPL.out;rw[hP']at this;have h2:=HA.out;simp at this ⊢;omega
     have hPq2:Pts wr b o ((A++P')++p::x::(Q++(R++C))):=by rw[hP']at hPq;simpa using hPq
     have hlen2:((A++P')++p::x::(Q++(R++C))).length=n:=by have h1:=HPL.out;have h2:=HPQ.out;have h3:=HL.out;have h4:=HR.out.1;have h5:=HN.out;have h6:=HM.out;have h7:=congrArg List.length h2;have h8:=congrArg List.length h4;rw[hP']at h1 h7;simp at h1 h7 h8 hPl ⊢;have:=HT.out;omega
     have e0:=hPq2.c0 j (by omega);have e1:=hPq2.c1 j (by omega);have e2:=hPq2.c0 (j+1) (by omega);have e3:=hPq2.c1 (j+1) (by omega);rw[et _ _ _ _ hPl]at e0 e1;rw[pI _ _ _ _ _ hPl]at e2 e3;have jz:(j:Int)+1<(n:Int):=by omega
     have jz1:(j:Int)<(n:Int):=by omega
     have jz0:(a:Int)<(j:Int)+1:=by omega
     have j0:(0:Int)<=(j:Int):=by omega
     have j1:(0:Int)<=(j:Int)+1:=by omega
     have je:((j:Int)+1).toNat=j+1:=by omega
     have hne:Nonempty (aI wr):=⟨⟨wr,Below.refl _ _⟩⟩;have hlb:b<wr.heap.size:=hPq2.lt;have x0:∀ y:aI wr,y.W.cell? ⟨b,o+j * 2,none⟩=some (.int .i32 p.1):=fun y=>(y.h.cell (p:=⟨b,o+j * 2,none⟩) hlb).trans e0;have x1:∀ y:aI wr,y.W.cell? ⟨b,o+j * 2+1,none⟩=some (.int .u8 p.2):=fun y=>(y.h.cell (p:=⟨b,o+j * 2+1,none⟩) hlb).trans e1;have x2:∀ y:aI wr,y.W.cell? ⟨b,o+(j+1) * 2,none⟩=some (.int .i32 x.1):=fun y=>(y.h.cell (p:=⟨b,o+(j+1) * 2,none⟩) hlb).trans e2;have x3:∀ y:aI wr,y.W.cell? ⟨b,o+(j+1) * 2+1,none⟩=some (.int .u8 x.2):=fun y=>(y.h.cell (p:=⟨b,o+(j+1) * 2+1,none⟩) hlb).trans e3;have hcall:Hid (∀ W:World,Calls prog 293 #[.agg #[.int .i32 x.1,.int .u8 x.2],.agg #[.int .i32 p.1,.int .u8 p.2]] W fun e w'=>e=.returned (.int .i64 (jt x.2 p.2))/\Below W.heap.size W w'):=fun W=>fx x p W;have hci:=ln x.2 p.2;generalize jt x.2 p.2=ci at hci hcall;have HP':=hid hP';clear e0 e1 e2 e3 hP';by_cases hxp:x.2<p.2
     ·have hci':ci<0:=hci.2 hxp;clear hci;go_wp2_with fail;refine az (by kernel_rfl) (by kernel_rfl) ?_;repeat (go_big_quiet_step ((go_at_call 293;exact aI.call _ (hcall.out _))))
      refine wpQuiet_nil ?_;rintro _ ⟨y,rfl⟩;have hPy:Pts y.W b o ((A++P')++p::x::(Q++(R++C))):=hPq2.below y.h hlb;have hCy:Chg b o n W y.W:=hCq.below y.h;have y0:=x0 y;have y1:=x1 y;have y2:=x2 y;have y3:=x3 y;clear x0 x1 x2 x3 hPq hPq2 hCq hne;generalize y.W=wy at *;have f0:wy.frozen? ⟨b,o+j * 2,none⟩=false:=hPy.fr _;have f1:wy.frozen? ⟨b,o+j * 2+1,none⟩=false:=hPy.fr _;have f2:wy.frozen? ⟨b,o+(j+1) * 2,none⟩=false:=hPy.fr _;have f3:wy.frozen? ⟨b,o+(j+1) * 2+1,none⟩=false:=hPy.fr _;have HPy:=hid hPy;have HCy:=hid hCy;clear hPy hCy;go_wp2_with fail
      go_region
      have hPn:=(HPy.out.set (j+1) p (by omega)).set j x (by rw[length_set];omega);rw[zE _ _ _ _ _ hPl]at hPn;have hCn:=((((HCy.out.set (o+(j+1) * 2) (.int .i32 p.1) (by omega) (by omega)).set (o+(j+1) * 2+1) (.int .u8 p.2) (by omega) (by omega)).set (o+j * 2) (.int .i32 x.1) (by omega) (by omega)).set (o+j * 2+1) (.int .u8 x.2) (by omega) (by omega)).drew;have HPn:=hid hPn.drew;have HCn:=hid hCn;clear hPn hCn HPy HCy y0 y1 y2 y3 f0 f1 f2 f3;generalize World.drew _=wn at HPn HCn ⊢;go_wp2
      go_roundw
      case rel =>
       refine⟨j,P',p::Q,by omega,by omega,by go_num,?_,?_,?_,?_,HCn.out⟩
       ·simpa using HPn.out
       ·show _=_;have:=hPl;have h2:=HA.out;simp at this;omega
       ·show _=_;rw[<-HPQ.out,HP'.out];simp
       ·intro q hq;rcases List.mem_cons.1 hq with rfl | hq
        ·exact hxp
        ·exact HQ.out q hq
      case measure=>simp[intOf] <;> omega
     ·have hci':¬ ci<0:=fun h=>hxp (hci.1 h);have hcd:decide (ci<0)=false:=by simpa using hci'
      clear hci;go_wp2_with fail;refine az (by kernel_rfl) (by kernel_rfl) ?_;repeat (go_big_quiet_step ((go_at_call 293;exact aI.call _ (hcall.out _))))
      refine wpQuiet_nil ?_;rintro _ ⟨y,rfl⟩;have hPy:Hid (Pts y.W b o (A++P++x::(Q++(R++C)))):=hPq.below y.h hlb;have hCy:Hid (Chg b o n W y.W):=hCq.below y.h;have hall:∀ a∈P,a.2<=x.2:=by rw[HP'.out];refine EP ?_ (by omega);have h1:=HS.out;rw[<-HPQ.out,HP'.out]at h1;exact(aT.1 h1).1
      have HF:=hid (FIN.out hall);clear x0 x1 x2 x3 hPq hPq2 hCq hne;generalize y.W=wy at *;go_wp2
      go_roundw
      case rel =>
       refine⟨k+1,P++x::Q,by omega,by omega,by go_num,?_,HF.out.2.2,HF.out.1,HF.out.2.1,hCy.out⟩;rw[HR.out.1];have:=hPy.out;simpa using this
      case measure=>simp[intOf];omega
    ·have hia':decide ((a:Int)<(i:Int))=false:=by simp;omega
     have hia2:¬ (a:Int)<(i:Int):=by omega
     have hP0:P=[]:=List.length_eq_zero_iff.1 (by have:=HPL.out;omega);have HF:=hid (FIN.out (fun p hp=>by rw[hP0]at hp;cases hp));have HPq:=hid hPq;have HCq:=hid hCq;clear hPq hCq hP0 FIN;go_wp2_with fail
     go_region
     have HPq:=hid HPq.out.drew;have HCq:=hid HCq.out.drew;generalize World.drew _=wn at HPq HCq ⊢;go_wp2
     go_roundw
     case rel =>
      refine⟨k+1,P++x::Q,by omega,by omega,by go_num,?_,HF.out.2.2,HF.out.1,HF.out.2.1,HCq.out⟩;rw[HR.out.1];have:=HPq.out;simpa using this
     case measure=>simp[intOf];omega
  ·have hltz:¬ (k:Int)<(t:Int):=by omega
   have hk:k=t:=by omega
   have HE:Hid (M.drop (k - a)=[]/\M.take (k - a)=M):=by
    have:M.length<=k - a:=by rw[HM.out];have:=HT.out;omega
    exact⟨List.drop_of_length_le this,take_of_length_le this⟩
   go_wp2
   go_end0
   refine⟨rfl,D,?_,hCr,HS.out,?_⟩
   ·rw[HE.out.1]at hPr;simpa using hPr
   ·have:=HB.out;rw[HE.out.2]at this;exact this
theorem MD(U:List Pt)(x:Pt)(V:List Pt)(y:Pt)(Z:List Pt)(j:Nat)(h:U.length+1+V.length=j):(U++x::(V++y::Z))[j]?.getD z2=y:=by
 have:U++x::(V++y::Z)=(U++x::V)++y::Z:=by simp
 rw[this];exact et _ _ _ _ (by simp;omega)
theorem EF(U:List Pt)(x:Pt)(V:List Pt)(y:Pt)(Z:List Pt)(i j:Nat)(hi:U.length=i)(h:U.length+1+V.length=j):((U++x::(V++y::Z)).set i y).set j x=U++y::(V++x::Z):=by
 have e1:(U++x::(V++y::Z)).set i y=(U++y::V)++y::Z:=by subst hi;simp
 have e2:(U++y::V).length=j:=by simp;omega
 rw[e1,<-e2];simp
theorem fJ(b o cap n a c m:Nat)(A X B Y C:List Pt)(f:Value)(W:World)(ha:A.length=a)(hx:X.length=m)(hy:Y.length=m)(hc:a+m+B.length=c)(hn:c+m+C.length=n)(hsz:n<=1000000)(hP:Pts W b o (A++X++B++Y++C)):
  Calls prog 317 #[.slice (some ⟨b,o,none⟩) n cap,.int .i64 a,.int .i64 c,.int .i64 m,f] W fun e W'=>e=.returned (.tuple #[])/\Pts W' b o (A++Y++B++X++C)/\Chg b o n W W':=by
 have hac:a+m<=c:=by omega
 have hcm:c+m<=n:=by omega
 have HA:=hid ha;have HX:=hid hx;have HY:=hid hy;have HC:=hid hc;have HN:=hid hn;have HP:=hid hP;clear ha hx hy hc hn hP;go_enter func317,ntmps317;go_wp2_with fail
 go_loopw [10] (fun i wr=>∃(k:Nat),k<=m/\i=.int .i64 k/\Pts wr b o (A++(Y.take k++X.drop k)++B++(X.take k++Y.drop k)++C)/\Chg b o n W wr)
  (fun i _=>m - (intOf i).toNat)
 case atStart=>exact⟨0,zero_le _,rfl,by simpa using HP.out,Chg.refl HP.out n⟩
 case round =>
  obtain⟨k,hk,rfl,hPr,hCr⟩:=hrel;by_cases hlt:k<m
  ·have hltz:(k:Int)<(m:Int):=by omega
   have hkx:k<X.length:=by rw[HX.out];exact hlt
   have hky:k<Y.length:=by rw[HY.out];exact hlt
   obtain⟨x,hxe⟩:=Ex' (X[k]);obtain⟨y,hye⟩:=Ex' (Y[k]);have dx:X.drop k=x::X.drop (k+1):=by rw[drop_eq_getElem_cons hkx,hxe]
   have dy:Y.drop k=y::Y.drop (k+1):=by rw[drop_eq_getElem_cons hky,hye]
   have tx:X.take (k+1)=X.take k++[x]:=by rw[take_succ_eq_append_getElem hkx,hxe]
   have ty:Y.take (k+1)=Y.take k++[y]:=by rw[take_succ_eq_append_getElem hky,hye]
   obtain⟨U,hU⟩:∃ U,U=A++Y.take k:=⟨_,rfl⟩;obtain⟨V,hV⟩:∃ V,V=X.drop (k+1)++B++X.take k:=⟨_,rfl⟩;obtain⟨Z,hZ⟩:∃ Z,Z=Y.drop (k+1)++C:=⟨_,rfl⟩;have e1:A++(Y.take k++X.drop k)++B++(X.take k++Y.drop k)++C=U++x::(V++y::Z):=by rw[hU,hV,hZ,dx,dy];simp
   have e2:A++(Y.take (k+1)++X.drop (k+1))++B++(X.take (k+1)++Y.drop (k+1))++C=U++y::(V++x::Z):=by rw[hU,hV,hZ,tx,ty];simp
   have lU:U.length=a+k:=by rw[hU];have:=HA.out;have:=HY.out;simp;omega
   have lV:U.length+1+V.length=c+k:=by rw[lU,hV];have:=HX.out;have:=HC.out;simp;omega
   have lZ:(U++x::(V++y::Z)).length=n:=by rw[hU,hV,hZ];have:=HX.out;have:=HC.out;have:=HN.out;have:=HY.out;have:=HA.out;simp;omega
   rw[e1]at hPr;have HE2:=hid e2;clear dx dy tx ty e1 e2 hU hV hZ hxe hye hkx hky;have c0:=hPr.c0 (a+k) (by omega);have c1:=hPr.c1 (a+k) (by omega);have c2:=hPr.c0 (c+k) (by omega);have c3:=hPr.c1 (c+k) (by omega);rw[et _ _ _ _ lU]at c0 c1;rw[MD _ _ _ _ _ _ lV]at c2 c3;have f0:wr.frozen? ⟨b,o+(a+k) * 2,none⟩=false:=hPr.fr _;have f1:wr.frozen? ⟨b,o+(a+k) * 2+1,none⟩=false:=hPr.fr _;have f2:wr.frozen? ⟨b,o+(c+k) * 2,none⟩=false:=hPr.fr _;have f3:wr.frozen? ⟨b,o+(c+k) * 2+1,none⟩=false:=hPr.fr _;have z1:(a:Int)+(k:Int)<(n:Int):=by omega
   have z2:(c:Int)+(k:Int)<(n:Int):=by omega
   have z3:(0:Int)<=(a:Int)+(k:Int):=by omega
   have z4:(0:Int)<=(c:Int)+(k:Int):=by omega
   have z5:((a:Int)+(k:Int)).toNat=a+k:=by omega
   have z6:((c:Int)+(k:Int)).toNat=c+k:=by omega
   have z7:a+k≠c+k:=by omega
   have HPr:=hid hPr;have HCr:=hid hCr;clear hPr hCr;go_wp2_with fail
   go_region
   have hPn:=(HPr.out.set (a+k) y (by omega)).set (c+k) x (by rw[length_set];omega);rw[EF _ _ _ _ _ _ _ lU lV]at hPn;have hCn:=((((HCr.out.set (o+(a+k) * 2) (.int .i32 y.1) (by omega) (by omega)).set (o+(a+k) * 2+1) (.int .u8 y.2) (by omega) (by omega)).set (o+(c+k) * 2) (.int .i32 x.1) (by omega) (by omega)).set (o+(c+k) * 2+1) (.int .u8 x.2) (by omega) (by omega)).drew;have HPn:=hid hPn.drew;have HCn:=hid hCn;clear hPn hCn HPr HCr c0 c1 c2 c3 f0 f1 f2 f3;generalize World.drew _=wn at HPn HCn ⊢;go_wp2
   go_roundw
   case rel=>exact⟨k+1,by omega,by go_num,by rw[HE2.out];exact HPn.out,HCn.out⟩
   case measure=>simp[intOf];omega
  ·have hltz:¬ (k:Int)<(m:Int):=by omega
   have hk:k=m:=by omega
   have HE:Hid (X.drop k=[]/\X.take k=X/\Y.drop k=[]/\Y.take k=Y):=by
    have h1:X.length<=k:=by rw[HX.out];omega
    have h2:Y.length<=k:=by rw[HY.out];omega
    exact⟨List.drop_of_length_le h1,take_of_length_le h1,List.drop_of_length_le h2,take_of_length_le h2⟩
   go_wp2
   go_end0
   refine⟨rfl,?_,hCr⟩;rw[HE.out.1,HE.out.2.1,HE.out.2.2.1,HE.out.2.2.2]at hPr;simpa using hPr
theorem xU(b o cap n a m e:Nat)(A X Y C:List Pt)(f:Value)(W:World)(ha:A.length=a)(hx:a+X.length=m)(hy:m+Y.length=e)(hn:e+C.length=n)(hX:0<X.length)(hY:0<Y.length)(hsz:n<=1000000)(hP:Pts W b o (A++X++Y++C)):
  Calls prog 316 #[.slice (some ⟨b,o,none⟩) n cap,.int .i64 a,.int .i64 m,.int .i64 e,f] W fun r W'=>r=.returned (.tuple #[])/\Pts W' b o (A++Y++X++C)/\Chg b o n W W':=by
 have ham:a<m:=by omega
 have hme:m<e:=by omega
 have hen:e<=n:=by omega
 have HA:=hid ha;have HX:=hid hx;have HY:=hid hy;have HN:=hid hn;have HP:=hid hP;have HXp:=hid hX;have HYp:=hid hY;clear ha hx hy hn hP hX hY;have q1:((m:Int) - (a:Int))=((m - a:Nat):Int):=by omega
 have q2:((e:Int) - (m:Int))=((e - m:Nat):Int):=by omega
 go_enter func316,ntmps316;go_wp2_with fail
 go_loopw [10,11] (fun vi vj wr=>∃(i j:Nat) (L P Q R:List Pt),vi=.int .i64 i/\vj=.int .i64 j/\0<i/\0<j/\i<=m/\m+j<=n/\Pts wr b o (A++L++P++Q++R++C)/\Hid (a+L.length+i=m)/\Hid (P.length=i)/\Hid (Q.length=j)/\Hid (m+j+R.length=e)/\Hid (Y++X=L++Q++P++R)/\Chg b o n W wr)
  (fun vi vj _=>(intOf vi).toNat+(intOf vj).toNat)
 case atStart =>
  refine⟨m - a,e - m,[],X,Y,[],by first | rfl | (congr 1),by first | rfl | (congr 1),by omega,by omega,by omega,by omega,by simpa using HP.out,?_,?_,?_,?_,?_,Chg.refl HP.out n⟩
  ·show _=_;simp;omega
  ·show _=_;have:=HX.out;omega
  ·show _=_;have:=HY.out;omega
  ·show _=_;simp;omega
  ·show _=_;simp
 case round =>
  obtain⟨i,j,L,P,Q,R,rfl,rfl,hi0,hj0,him,hjn,hPr,H1,H2,H3,H4,H5,hCr⟩:=hrel;have w1:((m:Int) - (i:Int))=((m - i:Nat):Int):=by omega
  have w2:((m:Int)+(j:Int) - (i:Int))=((m+j - i:Nat):Int):=by omega
  have HPr:=hid hPr;have HCr:=hid hCr;clear hPr hCr;by_cases hij:i=j
  ·subst hij;have hb:((i:Int) != (i:Int))=false:=by simp
   have hc:=fJ b o cap n (m - i) m i (A++L) P [] Q (R++C) f wr (by have:=H1.out;have:=HA.out;simp;omega) H2.out H3.out (by simp;omega) (by have:=H4.out;have:=HN.out;simp;omega) hsz (by have:=HPr.out;simpa using this);have HCc:=hid hc;clear hc;go_wp2_with fail;refine(show Calls _ _ _ _ _ from HCc.out).mono ?_;rintro r w2 ⟨rfl,hP2,hC2⟩;go_wp2
   go_end0
   refine⟨rfl,?_,HCr.out.trans hC2⟩;have e1:A++Y++X++C=A++L++Q++[]++P++(R++C):=by have:=H5.out;rw[append_assoc A Y X,this];simp
   rw[e1];exact hP2
  ·have hb:((i:Int) != (j:Int))=true:=by simp;omega
   have hb2:((i:Int)==(j:Int))=false:=by simp;omega
   by_cases hlt:j<i
   ·have hltz:(j:Int)<(i:Int):=by omega
    have hlt2:¬ (i:Int)<=(j:Int):=by omega
    obtain⟨P1,P2,hPP,hP1⟩:∃ P1 P2,P=P1++P2/\P1.length=j:=⟨P.take j,P.drop j,(take_append_drop _ _).symm,by rw[length_take,H2.out];omega⟩;have hP2:P2.length=i - j:=by have:=H2.out;rw[hPP]at this;simp at this;omega
    have hc:=fJ b o cap n (m - i) m j (A++L) P1 P2 Q (R++C) f wr (by have:=H1.out;have:=HA.out;simp;omega) hP1 H3.out (by omega) (by have:=H4.out;have:=HN.out;simp;omega) hsz (by have:=HPr.out;rw[hPP]at this;simpa using this);have HCc:=hid hc;have HPP:=hid hPP;have w3:((i:Int) - (j:Int))=((i - j:Nat):Int):=by omega
    clear hc hPP;go_wp2_with fail;refine(show Calls _ _ _ _ _ from HCc.out).mono ?_;rintro r w2 ⟨rfl,hPn,hCn⟩;go_wp2
    go_roundw
    case rel =>
     refine⟨i - j,j,L++Q,P2,P1,R,by first | rfl | (congr 1),rfl,by omega,hj0,by omega,hjn,?_,?_,hP2,hP1,H4,?_,HCr.out.trans hCn⟩
     ·simpa using hPn
     ·show _=_;have:=H1.out;have:=H3.out;simp;omega
     ·show _=_;rw[H5.out,HPP.out];simp
    case measure=>simp[intOf] <;> omega
   ·have hltz:¬ (j:Int)<(i:Int):=by omega
    obtain⟨Q1,Q2,hQQ,hQ1⟩:∃ Q1 Q2,Q=Q1++Q2/\Q1.length=j - i:=⟨Q.take (j - i),Q.drop (j - i),(take_append_drop _ _).symm,by rw[length_take,H3.out];omega⟩;have hQ2:Q2.length=i:=by have:=H3.out;rw[hQQ]at this;simp at this;omega
    have hc:=fJ b o cap n (m - i) (m+j - i) i (A++L) P Q1 Q2 (R++C) f wr (by have:=H1.out;have:=HA.out;simp;omega) H2.out hQ2 (by omega) (by have:=H4.out;have:=HN.out;simp;omega) hsz (by have:=HPr.out;rw[hQQ]at this;simpa using this);have HCc:=hid hc;have HQQ:=hid hQQ;have w3:((j:Int) - (i:Int))=((j - i:Nat):Int):=by omega
    clear hc hQQ;go_wp2_with fail;refine(show Calls _ _ _ _ _ from HCc.out).mono ?_;rintro r w2 ⟨rfl,hPn,hCn⟩;go_wp2
    go_roundw
    case rel =>
     refine⟨i,j - i,L,Q2,Q1,P++R,rfl,by first | rfl | (congr 1),hi0,by omega,him,by omega,?_,H1,hQ2,hQ1,?_,?_,HCr.out.trans hCn⟩
     ·simpa using hPn
     ·show _=_;have:=H4.out;have:=H2.out;simp;omega
     ·show _=_;rw[H5.out,HQQ.out];simp
    case measure=>simp[intOf] <;> omega
def cls(l:List Pt)(i:Nat):Int:=(l[i]?.getD z2).2
theorem fl{l:List Pt}(h:Srt l){i j:Nat}(hij:i<=j)(hj:j<l.length):cls l i<=cls l j:=by
 unfold cls;rcases Nat.lt_or_eq_of_le hij with h1 | rfl
 ·have:=List.pairwise_iff_getElem.1 h i j (by omega) hj h1;rw[getElem?_eq_getElem (by omega),getElem?_eq_getElem hj];exact this
 ·exact Int.le_refl _
theorem ef{l:List Pt}{k:Nat}{x:Pt}(h:x∈l.take k):∃ i,i<k/\i<l.length/\x.2=cls l i:=by obtain⟨i,hi,e⟩:=List.mem_iff_getElem.1 h;rw[length_take]at hi;refine⟨i,by omega,by omega,?_⟩;unfold cls;rw[<-e,List.getElem_take,getElem?_eq_getElem (by omega)];rfl
theorem eo{l:List Pt}{k:Nat}{x:Pt}(h:x∈l.drop k):∃ i,k<=i/\i<l.length/\x.2=cls l i:=by obtain⟨i,hi,e⟩:=List.mem_iff_getElem.1 h;rw[length_drop]at hi;refine⟨k+i,by omega,by omega,?_⟩;unfold cls;rw[<-e,List.getElem_drop,getElem?_eq_getElem (by omega)];rfl
theorem tg(A X C:List Pt)(a k:Nat)(ha:A.length=a)(hk:k<X.length):(A++X++C)[a+k]?.getD z2=X[k]?.getD z2:=by subst ha;rw[append_assoc,getElem?_append_right (by omega),List.getElem?_append_left (by omega)];congr 2;omega
theorem EE(b o cap n a m e:Nat)(A:List Pt)(x:Pt)(Y C:List Pt)(W:World)(ha:A.length=a)(hx:a+1=m)(hy:m+Y.length=e)(hn:e+C.length=n)(hY:Srt Y)(hsz:n<=1000000)(hP:Pts W b o (A++x::Y++C)):
  Calls prog 313 #[.slice (some ⟨b,o,none⟩) n cap,.int .i64 a,.int .i64 m,.int .i64 e,.func (.func 293) #[] #[]] W fun r W'=>r=.returned (.tuple #[])/\∃ Z,Pts W' b o (A++Z++C)/\Chg b o n W W'/\Srt Z/\Stb (x::Y) Z:=by
 have hme:m<=e:=by omega
 have hen:e<=n:=by omega
 have ham:a<m:=by omega
 have HA:=hid ha;have HX:=hid hx;have HY:=hid hy;have HN:=hid hn;have HS:=hid hY;have HP:=hid hP;have q1:((m:Int) - (a:Int)==1)=true:=by simp;omega
 clear ha hx hy hn hP hY;go_enter func313,ntmps313;go_wp2_with fail
 go_loopw [10,11,12] (fun vi vj vh wr=>∃(i j:Nat),vi=.int .i64 i/\vj=.int .i64 j/\m<=i/\i<=j/\j<=e/\Below W.heap.size W wr/\Hid (i=m\/cls Y (i - 1 - m)<x.2)/\Hid (j=e\/x.2<=cls Y (j - m)))
  (fun vi vj _ _=>(intOf vj).toNat - (intOf vi).toNat)
 case atStart=>exact⟨m,e,rfl,rfl,le_refl _,hme,le_refl _,Below.refl _ _,.inl rfl,.inl rfl⟩
 case round =>
  obtain⟨i,j,rfl,rfl,hi,hij,hj,hB,H1,H2⟩:=hrel;by_cases hlt:i<j
  ·have hltz:(i:Int)<(j:Int):=by omega
   obtain⟨h,hh,hhi,hhj⟩:∃ h:Nat,((i:Int)+(j:Int)) / 2=(h:Int)/\i<=h/\h<j:=⟨(i+j) / 2,by omega,by omega,by omega⟩;have hPr:Pts wr b o (A++x::Y++C):=HP.out.below hB HP.out.lt;have hlen:(A++x::Y++C).length=n:=by have:=HA.out;have:=HX.out;have:=HY.out;have:=HN.out;simp;omega
   have hhy:h - m<Y.length:=by have:=HY.out;omega
   have e0:=hPr.c0 h (by omega);have e1:=hPr.c1 h (by omega);have e2:=hPr.c0 a (by omega);have e3:=hPr.c1 a (by omega);rw[show A++x::Y++C=A++x::(Y++C) by simp,et _ _ _ _ HA.out]at e2 e3;have eg:(A++x::Y++C)[h]?.getD z2=Y[h - m]?.getD z2:=by rw[show A++x::Y++C=(A++[x])++Y++C by simp,show h=m+(h - m) by omega,tg _ _ _ m (h - m) (by have:=HA.out;have:=HX.out;simp;omega) hhy];congr 2;omega
   rw[eg]at e0 e1;have HCL:Hid (cls Y (h - m)=(Y[h - m]?.getD z2).2):=rfl;generalize Y[h - m]?.getD z2=y at e0 e1 HCL;have hlb:b<wr.heap.size:=hPr.lt;have hz1:(h:Int)<(n:Int):=by omega
   have hz2:(a:Int)<(n:Int):=by omega
   have hne:Nonempty (aI wr):=⟨⟨wr,Below.refl _ _⟩⟩;have x0:∀ u:aI wr,u.W.cell? ⟨b,o+h * 2,none⟩=some (.int .i32 y.1):=fun u=>(u.h.cell (p:=⟨b,o+h * 2,none⟩) hlb).trans e0;have x1:∀ u:aI wr,u.W.cell? ⟨b,o+h * 2+1,none⟩=some (.int .u8 y.2):=fun u=>(u.h.cell (p:=⟨b,o+h * 2+1,none⟩) hlb).trans e1;have x2:∀ u:aI wr,u.W.cell? ⟨b,o+a * 2,none⟩=some (.int .i32 x.1):=fun u=>(u.h.cell (p:=⟨b,o+a * 2,none⟩) hlb).trans e2;have x3:∀ u:aI wr,u.W.cell? ⟨b,o+a * 2+1,none⟩=some (.int .u8 x.2):=fun u=>(u.h.cell (p:=⟨b,o+a * 2+1,none⟩) hlb).trans e3;have hcall:Hid (∀ W:World,Calls prog 293 #[.agg #[.int .i32 y.1,.int .u8 y.2],.agg #[.int .i32 x.1,.int .u8 x.2]] W fun e w'=>e=.returned (.int .i64 (jt y.2 x.2))/\Below W.heap.size W w'):=fun W=>fx y x W;have hci:=ln y.2 x.2;generalize jt y.2 x.2=ci at hci hcall;have HB:=hid hB;clear e0 e1 e2 e3 eg hPr hB;by_cases hxp:y.2<x.2
   ·have hci':ci<0:=hci.2 hxp;clear hci;go_wp2_with fail;refine az (by kernel_rfl) (by kernel_rfl) ?_;repeat (go_big_quiet_step ((go_at_call 293;exact aI.call _ (hcall.out _))))
    refine wpQuiet_nil ?_;rintro _ ⟨u,rfl⟩;have HBu:=hid (HB.out.trans (u.h.mono HB.out.size));clear x0 x1 x2 x3 hne;generalize u.W=wu at *;go_wp2
    go_roundw
    case rel=>exact⟨h+1,j,by go_num,rfl,by omega,by omega,hj,HBu.out,.inr (by rw[show h+1 - 1 - m=h - m by omega,HCL.out];exact hxp),H2⟩
    case measure=>simp[intOf] <;> omega
   ·have hci':¬ ci<0:=fun h=>hxp (hci.1 h);have hcd:decide (ci<0)=false:=by simpa using hci'
    clear hci;go_wp2_with fail;refine az (by kernel_rfl) (by kernel_rfl) ?_;repeat (go_big_quiet_step ((go_at_call 293;exact aI.call _ (hcall.out _))))
    refine wpQuiet_nil ?_;rintro _ ⟨u,rfl⟩;have HBu:=hid (HB.out.trans (u.h.mono HB.out.size));clear x0 x1 x2 x3 hne;generalize u.W=wu at *;go_wp2
    go_roundw
    case rel=>exact⟨i,h,rfl,rfl,hi,hhi,by omega,HBu.out,H1,.inr (by rw[HCL.out];omega)⟩
    case measure=>simp[intOf] <;> omega
  ·have hltz:¬ (i:Int)<(j:Int):=by omega
   obtain rfl:i=j:=by omega
   obtain⟨Y1,Y2,hYY,hY1,hlo,hhi⟩:∃ Y1 Y2,Y=Y1++Y2/\Y1.length=i - m/\(∀ y∈Y1,y.2<x.2)/\(∀ y∈Y2,x.2<=y.2):=by
    refine⟨Y.take (i - m),Y.drop (i - m),(take_append_drop _ _).symm,by rw[length_take];have:=HY.out;omega,fun y hy=>?_,fun y hy=>?_⟩
    ·obtain⟨k,hk1,hk2,e⟩:=ef hy;rcases H1.out with h | h
     ·omega
     ·have:=fl HS.out (show k<=i - 1 - m by omega) (by have:=HY.out;omega);rw[e];omega
    ·obtain⟨k,hk1,hk2,e⟩:=eo hy;rcases H2.out with h | h
     ·have:=HY.out;omega
     ·have:=fl HS.out hk1 hk2;rw[e];omega
   have HZ:Hid (Srt (Y1++x::Y2)/\Stb (x::Y) (Y1++x::Y2)):=by
    have h1:=aT.1 (by rw[<-hYY];exact HS.out);refine⟨aT.2 ⟨h1.1,da.2 ⟨hhi,h1.2.1⟩,fun p hp q hq=>?_⟩,?_⟩
    ·rcases List.mem_cons.1 hq with rfl | hq
     ·have:=hlo p hp;omega
     ·exact h1.2.2 p hp q hq
    ·rw[hYY];have:=(Stb.swap (X:=[x]) (Y:=Y1) (fun p hp q hq=>by simp at hp;subst hp;have:=hlo q hq;omega)).append (Stb.refl Y2);simpa using this
   have hPr:Pts wr b o (A++x::(Y1++(Y2++C))):=by have:=HP.out.below hB HP.out.lt;rw[hYY]at this;simpa using this
   have hCr:Chg b o n W wr:=(Chg.refl HP.out n).below hB;have HPr:=hid hPr;have HCr:=hid hCr;have hlY:Hid (Y1.length+Y2.length=Y.length):=by show _=_;rw[hYY];simp
   have HY1:=hid hY1;clear hPr hCr hB hYY hlo hhi hY1;have q2:(i:Int) - 1=((i - 1:Nat):Int):=by omega
   go_wp2_with fail
   go_loopw [13] (fun vk wr=>∃(k:Nat) (P Q:List Pt),vk=.int .i64 k/\a<=k/\k<=i - 1/\Pts wr b o (A++P++x::(Q++(Y2++C)))/\Hid (a+P.length=k)/\Hid (P++Q=Y1)/\Chg b o n W wr)
    (fun vk _=>i - (intOf vk).toNat)
   case atStart=>exact⟨a,[],Y1,rfl,le_refl _,by omega,by simpa using HPr.out,(by show _=_;simp),(by show _=_;simp),HCr.out⟩
   case round =>
    obtain⟨k,P,Q,rfl,hk1,hk2,hPk,HPL,HPQ,hCk⟩:=hrel;by_cases hlt:k<i - 1
    ·have hltz:(k:Int)<((i - 1:Nat):Int):=by omega
     obtain⟨y,Q',hQ'⟩:∃ y Q',Q=y::Q':=by
      cases Q with
      | nil=>have h1:=congrArg List.length HPQ.out;have h2:=HPL.out;have h3:=HY1.out;have h4:=HX.out;simp at h1;omega
      | cons y Q'=>exact⟨y,Q',rfl⟩
     have hPl:(A++P).length=k:=by have:=HPL.out;have:=HA.out;simp;omega
     have hPk2:Pts wr b o ((A++P)++x::y::(Q'++(Y2++C))):=by rw[hQ']at hPk;simpa using hPk
     have hlen2:((A++P)++x::y::(Q'++(Y2++C))).length=n:=by have h1:=congrArg List.length HPQ.out;have h2:=HPL.out;have h3:=HY1.out;have h4:=HX.out;have h5:=HY.out;have h6:=HN.out;have h7:=hlY.out;rw[hQ']at h1;simp at h1 hPl ⊢;omega
     have e0:=hPk2.c0 k (by omega);have e1:=hPk2.c1 k (by omega);have e2:=hPk2.c0 (k+1) (by omega);have e3:=hPk2.c1 (k+1) (by omega);rw[et _ _ _ _ hPl]at e0 e1;rw[pI _ _ _ _ _ hPl]at e2 e3;have f0:wr.frozen? ⟨b,o+k * 2,none⟩=false:=hPk2.fr _;have f1:wr.frozen? ⟨b,o+k * 2+1,none⟩=false:=hPk2.fr _;have f2:wr.frozen? ⟨b,o+(k+1) * 2,none⟩=false:=hPk2.fr _;have f3:wr.frozen? ⟨b,o+(k+1) * 2+1,none⟩=false:=hPk2.fr _;have z1:(k:Int)<(n:Int):=by omega
     have z2:(k:Int)+1<(n:Int):=by omega
     have z3:(0:Int)<=(k:Int)+1:=by omega
     have z4:((k:Int)+1).toNat=k+1:=by omega
     have HPk:=hid hPk2;have HCk:=hid hCk;have HQ':=hid hQ';clear hPk hPk2 hCk hQ';go_wp2_with fail
     go_region
     have hPn:=(HPk.out.set k y (by omega)).set (k+1) x (by rw[length_set];omega);rw[swap_nb' _ _ _ _ _ hPl]at hPn;have hCn:=((((HCk.out.set (o+k * 2) (.int .i32 y.1) (by omega) (by omega)).set (o+k * 2+1) (.int .u8 y.2) (by omega) (by omega)).set (o+(k+1) * 2) (.int .i32 x.1) (by omega) (by omega)).set (o+(k+1) * 2+1) (.int .u8 x.2) (by omega) (by omega)).drew;have HPn:=hid hPn.drew;have HCn:=hid hCn;clear hPn hCn HPk HCk e0 e1 e2 e3 f0 f1 f2 f3;generalize World.drew _=wn at HPn HCn ⊢;go_wp2
     go_roundw
     case rel =>
      refine⟨k+1,P++[y],Q',by go_num,by omega,by omega,?_,?_,?_,HCn.out⟩
      ·simpa using HPn.out
      ·show _=_;have:=HPL.out;simp;omega
      ·show _=_;rw[<-HPQ.out,HQ'.out];simp
     case measure=>simp[intOf] <;> omega
    ·have hltz:¬ (k:Int)<((i - 1:Nat):Int):=by omega
     have hQ0:Hid (Q=[]):=by have h1:=congrArg List.length HPQ.out;have h2:=HPL.out;have h3:=HY1.out;have h4:=HX.out;simp at h1;exact List.length_eq_zero_iff.1 (by omega)
     go_wp2;refine bodyPost_ret (results_none rfl _ _ _) rfl ?_;refine⟨rfl,Y1++x::Y2,?_,hCk,HZ.out.1,HZ.out.2⟩;have h1:=HPQ.out;rw[hQ0.out]at hPk h1;rw[append_nil]at h1;rw[h1]at hPk;simpa using hPk
theorem AZ(b o cap n a m e:Nat)(A X:List Pt)(y:Pt)(C:List Pt)(W:World)(ha:A.length=a)(hx:a+X.length=m)(hx1:X.length≠1)(hy:m+1=e)(hn:e+C.length=n)(hX:Srt X)(hsz:n<=1000000)(hP:Pts W b o (A++X++y::C)):
  Calls prog 313 #[.slice (some ⟨b,o,none⟩) n cap,.int .i64 a,.int .i64 m,.int .i64 e,.func (.func 293) #[] #[]] W fun r W'=>r=.returned (.tuple #[])/\∃ Z,Pts W' b o (A++Z++C)/\Chg b o n W W'/\Srt Z/\Stb (X++[y]) Z:=by
 have hme:m<e:=by omega
 have hen:e<=n:=by omega
 have ham:a<=m:=by omega
 have HA:=hid ha;have HX:=hid hx;have HY:=hid hy;have HN:=hid hn;have HS:=hid hX;have HP:=hid hP;have q1:((m:Int) - (a:Int)==1)=false:=by simp;omega
 have q2:((e:Int) - (m:Int)==1)=true:=by simp;omega
 clear ha hx hy hn hP hX hx1;go_enter func313,ntmps313;go_wp2_with fail
 go_loopw [14,15,16] (fun vi vj vh wr=>∃(i j:Nat),vi=.int .i64 i/\vj=.int .i64 j/\a<=i/\i<=j/\j<=m/\Below W.heap.size W wr/\Hid (i=a\/cls X (i - 1 - a)<=y.2)/\Hid (j=m\/y.2<cls X (j - a)))
  (fun vi vj _ _=>(intOf vj).toNat - (intOf vi).toNat)
 case atStart=>exact⟨a,m,rfl,rfl,le_refl _,ham,le_refl _,Below.refl _ _,.inl rfl,.inl rfl⟩
 case round =>
  obtain⟨i,j,rfl,rfl,hi,hij,hj,hB,H1,H2⟩:=hrel;by_cases hlt:i<j
  ·have hltz:(i:Int)<(j:Int):=by omega
   obtain⟨h,hh,hhi,hhj⟩:∃ h:Nat,((i:Int)+(j:Int)) / 2=(h:Int)/\i<=h/\h<j:=⟨(i+j) / 2,by omega,by omega,by omega⟩;have hPr:Pts wr b o (A++X++y::C):=HP.out.below hB HP.out.lt;have hlen:(A++X++y::C).length=n:=by have:=HA.out;have:=HX.out;have:=HY.out;have:=HN.out;simp;omega
   have hhx:h - a<X.length:=by have:=HX.out;omega
   have e0:=hPr.c0 h (by omega);have e1:=hPr.c1 h (by omega);have e2:=hPr.c0 m (by omega);have e3:=hPr.c1 m (by omega);rw[et _ _ _ _ (by have:=HA.out;have:=HX.out;simp;omega)]at e2 e3;have eg:(A++X++y::C)[h]?.getD z2=X[h - a]?.getD z2:=by rw[show h=a+(h - a) by omega,tg _ _ _ a (h - a) HA.out hhx];congr 2;omega
   rw[eg]at e0 e1;have HCL:Hid (cls X (h - a)=(X[h - a]?.getD z2).2):=rfl;generalize X[h - a]?.getD z2=x at e0 e1 HCL;have hlb:b<wr.heap.size:=hPr.lt;have hz1:(h:Int)<(n:Int):=by omega
   have hz2:(m:Int)<(n:Int):=by omega
   have hne:Nonempty (aI wr):=⟨⟨wr,Below.refl _ _⟩⟩;have x0:∀ u:aI wr,u.W.cell? ⟨b,o+h * 2,none⟩=some (.int .i32 x.1):=fun u=>(u.h.cell (p:=⟨b,o+h * 2,none⟩) hlb).trans e0;have x1:∀ u:aI wr,u.W.cell? ⟨b,o+h * 2+1,none⟩=some (.int .u8 x.2):=fun u=>(u.h.cell (p:=⟨b,o+h * 2+1,none⟩) hlb).trans e1;have x2:∀ u:aI wr,u.W.cell? ⟨b,o+m * 2,none⟩=some (.int .i32 y.1):=fun u=>(u.h.cell (p:=⟨b,o+m * 2,none⟩) hlb).trans e2;have x3:∀ u:aI wr,u.W.cell? ⟨b,o+m * 2+1,none⟩=some (.int .u8 y.2):=fun u=>(u.h.cell (p:=⟨b,o+m * 2+1,none⟩) hlb).trans e3;have hcall:Hid (∀ W:World,Calls prog 293 #[.agg #[.int .i32 y.1,.int .u8 y.2],.agg #[.int .i32 x.1,.int .u8 x.2]] W fun e w'=>e=.returned (.int .i64 (jt y.2 x.2))/\Below W.heap.size W w'):=fun W=>fx y x W;have hci:=ln y.2 x.2;generalize jt y.2 x.2=ci at hci hcall;have HB:=hid hB;clear e0 e1 e2 e3 eg hPr hB;by_cases hxp:y.2<x.2
   ·have hci':ci<0:=hci.2 hxp;clear hci;go_wp2_with fail;refine az (by kernel_rfl) (by kernel_rfl) ?_;repeat (go_big_quiet_step ((go_at_call 293;exact aI.call _ (hcall.out _))))
    refine wpQuiet_nil ?_;rintro _ ⟨u,rfl⟩;have HBu:=hid (HB.out.trans (u.h.mono HB.out.size));clear x0 x1 x2 x3 hne;generalize u.W=wu at *;go_wp2
    go_roundw
    case rel=>exact⟨i,h,rfl,rfl,hi,hhi,by omega,HBu.out,H1,.inr (by rw[HCL.out];exact hxp)⟩
    case measure=>simp[intOf] <;> omega
   ·have hci':¬ ci<0:=fun h=>hxp (hci.1 h);have hcd:decide (ci<0)=false:=by simpa using hci'
    clear hci;go_wp2_with fail;refine az (by kernel_rfl) (by kernel_rfl) ?_;repeat (go_big_quiet_step ((go_at_call 293;exact aI.call _ (hcall.out _))))
    refine wpQuiet_nil ?_;rintro _ ⟨u,rfl⟩;have HBu:=hid (HB.out.trans (u.h.mono HB.out.size));clear x0 x1 x2 x3 hne;generalize u.W=wu at *;go_wp2
    go_roundw
    case rel=>exact⟨h+1,j,by go_num,rfl,by omega,by omega,hj,HBu.out,.inr (by rw[show h+1 - 1 - a=h - a by omega,HCL.out];omega),H2⟩
    case measure=>simp[intOf] <;> omega
  ·have hltz:¬ (i:Int)<(j:Int):=by omega
   obtain rfl:i=j:=by omega
   obtain⟨X1,X2,hXX,hX1,hlo,hhi⟩:∃ X1 X2,X=X1++X2/\X1.length=i - a/\(∀ x∈X1,x.2<=y.2)/\(∀ x∈X2,y.2<x.2):=by
    refine⟨X.take (i - a),X.drop (i - a),(take_append_drop _ _).symm,by rw[length_take];have:=HX.out;omega,fun x hx=>?_,fun x hx=>?_⟩
    ·obtain⟨k,hk1,hk2,e⟩:=ef hx;rcases H1.out with h | h
     ·omega
     ·have:=fl HS.out (show k<=i - 1 - a by omega) (by have:=HX.out;omega);rw[e];omega
    ·obtain⟨k,hk1,hk2,e⟩:=eo hx;rcases H2.out with h | h
     ·have:=HX.out;omega
     ·have:=fl HS.out hk1 hk2;rw[e];omega
   have HZ:Hid (Srt (X1++y::X2)/\Stb (X++[y]) (X1++y::X2)):=by rw[hXX];exact vY (by rw[<-hXX];exact HS.out) hhi hlo
   have hPr:Pts wr b o (A++X1++X2++y::C):=by have:=HP.out.below hB HP.out.lt;rw[hXX]at this;simpa using this
   have hCr:Chg b o n W wr:=(Chg.refl HP.out n).below hB;have HPr:=hid hPr;have HCr:=hid hCr;have hlX:Hid (X1.length+X2.length=X.length):=by show _=_;rw[hXX];simp
   have HX1:=hid hX1;clear hPr hCr hB hXX hlo hhi hX1;go_wp2_with fail
   go_loopw [17] (fun vk wr=>∃(k:Nat) (P Q:List Pt),vk=.int .i64 k/\i<=k/\k<=m/\Pts wr b o (A++X1++P++y::(Q++C))/\Hid (i+P.length=k)/\Hid (P++Q=X2)/\Chg b o n W wr)
    (fun vk _=>(intOf vk).toNat)
   case atStart =>
    exact⟨m,X2,[],rfl,by omega,le_refl _,by simpa using HPr.out,(by show _=_;have:=HX1.out;have:=hlX.out;have:=HX.out;omega),(by show _=_;simp),HCr.out⟩
   case round =>
    obtain⟨k,P,Q,rfl,hk1,hk2,hPk,HPL,HPQ,hCk⟩:=hrel;by_cases hlt:i<k
    ·obtain⟨j,rfl⟩:∃ j,k=j+1:=⟨k - 1,by omega⟩;have hltz:(i:Int)<(j:Int)+1:=by omega
     obtain⟨P',p,hP'⟩:∃ P' p,P=P'++[p]:=by refine⟨P.dropLast,P.getLast (fun h=>?_),(List.dropLast_concat_getLast _).symm⟩;have:=HPL.out;rw[h]at this;simp at this;omega
     have hPl:(A++X1++P').length=j:=by have h1:=HPL.out;have:=HA.out;have:=HX1.out;rw[hP']at h1;simp at h1 ⊢;omega
     have hPk2:Pts wr b o ((A++X1++P')++p::y::(Q++C)):=by rw[hP']at hPk;simpa using hPk
     have hlen2:((A++X1++P')++p::y::(Q++C)).length=n:=by have h1:=congrArg List.length HPQ.out;have h2:=HPL.out;have h3:=HX1.out;have h4:=HX.out;have h5:=HY.out;have h6:=HN.out;have h7:=hlX.out;rw[hP']at h1 h2;simp at h1 h2 hPl ⊢;omega
     have e0:=hPk2.c0 j (by omega);have e1:=hPk2.c1 j (by omega);have e2:=hPk2.c0 (j+1) (by omega);have e3:=hPk2.c1 (j+1) (by omega);rw[et _ _ _ _ hPl]at e0 e1;rw[pI _ _ _ _ _ hPl]at e2 e3;have f0:wr.frozen? ⟨b,o+j * 2,none⟩=false:=hPk2.fr _;have f1:wr.frozen? ⟨b,o+j * 2+1,none⟩=false:=hPk2.fr _;have f2:wr.frozen? ⟨b,o+(j+1) * 2,none⟩=false:=hPk2.fr _;have f3:wr.frozen? ⟨b,o+(j+1) * 2+1,none⟩=false:=hPk2.fr _;have z1:(j:Int)<(n:Int):=by omega
     have z2:(j:Int)+1<(n:Int):=by omega
     have z3:(0:Int)<=(j:Int)+1:=by omega
     have z4:((j:Int)+1).toNat=j+1:=by omega
     have HPk:=hid hPk2;have HCk:=hid hCk;have HP':=hid hP';clear hPk hPk2 hCk hP';go_wp2_with fail
     go_region
     have hPn:=(HPk.out.set (j+1) p (by omega)).set j y (by rw[length_set];omega);rw[zE _ _ _ _ _ hPl]at hPn;have hCn:=((((HCk.out.set (o+(j+1) * 2) (.int .i32 p.1) (by omega) (by omega)).set (o+(j+1) * 2+1) (.int .u8 p.2) (by omega) (by omega)).set (o+j * 2) (.int .i32 y.1) (by omega) (by omega)).set (o+j * 2+1) (.int .u8 y.2) (by omega) (by omega)).drew;have HPn:=hid hPn.drew;have HCn:=hid hCn;clear hPn hCn HPk HCk e0 e1 e2 e3 f0 f1 f2 f3;generalize World.drew _=wn at HPn HCn ⊢;go_wp2
     go_roundw
     case rel =>
      refine⟨j,P',p::Q,by go_num,by omega,by omega,?_,?_,?_,HCn.out⟩
      ·simpa using HPn.out
      ·show _=_;have h1:=HPL.out;rw[HP'.out]at h1;simp at h1;omega
      ·show _=_;rw[<-HPQ.out,HP'.out];simp
     case measure=>simp[intOf] <;> omega
    ·have hltz:¬ (i:Int)<(k:Int):=by omega
     have hP0:Hid (P=[]):=List.length_eq_zero_iff.1 (by have:=HPL.out;omega);go_wp2;refine bodyPost_ret (results_none rfl _ _ _) rfl ?_;refine⟨rfl,X1++y::X2,?_,hCk,HZ.out.1,HZ.out.2⟩;have h1:=HPQ.out;rw[hP0.out]at hPk h1;rw[nil_append]at h1;rw[h1]at hPk;simpa using hPk
theorem mw{X1 X2 Y1 Y2 Z1 Z2:List Pt}(hX:Srt (X1++X2))(hY:Srt (Y1++Y2))(C1:∀ x∈X1,∀ y∈Y2,x.2<=y.2)(C2:∀ y∈Y1,∀ x∈X2,y.2<x.2)
  (s1:Srt Z1) (s2:Srt Z2) (t1:Stb (X1++Y1) Z1) (t2:Stb (X2++Y2) Z2):Srt (Z1++Z2)/\Stb ((X1++X2)++(Y1++Y2)) (Z1++Z2):=by
 have hx:=aT.1 hX;have hy:=aT.1 hY;refine⟨aT.2 ⟨s1,s2,fun p hp q hq=>?_⟩,?_⟩
 ·have hp':=List.mem_append.1 (t1.perm.mem_iff.1 hp);have hq':=List.mem_append.1 (t2.perm.mem_iff.1 hq);rcases hp' with hp' | hp' <;> rcases hq' with hq' | hq'
  ·exact hx.2.2 p hp' q hq'
  ·exact C1 p hp' q hq'
  ·have:=C2 p hp' q hq';omega
  ·exact hy.2.2 p hp' q hq'
 ·have h1:=((Stb.refl X1).append (Stb.swap (X:=X2) (Y:=Y1) (fun p hp q hq=>by have:=C2 q hq p hp;omega))).append (Stb.refl Y2);have h2:Stb (X1++Y1++(X2++Y2)) (Z1++Z2):=t1.append t2;refine Stb.trans ?_ h2;simpa using h1
theorem EO{a b:List Pt}(ha:Srt a)(hb:Srt b)(h:a=[]\/b=[]):Srt (a++b):=by
 rcases h with rfl | rfl
 ·simpa using hb
 ·simpa using ha
theorem Dl{X Y:List Pt}{a m e mid N s lo hi:Nat}(hx:a+X.length=m)(hy:m+Y.length=e)(hN:mid+m=N)(hX:Srt X)(hY:Srt Y)(hc:(lo=a/\hi=m)\/(lo+e=N/\hi=mid))(h1:lo<=s)(h2:s<=hi)
  (ha:a<=s) (hm:s<=m) (hd:s<=mid) (he:N<=s+e) (I1:s=lo\/cls X (s - 1 - a)<=cls Y (N - s - m)) (I2:s=hi\/cls Y (N - 1 - s - m)<cls X (s - a)) :
  ∃ X1 X2 Y1 Y2,X=X1++X2/\Y=Y1++Y2/\a+X1.length=s/\s+X2.length=m/\m+Y1.length=N - s/\N - s+Y2.length=e/\(∀ x∈X1,∀ y∈Y2,x.2<=y.2)/\(∀ y∈Y1,∀ x∈X2,y.2<x.2):=by
 refine⟨X.take (s - a),X.drop (s - a),Y.take (N - s - m),Y.drop (N - s - m),(take_append_drop _ _).symm,(take_append_drop _ _).symm,by rw[length_take];omega,by rw[length_drop];omega,by rw[length_take];omega,by rw[length_drop];omega,fun x hxm y hym=>?_,fun y hym x hxm=>?_⟩
 ·obtain⟨i,hi1,hi2,e1⟩:=ef hxm;obtain⟨k,hk1,hk2,e2⟩:=eo hym;rcases I1 with h | h
  ·rcases hc with⟨hc1,hc2⟩ | ⟨hc1,hc2⟩ <;> omega
  ·have g1:=fl hX (show i<=s - 1 - a by omega) (by omega);have g2:=fl hY hk1 hk2;rw[e1,e2];omega
 ·obtain⟨i,hi1,hi2,e1⟩:=eo hxm;obtain⟨k,hk1,hk2,e2⟩:=ef hym;rcases I2 with h | h
  ·rcases hc with⟨hc1,hc2⟩ | ⟨hc1,hc2⟩ <;> omega
  ·have g1:=fl hX hi1 hi2;have g2:=fl hY (show k<=N - 1 - s - m by omega) (by omega);rw[e1,e2];omega
def zm(b o n:Nat)(A X Y C:List Pt)(W:World)(r:Ending)(W':World):Prop:=r=.returned (.tuple #[])/\∃ Z,Pts W' b o (A++Z++C)/\Chg b o n W W'/\Srt Z/\Stb (X++Y) Z
theorem qq(x y z v:Nat):(x<y/\decide ((x:Int)<(y:Int))=true/\(x:Int)<(y:Int)/\z<v/\decide ((z:Int)<(v:Int))=true/\(z:Int)<(v:Int)/\Hid (decide (x<y/\z<v)=true))\/(x<y/\decide ((x:Int)<(y:Int))=true/\(x:Int)<(y:Int)/\¬ z<v/\decide ((z:Int)<(v:Int))=false/\Hid (decide (x<y/\z<v)=false))\/(¬ x<y/\decide ((x:Int)<(y:Int))=false/\Hid (decide (x<y/\z<v)=false)):=by
 by_cases h1:x<y
 ·by_cases h2:z<v
  ·exact .inl ⟨h1,decide_eq_true (by omega),by omega,h2,decide_eq_true (by omega),by omega,decide_eq_true ⟨h1,h2⟩⟩
  ·exact .inr (.inl ⟨h1,decide_eq_true (by omega),by omega,h2,decide_eq_false (by omega),decide_eq_false fun h=>h2 h.2⟩)
 ·exact .inr (.inr ⟨h1,decide_eq_false (by omega),decide_eq_false fun h=>h1 h.1⟩)
theorem Ki(F b o cap n:Nat)(hsz:n<=1000000)
  (ih:∀(a m e:Nat) (A X Y C:List Pt) (W:World),A.length=a->a+X.length=m->m+Y.length=e->e+C.length=n->0<X.length->0<Y.length->Srt X->Srt Y->e - a<F->Pts W b o (A++X++Y++C) ->
    Calls prog 313 #[.slice (some ⟨b,o,none⟩) n cap,.int .i64 a,.int .i64 m,.int .i64 e,.func (.func 293) #[] #[]] W fun r W'=>zm b o n A X Y C W r W')
  (a m e:Nat) (A X Y C:List Pt) (W:World) (ha:A.length=a) (hx:a+X.length=m) (hy:m+Y.length=e) (hn:e+C.length=n) (hx1:1<X.length) (hy1:1<Y.length) (hX:Srt X) (hY:Srt Y) (hF:e - a=F) (hP:Pts W b o (A++X++Y++C)) :
  Calls prog 313 #[.slice (some ⟨b,o,none⟩) n cap,.int .i64 a,.int .i64 m,.int .i64 e,.func (.func 293) #[] #[]] W fun r W'=>zm b o n A X Y C W r W':=by
 have ham:a+1<m:=by omega
 have hme:m+1<e:=by omega
 have hen:e<=n:=by omega
 have q1:((m:Int) - (a:Int)==1)=false:=by simp;omega
 have q2:((e:Int) - (m:Int)==1)=false:=by simp;omega
 obtain⟨mid,hmid,hm1,hm2⟩:∃ mid:Nat,((a:Int)+(e:Int)) / 2=(mid:Int)/\2 * mid<=a+e/\a+e<=2 * mid+1:=⟨(a+e) / 2,by omega,by omega,by omega⟩;obtain⟨N,hN,hN2⟩:∃ N:Nat,(mid:Int)+(m:Int)=(N:Int)/\mid+m=N:=⟨mid+m,by omega,rfl⟩;obtain⟨p,hp,hp2⟩:∃ p:Nat,(N:Int) - 1=(p:Int)/\p+1=N:=⟨N - 1,by omega,by omega⟩;have HN2:=hid hN2;have HP2:=hid hp2;have HIH:=hid ih;have HA:=hid ha;have HX:=hid hx;have HY:=hid hy;have HN:=hid hn;have HSX:=hid hX;have HSY:=hid hY;have HP:=hid hP;have HF:=hid hF;have hNn:N<=2000000:=by omega
 clear ha hx hy hn hP hX hY hF ih hN2 hp2 hx1 hy1;go_enter func313,ntmps313
 go_upto_if 140 with fail
 go_cut [20,21] from 138 (fun v20 v21 wc=>∃ lo hi:Nat,v20=.int .i64 lo/\v21=.int .i64 hi/\W=wc/\Hid ((lo=a/\hi=m)\/(lo+e=N/\hi=mid))/\a<=lo/\lo<=hi/\hi<=m/\hi<=mid/\N<=lo+e)
 case first =>
  by_cases hmm:mid<m
  ·have hz:(mid:Int)<(m:Int):=by omega
   have hz2:(N:Int) - (e:Int)=((N - e:Nat):Int):=by have:=HN2.out;omega
   go_wp2
   go_meet
   case rel=>exact⟨N - e,mid,by first | rfl | (congr 1),rfl,rfl,.inr ⟨by have:=HN2.out;omega,rfl⟩,by have:=HN2.out;omega,by have:=HN2.out;omega,by omega,le_refl _,by have:=HN2.out;omega⟩
  ·have hz:¬ (mid:Int)<(m:Int):=by omega
   go_wp2
   go_meet
   case rel=>exact⟨a,m,rfl,rfl,rfl,.inl ⟨rfl,rfl⟩,le_refl _,by omega,le_refl _,by omega,by have:=HN2.out;omega⟩
 case rest =>
  obtain⟨lo,hi,rfl,rfl,rfl,HC,hl1,hl2,hl3,hl4,hl5⟩:=hcut;go_wp2_with fail
  go_loopw [20,21,23] (fun vs vr vc wr=>∃(s r:Nat),vs=.int .i64 s/\vr=.int .i64 r/\lo<=s/\s<=r/\r<=hi/\Below W.heap.size W wr/\Hid (s=lo\/cls X (s - 1 - a)<=cls Y (N - s - m))/\Hid (r=hi\/cls Y (N - 1 - r - m)<cls X (r - a)))
   (fun vs vr _ _=>(intOf vr).toNat - (intOf vs).toNat)
  case atStart=>exact⟨lo,hi,rfl,rfl,le_refl _,hl2,le_refl _,Below.refl _ _,.inl rfl,.inl rfl⟩
  case round =>
   obtain⟨s,r,rfl,rfl,hs1,hsr,hr1,hB,I1,I2⟩:=hrel;by_cases hlt:s<r
   ·have hltz:(s:Int)<(r:Int):=by omega
    obtain⟨c,hc,hc1,hc2⟩:∃ c:Nat,((s:Int)+(r:Int)) / 2=(c:Int)/\s<=c/\c<r:=⟨(s+r) / 2,by omega,by omega,by omega⟩;obtain⟨d,hd,hd2⟩:∃ d:Nat,(p:Int) - (c:Int)=(d:Int)/\d+c+1=N:=⟨p - c,by have:=HP2.out;have:=HN2.out;omega,by have:=HP2.out;have:=HN2.out;omega⟩;have HD2:=hid hd2;have hdm:m<=d:=by have:=HN2.out;omega
    have hde:d<e:=by have:=HN2.out;omega
    clear hd2;have hPr:Pts wr b o (A++X++Y++C):=HP.out.below hB HP.out.lt;have hlen:(A++X++Y++C).length=n:=by have:=HA.out;have:=HX.out;have:=HY.out;have:=HN.out;simp;omega
    have hcx:c - a<X.length:=by have:=HX.out;omega
    have hdy:d - m<Y.length:=by have:=HY.out;omega
    have e0:=hPr.c0 c (by omega);have e1:=hPr.c1 c (by omega);have e2:=hPr.c0 d (by omega);have e3:=hPr.c1 d (by omega);have eg:(A++X++Y++C)[c]?.getD z2=X[c - a]?.getD z2:=by rw[show A++X++Y++C=A++X++(Y++C) by simp,show c=a+(c - a) by omega,tg _ _ _ a (c - a) HA.out hcx];congr 2;omega
    have eh:(A++X++Y++C)[d]?.getD z2=Y[d - m]?.getD z2:=by rw[show d=m+(d - m) by omega,tg _ _ _ m (d - m) (by have:=HA.out;have:=HX.out;simp;omega) hdy];congr 2;omega
    rw[eg]at e0 e1;rw[eh]at e2 e3;have HCX:Hid (cls X (c - a)=(X[c - a]?.getD z2).2):=rfl;have HCY:Hid (cls Y (d - m)=(Y[d - m]?.getD z2).2):=rfl;generalize X[c - a]?.getD z2=x at e0 e1 HCX;generalize Y[d - m]?.getD z2=y at e2 e3 HCY;have hlb:b<wr.heap.size:=hPr.lt;have hz1:(c:Int)<(n:Int):=by omega
    have hz2:(d:Int)<(n:Int):=by omega
    have hne:Nonempty (aI wr):=⟨⟨wr,Below.refl _ _⟩⟩;have x0:∀ u:aI wr,u.W.cell? ⟨b,o+c * 2,none⟩=some (.int .i32 x.1):=fun u=>(u.h.cell (p:=⟨b,o+c * 2,none⟩) hlb).trans e0;have x1:∀ u:aI wr,u.W.cell? ⟨b,o+c * 2+1,none⟩=some (.int .u8 x.2):=fun u=>(u.h.cell (p:=⟨b,o+c * 2+1,none⟩) hlb).trans e1;have x2:∀ u:aI wr,u.W.cell? ⟨b,o+d * 2,none⟩=some (.int .i32 y.1):=fun u=>(u.h.cell (p:=⟨b,o+d * 2,none⟩) hlb).trans e2;have x3:∀ u:aI wr,u.W.cell? ⟨b,o+d * 2+1,none⟩=some (.int .u8 y.2):=fun u=>(u.h.cell (p:=⟨b,o+d * 2+1,none⟩) hlb).trans e3;have hcall:Hid (∀ W:World,Calls prog 293 #[.agg #[.int .i32 y.1,.int .u8 y.2],.agg #[.int .i32 x.1,.int .u8 x.2]] W fun e w'=>e=.returned (.int .i64 (jt y.2 x.2))/\Below W.heap.size W w'):=fun W=>fx y x W;have hci:=ln y.2 x.2;generalize jt y.2 x.2=ci at hci hcall;have HB:=hid hB;clear e0 e1 e2 e3 eg eh hPr hB;by_cases hxp:y.2<x.2
    ·have hci':ci<0:=hci.2 hxp;clear hci;go_wp2_with fail;refine az (by kernel_rfl) (by kernel_rfl) ?_;repeat (go_big_quiet_step ((go_at_call 293;exact aI.call _ (hcall.out _))))
     refine wpQuiet_nil ?_;rintro _ ⟨u,rfl⟩;have HBu:=hid (HB.out.trans (u.h.mono HB.out.size));clear x0 x1 x2 x3 hne;generalize u.W=wu at *;go_wp2
     go_roundw
     case rel=>exact⟨s,c,rfl,rfl,hs1,hc1,by omega,HBu.out,I1,.inr (by rw[show N - 1 - c - m=d - m by have:=HD2.out;omega,HCX.out,HCY.out];exact hxp)⟩
     case measure=>simp[intOf] <;> omega
    ·have hci':¬ ci<0:=fun h=>hxp (hci.1 h);have hcd:decide (ci<0)=false:=by simpa using hci'
     clear hci;go_wp2_with fail;refine az (by kernel_rfl) (by kernel_rfl) ?_;repeat (go_big_quiet_step ((go_at_call 293;exact aI.call _ (hcall.out _))))
     refine wpQuiet_nil ?_;rintro _ ⟨u,rfl⟩;have HBu:=hid (HB.out.trans (u.h.mono HB.out.size));clear x0 x1 x2 x3 hne;generalize u.W=wu at *;go_wp2
     go_roundw
     case rel=>exact⟨c+1,r,by go_num,rfl,by omega,by omega,hr1,HBu.out,.inr (by rw[show c+1 - 1 - a=c - a by omega,show N - (c+1) - m=d - m by have:=HD2.out;omega,HCX.out,HCY.out];omega),I2⟩
     case measure=>simp[intOf] <;> omega
   ·have hltz:¬ (s:Int)<(r:Int):=by omega
    obtain rfl:s=r:=by omega
    obtain⟨X1,X2,Y1,Y2,hXX,hYY,l1,l2,l3,l4,C1,C2⟩:=Dl HX.out HY.out HN2.out HSX.out HSY.out HC.out hs1 hr1 (by omega) (by omega) (by omega) (by omega) I1.out I2.out;obtain⟨t,ht,ht2⟩:∃ t:Nat,(N:Int) - (s:Int)=(t:Int)/\t+s=N:=⟨N - s,by have:=HN2.out;omega,by have:=HN2.out;omega⟩;have hts:N - s=t:=by omega
    rw[hts]at l3 l4;have HT2:=hid ht2;have L1:=hid l1;have L2:=hid l2;have L3:=hid l3;have L4:=hid l4;have b1:a<=s:=by omega
    have b2:s<=m:=by omega
    have b3:m<=t:=by omega
    have b4:t<=e:=by omega
    have b5:s<=mid:=by omega
    have b6:mid<=t:=by have:=HN2.out;omega
    have HXX:=hid hXX;have HYY:=hid hYY;have HC1:=hid C1;have HC2:=hid C2;have HSp:Hid (Srt (X1++X2)/\Srt (Y1++Y2)):=⟨by rw[<-hXX];exact HSX.out,by rw[<-hYY];exact HSY.out⟩;have hPr:Hid (Pts wr b o (A++X1++X2++Y1++Y2++C)):=by have:=HP.out.below hB HP.out.lt;show Pts _ _ _ _;rw[hXX,hYY]at this;simpa using this
    have hCr:Hid (Chg b o n W wr):=(Chg.refl HP.out n).below hB;clear hXX hYY l1 l2 l3 l4 C1 C2 ht2 hts hB I1 I2 hltz
    go_upto_region 39 with fail
    go_cut [185] from 178 (fun v wc=>v=.bool (decide (s<m/\m<t))/\wr=wc)
    case first =>
     rcases qq s m m t with⟨g1,g1d,g1z,g2,g2d,g2z,GG⟩ | ⟨g1,g1d,g1z,g2,g2d,GG⟩ | ⟨g1,g1d,GG⟩
     all_goals
      go_wp2
      go_meet
      case rel=>exact⟨by rw[GG.out],rfl⟩
    case rest =>
     obtain⟨rfl,rfl⟩:=hcut;obtain⟨B,hB⟩:∃ B:Bool,B=decide (s<m/\m<t):=⟨_,rfl⟩;rw[<-hB];have HB:=hid hB;clear hB
     go_upto_if 185 with fail
     go_cut [] from 178 (fun wc=>Hid (Pts wc b o (A++X1++Y1++X2++Y2++C))/\Hid (Chg b o n W wc))
     case first =>
      cases B with
      | true =>
       have hb:=of_decide_eq_true HB.out.symm;have hc:=xU b o cap n s m t (A++X1) X2 Y1 (Y2++C) (.func (.func 293) #[] #[]) wr (by have:=HA.out;have:=L1.out;simp;omega) L2.out L3.out (by have:=L4.out;have:=HN.out;simp;omega) (by have:=L2.out;omega) (by have:=L3.out;omega) hsz (by have:=hPr.out;simpa using this);have HCc:=hid hc;clear hc hb;go_wp2_with fail;refine(show Calls _ _ _ _ _ from HCc.out).mono ?_;rintro r w2 ⟨rfl,hPn,hCn⟩;go_wp2
       go_meet
       case rel=>exact⟨by show Pts _ _ _ _;simpa using hPn,hCr.out.trans hCn⟩
      | false =>
       have hb:=of_decide_eq_false HB.out.symm
       have hz:X2=[]\/Y1=[]:=by
        by_cases h:s<m
        ·exact .inr (List.length_eq_zero_iff.1 (by have:=L3.out;omega))
        ·exact .inl (List.length_eq_zero_iff.1 (by have:=L2.out;omega))
       have HPn:Hid (Pts wr b o (A++X1++Y1++X2++Y2++C)):=by show Pts _ _ _ _;have:=hPr.out;rcases hz with hz | hz <;> rw[hz]at this ⊢ <;> simpa using this
       clear hb hz;go_wp2
       go_meet
       case rel=>exact⟨HPn,hCr⟩
     case rest =>
      obtain⟨HP1,HC1r⟩:=hcut;clear hPr hCr HB;generalize wc=wr at *
      go_upto_region 41 with fail
      go_cut [199] from 192 (fun v wc=>v=.bool (decide (a<s/\s<mid))/\wr=wc)
      case first =>
       rcases qq a s s mid with⟨g1,g1d,g1z,g2,g2d,g2z,GG⟩ | ⟨g1,g1d,g1z,g2,g2d,GG⟩ | ⟨g1,g1d,GG⟩
       all_goals
        go_wp2
        go_meet
        case rel=>exact⟨by rw[GG.out],rfl⟩
      case rest =>
       obtain⟨rfl,rfl⟩:=hcut;obtain⟨B,hB⟩:∃ B:Bool,B=decide (a<s/\s<mid):=⟨_,rfl⟩;rw[<-hB];have HB:=hid hB;clear hB
       go_upto_if 199 with fail
       go_cut [] from 192 (fun wc=>∃ Z1,Hid (Pts wc b o (A++Z1++X2++Y2++C))/\Hid (Chg b o n W wc)/\Hid (Srt Z1)/\Hid (Stb (X1++Y1) Z1))
       case first =>
        cases B with
        | true =>
         have hb:=of_decide_eq_true HB.out.symm;have hc:=HIH.out a s mid A X1 Y1 (X2++Y2++C) wr HA.out L1.out (by have:=L3.out;have:=HT2.out;have:=HN2.out;omega) (by have:=L2.out;have:=L4.out;have:=HN.out;have:=HT2.out;have:=HN2.out;simp;omega) (by have:=L1.out;omega) (by have:=L3.out;have:=HT2.out;have:=HN2.out;omega) (aT.1 HSp.out.1).1 (aT.1 HSp.out.2).1 (by have:=HF.out;omega) (by have:=HP1.out;simpa using this);have HCc:=hid hc;clear hc hb;go_wp2_with fail;refine(show Calls _ _ _ _ _ from HCc.out).mono ?_;rintro r w2 ⟨rfl,Z1,hPn,hCn,hS1,hT1⟩;go_wp2
         go_meet
         case rel=>exact⟨Z1,by show Pts _ _ _ _;simpa using hPn,HC1r.out.trans hCn,hS1,hT1⟩
        | false =>
         have hb:=of_decide_eq_false HB.out.symm
         have hz:X1=[]\/Y1=[]:=by
          by_cases h:a<s
          ·exact .inr (List.length_eq_zero_iff.1 (by have:=L3.out;have:=HT2.out;have:=HN2.out;omega))
          ·exact .inl (List.length_eq_zero_iff.1 (by have:=L1.out;omega))
         have HPn:Hid (Pts wr b o (A++(X1++Y1)++X2++Y2++C)/\Srt (X1++Y1)):=by refine⟨by have:=HP1.out;simpa using this,?_⟩;exact EO (aT.1 HSp.out.1).1 (aT.1 HSp.out.2).1 hz
         clear hb hz;go_wp2
         go_meet
         case rel=>exact⟨X1++Y1,HPn.out.1,HC1r,HPn.out.2,Stb.refl _⟩
       case rest =>
        obtain⟨Z1,HP2r,HC2r,HS1,HT1⟩:=hcut;clear HP1 HC1r HB;generalize wc=wr at *;have HL1:Hid (Z1.length+a=mid):=by show _=_;have:=HT1.out.len;have:=L1.out;have:=L3.out;have:=HT2.out;have:=HN2.out;simp at *;omega
        go_upto_region 43 with fail
        go_cut [213] from 206 (fun v wc=>v=.bool (decide (mid<t/\t<e))/\wr=wc)
        case first =>
         rcases qq mid t t e with⟨g1,g1d,g1z,g2,g2d,g2z,GG⟩ | ⟨g1,g1d,g1z,g2,g2d,GG⟩ | ⟨g1,g1d,GG⟩
         all_goals
          go_wp2
          go_meet
          case rel=>exact⟨by rw[GG.out],rfl⟩
        case rest =>
         obtain⟨rfl,rfl⟩:=hcut;obtain⟨B,hB⟩:∃ B:Bool,B=decide (mid<t/\t<e):=⟨_,rfl⟩;rw[<-hB];have HB:=hid hB;clear hB;cases B with
         | true =>
          have hb:=of_decide_eq_true HB.out.symm;have hc:=HIH.out mid t e (A++Z1) X2 Y2 C wr (by have:=HA.out;have:=HL1.out;simp;omega) (by have:=L2.out;have:=HT2.out;have:=HN2.out;omega) L4.out HN.out (by have:=L2.out;have:=HT2.out;have:=HN2.out;omega) (by have:=L4.out;omega) (aT.1 HSp.out.1).2.1 (aT.1 HSp.out.2).2.1 (by have:=HF.out;omega) (by have:=HP2r.out;simpa using this);have HCc:=hid hc;clear hc hb;go_wp2_with fail;refine(show Calls _ _ _ _ _ from HCc.out).mono ?_;rintro r w2 ⟨rfl,Z2,hPn,hCn,hS2,hT2⟩;go_wp2
          go_end0
          have hfin:=mw HSp.out.1 HSp.out.2 HC1.out HC2.out HS1.out hS2 HT1.out hT2;refine⟨rfl,Z1++Z2,by simpa using hPn,HC2r.out.trans hCn,hfin.1,?_⟩;rw[HXX.out,HYY.out];exact hfin.2
         | false =>
          have hb:=of_decide_eq_false HB.out.symm
          have hz:X2=[]\/Y2=[]:=by
           by_cases h:mid<t
           ·exact .inr (List.length_eq_zero_iff.1 (by have:=L4.out;omega))
           ·exact .inl (List.length_eq_zero_iff.1 (by have:=L2.out;have:=HT2.out;have:=HN2.out;omega))
          have HS2:Hid (Srt (X2++Y2)):=by exact EO (aT.1 HSp.out.1).2.1 (aT.1 HSp.out.2).2.1 hz
          clear hb hz;go_wp2
          go_end0
          have hfin:=mw HSp.out.1 HSp.out.2 HC1.out HC2.out HS1.out HS2.out HT1.out (Stb.refl _);refine⟨rfl,Z1++(X2++Y2),by have:=HP2r.out;simpa using this,HC2r.out,hfin.1,?_⟩;rw[HXX.out,HYY.out];exact hfin.2
theorem zD(b o cap n:Nat)(hsz:n<=1000000):∀(F:Nat) (a m e:Nat) (A X Y C:List Pt) (W:World),A.length=a->a+X.length=m->m+Y.length=e->e+C.length=n->0<X.length->0<Y.length->Srt X->Srt Y->e - a<F->Pts W b o (A++X++Y++C) ->
  Calls prog 313 #[.slice (some ⟨b,o,none⟩) n cap,.int .i64 a,.int .i64 m,.int .i64 e,.func (.func 293) #[] #[]] W fun r W'=>zm b o n A X Y C W r W':=by
 intro F
 induction F with
 | zero=>intro a m e A X Y C W _ _ _ _ _ _ _ _ h;omega
 | succ F ih =>
  intro a m e A X Y C W ha hx hy hn hX0 hY0 hX hY hF hP;by_cases h1:X.length=1
  ·obtain⟨x,rfl⟩:=List.length_eq_one_iff.1 h1;exact EE b o cap n a m e A x Y C W ha (by simpa using hx) hy hn hY hsz (by simpa using hP)
  by_cases h2:Y.length=1
  ·obtain⟨y,rfl⟩:=List.length_eq_one_iff.1 h2;exact AZ b o cap n a m e A X y C W ha hx h1 (by simpa using hy) hn hX hsz (by simpa using hP)
  exact Ki (e - a) b o cap n hsz (fun a' m' e' A' X' Y' C' W' q1 q2 q3 q4 q5 q6 q7 q8 q9 q10=>ih a' m' e' A' X' Y' C' W' q1 q2 q3 q4 q5 q6 q7 q8 (by omega) q10) a m e A X Y C W ha hx hy hn (by omega) (by omega) hX hY rfl hP
def Blk(s:Nat)(D:List (List Pt)):Prop:=∀ d∈D,d.length=s/\Srt d
theorem Blk.len{s:Nat}:∀ {D:List (List Pt)},Blk s D->D.flatten.length=s * D.length
 | [],_=>by simp
 | d::D,h=>by have h1:=(h d (by simp)).1;have h2:=Blk.len (D:=D) (fun x hx=>h x (by simp[hx]));simp only[List.flatten_cons,length_append,length_cons];rw[h1,h2,Nat.mul_add];omega
theorem Blk.snoc{s:Nat}{D:List (List Pt)}{d:List Pt}(h:Blk s D)(h1:d.length=s)(h2:Srt d):Blk s (D++[d]):=by
 intro x hx;rcases List.mem_append.1 hx with hx | hx
 ·exact h x hx
 ·simp at hx;subst hx;exact⟨h1,h2⟩
theorem Blk.nil(s:Nat):Blk s []:=fun d hd=>by cases hd
theorem xj{s:Nat}{D:List (List Pt)}{F:List Pt}(h:Blk s D)(hF:Srt F)(hn:D.flatten.length+F.length<=s)(hs:0<s):Srt (D.flatten++F):=by
 have hl:=h.len;match D,h,hl,hn with
 | [],_,_,_=>simpa using hF
 | [d],h,hl,hn =>
  have h1:=h d (by simp);have:F=[]:=List.length_eq_zero_iff.1 (by simp at hn;omega);rw[this];simpa using h1.2
 | d::d'::D,h,hl,hn =>
  have h1:=(h d (by simp)).1;have h2:=(h d' (by simp)).1;simp at hn;omega
theorem Nl{s:Nat}{D:List (List Pt)}{F:List Pt}(h:Blk s D)(hF:F.length<s)(hn:2 * s<=D.flatten.length+F.length):∃ X Y D',D=X::Y::D':=by
 have hl:=h.len;match D,h,hl,hn with
 | [],_,_,hn=>simp at hn;omega
 | [d],h,hl,hn =>
  have h1:=(h d (by simp)).1;simp at hn;omega
 | d::d'::D,h,hl,hn=>exact⟨d,d',D,rfl⟩
theorem Jf{s:Nat}{D:List (List Pt)}{F:List Pt}(h:Blk s D)(hn:D.flatten.length+F.length<2 * s):D=[]\/∃ X,D=[X]:=by
 have hl:=h.len;match D,h,hl,hn with
 | [],_,_,hn=>exact .inl rfl
 | [d],h,hl,hn=>exact .inr ⟨d,rfl⟩
 | d::d'::D,h,hl,hn =>
  have h1:=(h d (by simp)).1;have h2:=(h d' (by simp)).1;simp at hn;omega
theorem xM(b o cap n:Nat)(l:List Pt)(W:World)(hn:l.length=n)(hsz:n<=100000)(hP:Pts W b o l):
  Calls prog 306 #[.slice (some ⟨b,o,none⟩) n cap,.int .i64 n,.func (.func 293) #[] #[]] W fun r W'=>r=.returned (.tuple #[])/\Pts W' b o (cV l)/\Chg b o n W W':=by
 have HN:=hid hn;have HP:=hid hP;have FIN:Hid (∀ W' l',Pts W' b o l'->Chg b o n W W'->Srt l'->Stb l l'->Pts W' b o (cV l)/\Chg b o n W W'):=fun W' l' h1 h2 h3 h4=>by rw[<-Hw h4 h3];exact⟨h1,h2⟩
 clear hn hP;go_enter func306,ntmps306;go_wp2_with fail
 go_loopw [7,8] (fun v7 v8 wr=>∃(a:Nat) (D:List (List Pt)) (E:List Pt),v7=.int .i64 a/\v8=.int .i64 (a+20:Nat)/\a<=n/\Pts wr b o (D.flatten++E)/\Hid (D.flatten.length=a)/\Hid (Blk 20 D)/\Hid (Stb l (D.flatten++E))/\Chg b o n W wr)
  (fun v7 _ _=>n - (intOf v7).toNat)
 case atStart=>exact⟨0,[],l,rfl,rfl,zero_le _,by simpa using HP.out,rfl,Blk.nil _,(by show Stb _ _;simpa using Stb.refl l),Chg.refl HP.out n⟩
 case round =>
  obtain⟨a,D,E,rfl,rfl,han,hPr,HL,HB,HS,hCr⟩:=hrel;have HE:Hid (a+E.length=n):=by show _=_;have:=HS.out.len;have:=HL.out;have:=HN.out;simp at *;omega
  have HPr:=hid hPr;have HCr:=hid hCr;clear hPr hCr;by_cases hlt:a+20<=n
  ·have hz:(a:Int)+20<=(n:Int):=by omega
   obtain⟨M,C,hEM,hM⟩:∃ M C,E=M++C/\M.length=20:=⟨E.take 20,E.drop 20,(take_append_drop _ _).symm,by rw[length_take];have:=HE.out;omega⟩;have HEM:=hid hEM;have hc:=Ao b o cap n a 20 D.flatten M C wr HL.out hM (by have:=HE.out;rw[hEM]at this;simp at this;omega) (by omega) (by have:=HPr.out;rw[hEM]at this;simpa using this);have HC:=hid hc;have HM:=hid hM;clear hc hEM hM;go_wp2_with fail;refine(show Calls _ _ _ _ _ from HC.out).mono ?_;rintro r w2 ⟨rfl,M',hPn,hCn,hSn,hTn⟩;go_wp2
   go_roundw
   case rel =>
    refine⟨a+20,D++[M'],C,rfl,by go_num,hlt,?_,?_,HB.out.snoc (by rw[hTn.len];exact HM.out) hSn,?_,HCr.out.trans hCn⟩
    ·simpa using hPn
    ·show _=_;have h1:=HL.out;have h2:=hTn.len;have h3:=HM.out;simp at h1 ⊢;omega
    ·show Stb _ _;refine HS.out.trans ?_;rw[HEM.out];have:=((Stb.refl D.flatten).append hTn).append (Stb.refl C);simpa using this
   case measure=>simp[intOf] <;> omega
  ·have hz:¬ (a:Int)+20<=(n:Int):=by omega
   have hc:=Ao b o cap n a E.length D.flatten E [] wr HL.out rfl (by have:=HE.out;simp;omega) (by omega) (by have:=HPr.out;simpa using this);rw[HE.out]at hc;have HC:=hid hc;clear hc;go_wp2_with fail;refine(show Calls _ _ _ _ _ from HC.out).mono ?_;rintro r w2 ⟨rfl,F0,hPn,hCn,hSn,hTn⟩;have HP2:Hid (Pts w2 b o (D.flatten++F0)):=by show Pts _ _ _ _;simpa using hPn
   have HC2:=hid (HCr.out.trans hCn);have HS2:Hid (Stb l (D.flatten++F0)):=HS.out.trans ((Stb.refl _).append hTn);have HF2:Hid (F0.length<20):=by show _<_;rw[hTn.len];have:=HE.out;omega
   have HSF:=hid hSn;clear hPn hCn hSn hTn HS HPr HCr HC;go_wp2_with fail
   go_loopw [6,7,8,9] (fun v6 v7 v8 v9 wr=>∃(s:Nat) (D:List (List Pt)) (F:List Pt),v6=.int .i64 s/\0<s/\s<=300000/\Pts wr b o (D.flatten++F)/\Hid (Blk s D)/\Hid (F.length<s)/\Hid (Srt F)/\Hid (Stb l (D.flatten++F))/\Chg b o n W wr)
    (fun v6 _ _ _ _=>n - (intOf v6).toNat)
   case atStart=>exact⟨20,D,F0,rfl,by omega,by omega,HP2.out,HB,HF2,HSF,HS2,HC2.out⟩
   case round =>
    obtain⟨s,D,F,rfl,hs0,hs1,hPr,HB,HF,HSF,HS,hCr⟩:=hrel;have HLn:Hid (D.flatten.length+F.length=n):=by show _=_;have:=HS.out.len;have:=HN.out;simp at *;omega
    by_cases hsn:s<n
    ·have hz2:(s:Int)<(n:Int):=by omega
     obtain⟨t,ht1,ht2,ht3⟩:∃ t:Nat,2 * (s:Int)=(t:Int)/\(s:Int) * 2=(t:Int)/\2 * s=t:=⟨2 * s,by omega,by omega,rfl⟩;have HT:=hid ht3;have ht4:t<=200000:=by omega
     have ht5:s<t:=by omega
     clear ht3;have HPr:=hid hPr;have HCr:=hid hCr;clear hPr hCr;go_wp2_with fail
     go_loopw [7,8] (fun v7 v8 wr=>∃(a:Nat) (E D':List (List Pt)),v7=.int .i64 a/\v8=.int .i64 (a+t:Nat)/\a<=n/\Pts wr b o (E.flatten++(D'.flatten++F))/\Hid (E.flatten.length=a)/\Hid (Blk t E)/\Hid (Blk s D')/\Hid (Stb l (E.flatten++(D'.flatten++F)))/\Chg b o n W wr)
      (fun v7 _ _=>n - (intOf v7).toNat)
     case atStart=>exact⟨0,[],D,rfl,by first | rfl | (congr 1;omega),zero_le _,by simpa using HPr.out,rfl,Blk.nil _,HB,(by show Stb _ _;simpa using HS.out),HCr.out⟩
     case round =>
      obtain⟨a,E,D',rfl,rfl,han,hPr,HL,HBE,HBD,HS,hCr⟩:=hrel;have HE:Hid (a+(D'.flatten.length+F.length)=n):=by show _=_;have:=HS.out.len;have:=HL.out;have:=HN.out;simp at *;omega
      have HPr:=hid hPr;have HCr:=hid hCr;clear hPr hCr;by_cases hlt:a+t<=n
      ·have hz:(a:Int)+(t:Int)<=(n:Int):=by omega
       obtain⟨X,Y,D2,hD⟩:=Nl HBD.out HF.out (by have:=HT.out;have:=HE.out;omega);have hX:=HBD.out X (by rw[hD];simp);have hY:=HBD.out Y (by rw[hD];simp);have HBD2:Hid (Blk s D2):=fun d hd=>HBD.out d (by rw[hD];simp[hd]);have hc:=zD b o cap n (by omega) (n+1) a (a+s) (a+t) E.flatten X Y (D2.flatten++F) wr HL.out (by omega) (by have:=HT.out;omega) (by have h1:=HE.out;have:=HT.out;rw[hD]at h1;simp at h1 ⊢;omega) (by omega) (by omega) hX.2 hY.2 (by omega) (by have:=HPr.out;rw[hD]at this;simpa using this);have HC:=hid hc;have HD:=hid hD;have HXY:Hid (X.length=s/\Y.length=s):=⟨hX.1,hY.1⟩;clear hc hD hX hY;go_wp2_with fail;refine(show Calls _ _ _ _ _ from HC.out).mono ?_;rintro r w3 ⟨rfl,Z,hPn,hCn,hSn,hTn⟩;go_wp2
       go_roundw
       case rel =>
        refine⟨a+t,E++[Z],D2,rfl,by go_num,hlt,?_,?_,HBE.out.snoc (by rw[hTn.len];have:=HXY.out;have:=HT.out;simp;omega) hSn,HBD2,?_,HCr.out.trans hCn⟩
        ·simpa using hPn
        ·show _=_;have h1:=HL.out;have h2:=hTn.len;have h3:=HXY.out;have:=HT.out;simp at h1 h2 ⊢;omega
        ·show Stb _ _;refine HS.out.trans ?_;rw[HD.out];have:=((Stb.refl E.flatten).append hTn).append (Stb.refl (D2.flatten++F));simpa using this
       case measure=>simp[intOf] <;> omega
      ·have hz:¬ (a:Int)+(t:Int)<=(n:Int):=by omega
       by_cases hm:a+s<n
       ·have hzm:(a:Int)+(s:Int)<(n:Int):=by omega
        obtain⟨X,hD⟩:∃ X,D'=[X]:=by
         rcases Jf (F:=F) HBD.out (by have:=HE.out;have:=HT.out;omega) with h | h
         ·have h1:=HE.out;have:=HF.out;rw[h]at h1;simp at h1;omega
         ·exact h
        have hX:=HBD.out X (by rw[hD];simp);have hc:=zD b o cap n (by omega) (n+1) a (a+s) n E.flatten X F [] wr HL.out (by omega) (by have h1:=HE.out;rw[hD]at h1;simp at h1;omega) (by simp) (by omega) (by have h1:=HE.out;rw[hD]at h1;simp at h1;omega) hX.2 HSF.out (by omega) (by have:=HPr.out;rw[hD]at this;simpa using this);have HC:=hid hc;have HD:=hid hD;have HXl:=hid hX.1;clear hc hD hX;go_wp2_with fail;refine(show Calls _ _ _ _ _ from HC.out).mono ?_;rintro r w3 ⟨rfl,Z,hPn,hCn,hSn,hTn⟩;go_wp2
        go_roundw
        case rel =>
         refine⟨t,E,Z,rfl,by omega,by omega,by simpa using hPn,HBE,?_,hSn,?_,HCr.out.trans hCn⟩
         ·show _<_;rw[hTn.len];have:=HXl.out;have:=HT.out;have:=HF.out;simp;omega
         ·show Stb _ _;refine HS.out.trans ?_;rw[HD.out];have:=(Stb.refl E.flatten).append hTn;simpa using this
        case measure=>simp[intOf] <;> omega
       ·have hzm:¬ (a:Int)+(s:Int)<(n:Int):=by omega
        have HG:Hid (∃ G,D'.flatten++F=G/\Srt G/\G.length<t):=by
         refine⟨_,rfl,?_,?_⟩
         ·exact xj HBD.out HSF.out (by have:=HE.out;omega) hs0
         ·have:=HE.out;have:=HT.out;rw[length_append];omega
        go_wp2
        go_roundw
        case rel =>
         obtain⟨G,hG1,hG2,hG3⟩:=HG.out;have h1:=HPr.out;have h2:=HS.out;rw[hG1]at h1 h2;exact⟨t,E,G,rfl,by omega,by omega,h1,HBE,hG3,hG2,h2,HCr.out⟩
        case measure=>simp[intOf] <;> omega
    ·have hz2:¬ (s:Int)<(n:Int):=by omega
     have HR:=hid (FIN.out wr _ hPr hCr (xj HB.out HSF.out (by have:=HLn.out;omega) hs0) HS.out);go_wp2
     go_end0
     exact⟨rfl,HR.out.1,HR.out.2⟩
def cl(r:Int):Int:=(D.fnd r).2.2.2.2.2.1
def pt(r:Int):Pt:=(r,cl r)
def xH:Nat->Int->Bool
 | 0,r=>(D.dcp r).isEmpty
 | k+1,r=>(D.dcp r).all (xH k)
def fdn:Nat->Int->List Int
 | 0,r=>[r]
 | k+1,r=>if (D.dcp r).isEmpty then [r] else (D.dcp r).flatMap (fdn k)
def fd(r:Int):List Int:=fdn 5 r
def keys:List Int:=[8486,8490,8491]++D.prs.map (·.1)
theorem gO{r:Int}(h:(D.dcp r).isEmpty=false):r∈keys:=by
 unfold D.dcp at h;by_cases hs:D.sgl r≠0
 ·unfold keys;rw[List.mem_append];refine .inl ?_;unfold D.sgl at hs;by_cases h1:r=8486
  ·simp[h1]
  by_cases h2:r=8490
  ·simp[h2]
  by_cases h3:r=8491
  ·simp[h3]
  have e1:(r==8486)=false:=by simpa using h1
  have e2:(r==8490)=false:=by simpa using h2
  have e3:(r==8491)=false:=by simpa using h3
  exact absurd (by simp[List.lookup,e1,e2,e3]) hs
 ·rw[if_neg hs]at h;cases he:D.prs.find? (fun x=>x.1==r) with
  | none=>rw[he]at h;simp at h
  | some p =>
   unfold keys;rw[List.mem_append];exact .inr (List.mem_map.2 ⟨p,List.mem_of_find?_eq_some he,by simpa using find?_some he⟩)
theorem Mh:(keys.all fun r=>xH 4 r&&decide (fdn 5 r=(D.dcp r).flatMap (fdn 5))&&decide (cl r=0)&&(fd r).all (fun c=>(D.dcp c).isEmpty)&&decide (cl ((fd r).headD 0)=0)&&decide ((fd r).length<=3)&&!(fd r).isEmpty)=true:=by kernel_rfl
theorem kH{r:Int}(h:r∈keys):xH 4 r=true/\fd r=(D.dcp r).flatMap fd/\cl r=0/\(∀ c∈fd r,D.dcp c=[])/\cl ((fd r).headD 0)=0/\(fd r).length<=3/\fd r≠[]:=by have:=List.all_eq_true.1 Mh r h;simp only[and_eq_true,decide_eq_true_eq,List.all_eq_true,Bool.not_eq_true',List.isEmpty_iff,List.isEmpty_eq_false_iff]at this;obtain⟨⟨⟨⟨⟨⟨h1,h2⟩,h3⟩,h4⟩,h5⟩,h6⟩,h7⟩:=this;exact⟨h1,h2,h3,h4,h5,h6,h7⟩
theorem QV(r:Int):xH 4 r=true:=by
 cases h:(D.dcp r).isEmpty with
 | true =>
      have:D.dcp r=[]:=by simpa using h
      show(D.dcp r).all (xH 3)=true;rw[this];rfl
 | false=>exact(kH (gO h)).1
theorem lY{r:Int}(h:D.dcp r=[]):fd r=[r]:=by show(if (D.dcp r).isEmpty then [r] else _)=[r];rw[h];rfl
theorem ML{r:Int}(h:D.dcp r≠[]):fd r=(D.dcp r).flatMap fd:=(kH (gO (by simpa using h))).2.1
theorem Iw(r:Int):1<=(fd r).length/\(fd r).length<=3:=by
 by_cases h:D.dcp r=[]
 ·rw[lY h];simp
 ·have:=kH (gO (by simpa using h))
  exact⟨by have:=this.2.2.2.2.2.2;cases e:fd r with
    | nil=>exact absurd e this
    | cons a l=>simp,this.2.2.2.2.2.1⟩
theorem MK{r:Int}(h:cl r=0):cl ((fd r).headD 0)=0:=by
 by_cases h1:D.dcp r=[]
 ·rw[lY h1];exact h
 ·exact(kH (gO (by simpa using h1))).2.2.2.2.1
theorem As(l:List Int):(l.flatMap fd).length<=l.length * 3:=by
 induction l with
 | nil=>simp
 | cons a l ih=>rw[List.flatMap_cons,length_append,length_cons];have:=(Iw a).2;omega
theorem oc{α:Type}{P:List α->Prop}(h0:P [])(h1:∀ l p,P l->P (l++[p]))(l:List α):P l:=by
 have:∀ r:List α,P r.reverse:=by
  intro r
  induction r with
  | nil=>exact h0
  | cons a r ih=>rw[List.reverse_cons];exact h1 _ _ ih
 have h:=this l.reverse
 rwa [List.reverse_reverse]at h
theorem tlv(c:Array Value)(i:Nat):c.toList[i]? = c[i]? := by simp
def stp(s:List Pt×List Pt)(p:Pt):List Pt×List Pt:=if p.2=0 then (s.1++cV s.2++[p],[]) else (s.1,s.2++[p])
def st(l:List Pt):List Pt×List Pt:=l.foldl stp ([],[])
def ord(l:List Pt):List Pt:=(st l).1++cV (st l).2
theorem si(l:List Pt)(p:Pt):st (l++[p])=stp (st l) p:=by simp[st,foldl_append]
theorem EN(l:List Pt):(st l).1.length+(st l).2.length=l.length:=by
 induction l using oc with
 | h0=>rfl
 | h1 l p ih =>
  rw[si];unfold stp;split
  ·have:=(cJ (st l).2).len;simp only[length_append,length_cons,length_nil];omega
  ·simp only[length_append,length_cons,length_nil];omega
def c2(p:Pt):List Value:=[.int .i32 p.1,.int .u8 p.2]
def aZ(l:List Pt):List Value:=l.flatMap c2
theorem cK(l:List Pt):(aZ l).length=l.length * 2:=by
 induction l with
 | nil=>rfl
 | cons s l ih=>simp only[aZ,List.flatMap_cons,length_append,length_cons]at ih ⊢;rw[ih];simp[c2];omega
theorem lX(l:List Pt):∀ j,j<l.length->(aZ l)[j * 2]? = some (.int .i32 (l[j]?.getD z2).1)/\(aZ l)[j * 2+1]? = some (.int .u8 (l[j]?.getD z2).2):=by
 induction l with
 | nil=>intro j hj;simp at hj
 | cons s l ih =>
  intro j hj;rcases j with _ | j
  ·simp[aZ,c2]
  ·have h:=ih j (by simpa using hj);have e:aZ (s::l)=c2 s++aZ l:=rfl;have hl:(c2 s).length=2:=rfl;rw[e,getElem?_append_right (by omega),getElem?_append_right (by omega),hl,show(j+1) * 2 - 2=j * 2 by omega,show(j+1) * 2+1 - 2=j * 2+1 by omega];simpa using h
theorem fm{W:World}{base g n cap:Nat}{O S:List Pt}(h:W.ownsRow base 279 2 (.slice (some ⟨g,0,none⟩) n cap) n (aZ (O++S))):Pts W g (O.length * 2) S:=by
 obtain⟨hl,h⟩:=h;rcases h with⟨h,_⟩ | ⟨g',cap',cur,e,_,hg,_,_,_,ht⟩
 ·cases h
 ·cases e;refine⟨cur,279,hg,fun j hj=>?_⟩;have hn:(O++S).length * 2=n * 2:=by rw[<-hl,cK]
  rw[length_append]at hn;have hf:=lX (O++S) (O.length+j) (by rw[length_append];omega);rw[<-ht,getElem?_take_of_lt (by omega),getElem?_take_of_lt (by omega),tlv,tlv]at hf;rw[show O.length * 2+j * 2=(O.length+j) * 2 by omega];rw[getElem?_append_right (by omega),show O.length+j - O.length=j by omega]at hf;exact hf
theorem Cy{n:Nat}{X:List Value}{l:List Pt}(hn:l.length=n)(hX:X.length=n * 2)(h:∀ j,j<n->X[j * 2]? = some (.int .i32 (l[j]?.getD z2).1)/\X[j * 2+1]? = some (.int .u8 (l[j]?.getD z2).2)):X=aZ l:=by
 apply List.ext_getElem?;intro i;by_cases hi:i<n * 2
 ·have hj:=h (i / 2) (by omega);have hf:=lX l (i / 2) (by omega);rcases Nat.mod_two_eq_zero_or_one i with hm | hm
  ·rw[show i=i / 2 * 2 by omega,hj.1,hf.1]
  ·rw[show i=i / 2 * 2+1 by omega,hj.2,hf.2]
 ·rw[List.getElem?_eq_none (by omega),List.getElem?_eq_none (by rw[cK];omega)]
theorem uV{W W':World}{base g n cap:Nat}{O S S':List Pt}(h:W.ownsRow base 279 2 (.slice (some ⟨g,0,none⟩) n cap) n (aZ (O++S)))(hc:Chg g (O.length * 2) S.length W W')(hp:Pts W' g (O.length * 2) S')(hl:S'.length=S.length):
  W'.ownsRow base 279 2 (.slice (some ⟨g,0,none⟩) n cap) n (aZ (O++S')):=by
 obtain⟨hl0,h⟩:=h;rcases h with⟨h,_⟩ | ⟨g',cap',cur,e,hb,hg,hn1,hn2,hn3,ht⟩
 ·cases h
 ·cases e;obtain⟨c1,c2',t,e1,e2,hs,hf⟩:=hc.blk;rw[hg]at e1;cases e1;obtain⟨c3,t3,e3,hp⟩:=hp;rw[e2]at e3;cases e3;have hn:(O++S).length * 2=n * 2:=by rw[<-hl0,cK]
  rw[length_append]at hn;refine⟨by rw[cK,length_append,hl];exact hn,.inr ⟨g,cap,c2',rfl,hb,e2,hn1,hn2,by rw[hs,hn3],?_⟩⟩;refine Cy (n:=n) (by rw[length_append,hl];omega) (by rw[length_take,Array.length_toList,hs,hn3];have:=Nat.mul_le_mul_right 2 hn1;omega) (fun j hj=>?_);rw[getElem?_take_of_lt (by omega),getElem?_take_of_lt (by omega),tlv,tlv];by_cases hjo:j<O.length
  ·rw[hf _ (.inl (by omega)),hf _ (.inl (by omega))];have hff:=lX (O++S) j (by rw[length_append];omega);rw[<-ht,getElem?_take_of_lt (by omega),getElem?_take_of_lt (by omega),tlv,tlv,List.getElem?_append_left hjo]at hff;rw[List.getElem?_append_left hjo];exact hff
  ·have:=hp (j - O.length) (by omega);rw[show O.length * 2+(j - O.length) * 2=j * 2 by omega]at this;rw[getElem?_append_right (by omega)];exact this
theorem lR(b o cap n:Nat)(l:List Pt)(W:World)(hn:l.length=n)(hsz:n<=100000)(hP:Pts W b o l):
  Calls prog 263 #[.slice (some ⟨b,o,none⟩) n cap] W fun r W'=>r=.returned (.tuple #[])/\Pts W' b o (cV l)/\Chg b o n W W':=by
 have hst:Calls prog 292 #[.slice (some ⟨b,o,none⟩) n cap,.func (.func 293) #[] #[]] W fun r W'=>r=.returned (.tuple #[])/\Pts W' b o (cV l)/\Chg b o n W W':=by
  have hs:=hid (xM b o cap n l W hn hsz hP);clear hP hn;go_enter func292,ntmps292;go_wp2_with fail;refine(show Calls _ _ _ _ _ from hs.out).mono ?_;rintro r W' ⟨rfl,h1,h2⟩;go_wp2
  go_end0
  exact⟨rfl,h1,h2⟩
 have hs:=hid hst;clear hP hn hst;go_enter func263,ntmps263;go_wp2_with fail;refine(show Calls _ _ _ _ _ from hs.out).mono ?_;rintro r W' ⟨rfl,h1,h2⟩;go_wp2
 go_end0
 exact⟨rfl,h1,h2⟩
theorem Hz(a:Option Addr)(cap:Nat)(W:World):Calls prog 312 #[.slice a 0 cap,.int .i64 0,.int .i64 0,.func (.func 293) #[] #[]] W fun r W'=>r=.returned (.tuple #[])/\W'=W:=by
 go_enter func312,ntmps312;go_wp2_with fail;refine wp_loop_rounds 1 ?_;rw[rounds_succ];go_wp2
 go_end0
 exact⟨rfl,rfl⟩
theorem oR(a:Option Addr)(cap:Nat)(W:World):Calls prog 263 #[.slice a 0 cap] W fun r W'=>r=.returned (.tuple #[])/\W'=W:=by
 have h1:Calls prog 306 #[.slice a 0 cap,.int .i64 0,.func (.func 293) #[] #[]] W fun r W'=>r=.returned (.tuple #[])/\W'=W:=by
  go_enter func306,ntmps306;go_wp2_with fail;refine wp_loop_rounds 1 ?_;rw[rounds_succ];go_wp2_with fail;refine(Hz a cap _).mono ?_;rintro r W' ⟨rfl,rfl⟩;go_wp2_with fail;refine wp_loop_rounds 1 ?_;rw[rounds_succ];go_wp2
  go_end0
  exact⟨rfl,rfl⟩
 have h2:Calls prog 292 #[.slice a 0 cap,.func (.func 293) #[] #[]] W fun r W'=>r=.returned (.tuple #[])/\W'=W:=by
  have hs:=hid h1;clear h1;go_enter func292,ntmps292;go_wp2_with fail;refine(show Calls _ _ _ _ _ from hs.out).mono ?_;rintro r W' ⟨rfl,rfl⟩;go_wp2
  go_end0
  exact⟨rfl,rfl⟩
 have hs:=hid h2;clear h1 h2;go_enter func263,ntmps263;go_wp2_with fail;refine(show Calls _ _ _ _ _ from hs.out).mono ?_;rintro r W' ⟨rfl,rfl⟩;go_wp2
 go_end0
 exact⟨rfl,rfl⟩
open Go.RowKit Go.Shelf
def stays:Obj->Bool
 | .cells _ t _=>decide (t≠279/\t≠242/\t≠3)
 | _=>false
structure Kp(B:Nat)(W W':World):Prop where
 size:W.heap.size<=W'.heap.size
 cel:∀(k:Nat) (o:Obj),W.heap[k]? = some o->stays o=true->W'.heap[k]? = some o
 oth:∀(k:Nat) (o:Obj),B<=k->W.heap[k]? = some o->o.isCells=false->W'.heap[k]? = some o
theorem Kp.trans{B:Nat}{X Y Z:World}(h:Kp B X Y)(k:Kp B Y Z):Kp B X Z :=
 ⟨le_trans h.size k.size,fun i o hi ho=>k.cel i o (h.cel i o hi ho) ho,fun i o hb hi ho=>k.oth i o hb (h.oth i o hb hi ho) ho⟩
theorem Kp.mono{B C:Nat}{X Y:World}(h:Kp B X Y)(hb:B<=C):Kp C X Y:=⟨h.size,h.cel,fun i o hi=>h.oth i o (le_trans hb hi)⟩
theorem Kp.grown{B:Nat}{X Y:World}{row:Option Nat}(hg:X.grownBy Y row)(hr:∀ k,row=some k->∃ o:Obj,X.heap[k]? = some o/\o.isCells=true/\stays o=false):Kp B X Y:=by
 refine⟨hg.size,fun k o hk ho=>(hg.block k (Array.getElem?_eq_some_iff.1 hk).1 (fun e=>?_)).trans hk,fun k o _ hk ho=>(hg.block k (Array.getElem?_eq_some_iff.1 hk).1 (fun e=>?_)).trans hk⟩
 ·obtain⟨o',h1,h2,h3⟩:=hr k e.symm;rw[hk]at h1;cases h1;rw[ho]at h3;cases h3
 ·obtain⟨o',h1,h2,h3⟩:=hr k e.symm;rw[hk]at h1;cases h1;rw[ho]at h2;cases h2
theorem Kp.below{B:Nat}{X Y:World}(h:Below X.heap.size X Y):Kp B X Y :=
 ⟨h.size,fun k o hk _=>(h.block k (Array.getElem?_eq_some_iff.1 hk).1).trans hk,fun k o _ hk _=>(h.block k (Array.getElem?_eq_some_iff.1 hk).1).trans hk⟩
theorem Kp.boxed{B b:Nat}{X Y:World}{t:TypeId}{v:Value}(h:Kp B X Y)(hb:Boxed X b t v)(ht:t≠279/\t≠242/\t≠3):Boxed Y b t v :=
 h.cel b _ hb (by simpa[stays]using ht)
def jA(g:Nat)(lb:Array Value)(xs:List Int)(w:World):Prop :=
 ∀(l:Nat) (J:List Int->World->Prop) (W:World),Below w.heap.size w W->OwnFrom W.heap.size J ->
  (∀ pre x W1,J pre W1->pre++[x] <+: xs->∀ m,YieldAt Fence.wide m prog l #[.int .i32 x] W1 fun e W'=>e=.returned (.bool true)/\J (pre++[x]) W'/\Kp W.heap.size W1 W') ->
  J [] W->∀ n,CallsIn Fence.wide n prog g (#[.func (.yield l) #[] #[]]++lb) W fun e W'=>(∃ v,e=.returned v)/\J xs W'
def Qb(B:Nat)(I:List Int->World->Prop)(xs:List Int)(W:World):Exit->Act->World->Prop
 | .normal,_,W'=>Kp B W W'/\I xs W'
 | _,_,_=>False
theorem OwnFrom.mono{β:Type}{B C:Nat}{I:β->World->Prop}(h:OwnFrom B I)(hb:B<=C):OwnFrom C I :=
 fun s X Y row hs hg hr=>h s X Y row hs hg (fun r e=>⟨le_trans hb (hr r e).1,(hr r e).2⟩)
theorem dI{β:Type}{B k:Nat}{o:Obj}(hk:k<B):OwnFrom B (fun(_:β) W=>W.heap[k]? = some o) :=
 fun s X Y row hs hg hr=>(hg.block k (Array.getElem?_eq_some_iff.1 hs).1 (fun e=>by have:=(hr k e.symm).1;omega)).trans hs
theorem iy{g:Operand}{ps:Array Tmp}{assign body:Code}{Q:Exit->Act->World->Prop}{a:Act}{w:World}{n gf:Nat}{lb:Array Value}{xs:List Int}
  (hg:a.eval g=.func (.func gf) #[] lb) (eg:∀ args w,(callFunc gf args).run prog w=.ok (.enter gf args) w) (hseq:jA gf lb xs w) (hps:ps.size=1)
  (I:List Int->World->Prop) (hI:OwnFrom w.heap.size I) (h0:I [] w) (a₁:Int->Act)
  (hassign:∀(l:Nat) (x:Int) (W:World) (m:Nat) (K:Act->World->Prop),K (a₁ x) W ->
    assign.wpIn (Fence.wide.inRound l) m prog (Exit.then K (fun _ _ _=>False)) { tmps:=(ps.zip #[Value.int .i32 x]).foldl (fun t (p,v)=>t.setIfInBounds p v) a.tmps,defers:=[] } W)
  (hbody:∀(l:Nat) (pre:List Int) (x:Int) (W:World) (m:Nat),I pre W->pre++[x] <+: xs->body.wpIn (Fence.wide.inRound l) m prog (Qb w.heap.size I (pre++[x]) W) (a₁ x) W)
  (hdone:∀(D:Nat) (W:World),w.heap.size<=D->I xs W->W.heap[D]? = some (.deferred (some []))->Q .normal { a with defers:={ target:=.collected D,args:=#[] }::a.defers } W) :
  (Code.rangeFunc g ps assign body).wpIn Fence.wide n prog Q a w:=by
 refine wpIn_rangeFunc fun fn hfn=>?_;obtain⟨B,hB⟩:∃ B,B=w.heap.size:=⟨_,rfl⟩;obtain⟨rdy,hrdy⟩:∃ r:Loop,r={ state:=.ready,pending:=none,fn:=fn,tmps:=a.tmps,params:=ps,assign:=assign,body:=body,defers:=B }:=⟨_,rfl⟩;obtain⟨V,hV⟩:∃ V,V=(w.alloc (.deferred (some []))).alloc (.loop rdy):=⟨_,rfl⟩;have hVs:V.heap.size=B+2:=by rw[hV,hB];simp
 have hVl:V.heap[B+1]? = some (.loop rdy):=by rw[hV,hB];have:=World.alloc_heap_new (w.alloc (.deferred (some []))) (.loop rdy);rwa [size_alloc]at this
 have hVd:V.heap[B]? = some (.deferred (some [])):=by rw[hV,hB];exact(Below.heap_alloc _ _ _ (by simp)).trans (World.alloc_heap_new w _)
 have hVb:Below w.heap.size w V:=by rw[hV];exact((Below.refl _ w).alloc (le_refl _) _).alloc (by simp) _
 refine⟨B+1,[{ target:=.collected B,args:=#[] }],V,{ target:=.fn (.func gf) lb,args:=#[.func (.yield (B+1)) #[] #[]] },V,gf,#[.func (.yield (B+1)) #[] #[]]++lb,V,?_,?_,fun _ _=>trivial,?_,(fun h=>by cases h),?_⟩
 ·rw[hV,hrdy,hB];exact run_enterLoop_outer _ _ _ _ _
 ·simp only[resolve,hg];simp[go_sem]
 ·simp[invoke,go_sem,eg]
 have hIb:OwnFrom B I:=by rw[hB];exact hI
 refine(hseq (B+1) (fun pre W=>I pre W/\W.heap[B+1]? = some (.loop rdy)/\W.heap[B]? = some (.deferred (some []))) V hVb ?_ ?_ ⟨?_,hVl,hVd⟩ (n - 1)).mono ?_
 ·refine OwnFrom.and (OwnFrom.mono hI (by omega)) (OwnFrom.and (dI (by omega)) (dI (by omega)))
 ·rintro pre x W ⟨hi,hl,hd⟩ hp m;have hlt:B+1<W.heap.size:=(Array.getElem?_eq_some_iff.1 hl).1;have hy:=run_yield (P:=prog) (args:=#[Value.int .i32 x]) hl (by rw[hrdy];exact hps.symm);rw[hrdy]at hy;refine⟨fn,_,assign,body,hy,roundIn_of_wpIn hfn (hassign _ x W m _ ⟨_,run_beginRound hl (by rw[hrdy]),?_⟩)⟩;obtain⟨V1,hV1⟩:∃ V1,V1=W.putObj (B+1) (.loop { rdy with state:=.busy }):=⟨_,rfl⟩;rw[<-hV1];have l1:V1.heap[B+1]? = some (.loop { rdy with state:=.busy }):=by rw[hV1];exact World.putObj_heap_same hlt
  have d1:V1.heap[B]? = some (.deferred (some [])):=by rw[hV1];exact(putObj_heap_other (by omega)).trans hd
  have i1:I pre V1:=by rw[hV1];exact hIb.putObj _ hi (by omega) hl rfl
  have k1:Kp (B+2) W V1:=by
   rw[hV1];refine⟨by simp,fun k o hk ho=>?_,fun k o hb hk ho=>(putObj_heap_other (by omega)).trans hk⟩;by_cases e:k=B+1
   ·subst e;rw[hl]at hk;cases hk;cases ho
   ·exact(putObj_heap_other e).trans hk
  refine wpIn_mono (hbody (B+1) pre x V1 m i1 hp) ?_;rintro ex a3 W3 hq;cases ex with
  | normal =>
   obtain⟨k3,i3⟩:=hq;rw[<-hB]at k3;have l3:=k3.oth _ _ (by omega) l1 rfl;have d3:=k3.oth _ _ (le_refl _) d1 rfl;refine⟨_,_,run_endRound (P:=prog) none l3,rfl,⟨hIb.putObj _ i3 (by omega) l3 rfl,?_,(putObj_heap_other (by omega)).trans d3⟩,?_⟩
   ·rw[World.putObj_heap_same (Array.getElem?_eq_some_iff.1 l3).1,hrdy];rfl
   ·rw[hVs];refine k1.trans ((k3.mono (by omega)).trans ?_);refine⟨by simp,fun k o hk ho=>?_,fun k o hb hk ho=>(putObj_heap_other (by omega)).trans hk⟩;by_cases e:k=B+1
    ·subst e;rw[l3]at hk;cases hk;cases ho
    ·exact(putObj_heap_other e).trans hk
  | ret=>exact hq.elim
  | exit _=>exact hq.elim
  | goto _=>exact hq.elim
  | panic _=>exact hq.elim
  | outgrown=>exact hq.elim
 ·rw[hV];exact OwnFrom.alloc hI _ (OwnFrom.alloc hI _ h0)
 ·rintro e W2 ⟨⟨v,rfl⟩,hi,hl,hd⟩;refine⟨none,_,by have:=run_endLoop (P:=prog) hl (by rw[hrdy];simp);rw[hrdy]at this;exact this,?_⟩;rw[<-hrdy];exact hdone B _ (by omega) (hIb.putObj _ hi (by omega) hl rfl) ((putObj_heap_other (by omega)).trans hd)
attribute [local go_sem] Oper.semAt_some
def bR(W:World)(v:Value)(zs:List Int):Prop :=
 ∃ a cap,v=.slice a zs.length cap/\(0<zs.length->∃ b off cur,a=some ⟨b,off,none⟩/\W.heap[b]? = some (.cells cur 21 (0,0))/\∀ j,j<zs.length->cur[off+j]? = some (.int .i32 (zs[j]?.getD 0)))
theorem bR.of_ints{W:World}{v:Value}{zs:List Int}(h:D.aB W v zs):bR W v zs:=by obtain⟨a,cap,e,_,f⟩:=h;refine⟨a,cap,e,fun hp=>?_⟩;obtain⟨b,e2,g⟩:=f hp;refine⟨b,0,_,e2,g,fun j hj=>?_⟩;simp[getElem?_eq_getElem hj]
theorem bR.of_own{W:World}{base n:Nat}{v:Value}{zs:List Int}(hn:n=zs.length)(h:W.ownsRow base 21 1 v n (zs.map (Value.int .i32))):bR W v zs:=by
 subst hn;rcases h.2 with⟨rfl,h0⟩ | ⟨g,cap,cur,rfl,_,hg,_,_,_,ht⟩
 ·exact⟨none,0,by rw[h0],fun hp=>by omega⟩
 ·refine⟨_,cap,rfl,fun hp=>⟨g,0,cur,rfl,hg,fun j hj=>?_⟩⟩;have h1:(cur.toList.take (zs.length * 1))[j]? = some (.int .i32 (zs[j]?.getD 0)):=by rw[ht,List.getElem?_map,getElem?_eq_getElem hj];rfl
  rw[getElem?_take_of_lt (by omega)]at h1;simpa using h1
theorem bR.kp{B:Nat}{W W':World}{v:Value}{zs:List Int}(h:bR W v zs)(hk:Kp B W W'):bR W' v zs:=by obtain⟨a,cap,e,f⟩:=h;refine⟨a,cap,e,fun hp=>?_⟩;obtain⟨b,off,cur,e2,g,hc⟩:=f hp;exact⟨b,off,cur,e2,hk.cel b _ g rfl,hc⟩
theorem bR.cell{W:World}{a:Option Addr}{n cap:Nat}{zs:List Int}(h:bR W (.slice a n cap) zs)(hn:n=zs.length)(hp:0<zs.length):∃ b off,a=some ⟨b,off,none⟩/\b<W.heap.size/\∀ j,j<zs.length->W.cell? ⟨b,off+j,none⟩=some (.int .i32 (zs[j]?.getD 0)):=by obtain⟨a',cap',e,f⟩:=h;cases e;obtain⟨b,off,cur,e2,g,hc⟩:=f hp;exact⟨b,off,e2,(Array.getElem?_eq_some_iff.1 g).1,fun j hj=>by simp[World.cell?,g,hc j hj]⟩
theorem iJ{W W':World}(h:Below W.heap.size W W'):W.grownBy W' none:=⟨h.os,h.tape,h.output,h.size,fun k hk _=>h.block k hk⟩
theorem OwnFrom.below{β:Type}{B:Nat}{J:β->World->Prop}(hJ:OwnFrom B J){s:β}{W W':World}(h:J s W)(hb:Below W.heap.size W W'):J s W' :=
 hJ s W W' none h (iJ hb) (fun r e=>by cases e)
def mk(D:Nat):Deferred:={ target:=.collected D,args:=#[] }
def Marks(B:Nat)(Ds:List Nat)(W:World):Prop:=∀ D∈Ds,B<=D/\W.heap[D]? = some (.deferred (some []))
theorem Marks.kp{B:Nat}{Ds:List Nat}{W W':World}(h:Marks B Ds W)(hk:Kp B W W'):Marks B Ds W':=fun D hD=>⟨(h D hD).1,hk.oth D _ (h D hD).1 (h D hD).2 rfl⟩
theorem Marks.ownFrom{β:Type}{B C:Nat}{Ds:List Nat}(h:∀ D∈Ds,D<C):OwnFrom C (fun(_:β) W=>Marks B Ds W) :=
 fun s X Y row hs hg hr D hD=>⟨(hs D hD).1,(hg.block D (Array.getElem?_eq_some_iff.1 (hs D hD).2).1 (fun e=>by have:=(hr D e.symm).1;have:=h D hD;omega)).trans (hs D hD).2⟩
theorem gN{n:Nat}{fn:Func}{tmps:Array Value}{R:Ending->World->Prop}{J:List Int->World->Prop}{xs:List Int}{B:Nat}{v:Value}(hJ:OwnFrom B J)(hres:∀ W,(results fn tmps).run prog W=.ok v W)
  (hR:∀ W',J xs W'->R (.returned v) W'):∀(Ds:List Nat) (W:World),Ds.Nodup->Marks B Ds W->J xs W->LeavesInM Fence.wide n prog fn tmps R (Ds.map mk) .returning W
 | [],W,_,_,hj=>⟨_,hres W,hR W hj⟩
 | D::Ds,W,hn,hm,hj=>by have hD:=hm D (by simp);refine⟨by simp,.inl ⟨D,_,rfl,run_takeDeferred hD.2,?_⟩⟩;refine gN hJ hres hR Ds _ (List.nodup_cons.1 hn).2 (fun E hE=>⟨(hm E (by simp[hE])).1,?_⟩) (hJ.putObj _ hj hD.1 hD.2 rfl);exact(putObj_heap_other (fun e=>(List.nodup_cons.1 hn).1 (by rw[<-e];exact hE))).trans (hm E (by simp[hE])).2
theorem xq(n:Nat)(r:Int)(w:World):
  CallsIn Fence.wide n prog 265 #[.int .i32 r] w fun e w'=>e=.returned (.func (.func 295) #[] #[.pointer (some ⟨w.heap.size,0,none⟩)])/\w'=w.alloc (.cells #[.int .i32 r] 21):=by
 refine callsIn_of_wp func265 rfl trivial ?_ rfl;simp only[ntmps265,size_toArray,length_cons,length_nil,Nat.reduceAdd,Nat.reduceSub,replicate_succ,replicate_zero,push_toArray,append_toArray,nil_append,cons_append];gi_wp2;go_ret;exact⟨rfl,rfl⟩
theorem MZ(r:Int):(D.dcp r).length<=2:=by
 unfold D.dcp;split
 ·simp
 ·split <;> simp
theorem ly(k:Nat)(h:k<1000000):wrap64 ((k:Int)+1)=((k+1:Nat):Int):=by unfold wrap64;omega
theorem qo(r:Int)(hp:∀ p∈D.dcp r,∀(w:World) (Br:Nat),Boxed w Br 21 (.int .i32 p)->jA 295 #[.pointer (some ⟨Br,0,none⟩)] (fd p) w)
  (w:World) (Br:Nat) (hbr:Boxed w Br 21 (.int .i32 r)):jA 295 #[.pointer (some ⟨Br,0,none⟩)] (fd r) w:=by
 intro l J W hW hJ hY h0 n;have hbW:Boxed W Br 21 (.int .i32 r):=(hW.block Br hbr.lt).trans hbr;have hdec:=D.yQ r;have hfn:=@lY r;have hfc:=@ML r;have hLl:=MZ r;generalize D.dcp r=L at hp hdec hfn hfc hLl;have HDEC:=hid hdec;have HP:=hid hp;have hc1:=(hbW.alloc (.cells #[.func (.yield l) #[] #[]] 51)).cell;have hby:=Boxed.new W 51 (.func (.yield l) #[] #[]);obtain⟨B,hB⟩:∃ B,B=W.heap.size:=⟨_,rfl⟩;rw[<-hB]at hby;have HB:=hid hB;have HJ:Hid (OwnFrom B J):=by rw[hB];exact hJ
 clear hdec hp hJ;refine callsIn_of_wp_marks func295 rfl trivial ?_ rfl;simp only[ntmps295,size_toArray,length_cons,length_nil,Nat.reduceAdd,Nat.reduceSub,replicate_succ,replicate_zero,push_toArray,append_toArray,nil_append,cons_append];gi_wp2_with fail;refine⟨trivial,(fun h=>by cases h),?_⟩;refine(callsIn_wide.2 (HDEC.out _)).mono ?_;rintro e W2 ⟨⟨v,rfl,hI⟩,hB2⟩;have aq:=bR.of_ints hI;have hbb:Below W.heap.size W W2:=((Below.refl _ W).alloc (le_refl _) _).trans (hB2.mono (by simp));have hy2:Boxed W2 B 51 (.func (.yield l) #[] #[]):=(hB2.block B (by rw[hB];simp)).trans hby;have hr2:Boxed W2 Br 21 (.int .i32 r):=(hbb.block Br hbW.lt).trans hbW;have hj2:J [] W2:=OwnFrom.below HJ.out h0 hbb;have hs2:B<W2.heap.size:=hy2.lt;obtain⟨a,cap,rfl,hrf⟩:=aq;rw[<-hB];clear hI hbb hc1 hby hB hbW hB2;by_cases hL:L=[]
 ·subst hL;have cy:=hy2.cell;have cr:=hr2.cell;have hfd:fd r=[r]:=hfn rfl;obtain⟨fn,tmps,assign,body,hy,hR⟩:=hY [] r W2 hj2 (by rw[hfd];simp) (n - 1);gi_wp2;refine⟨(fun h=>by cases h),hR.mono ?_⟩;rintro e W3 ⟨rfl,hj3,hk3⟩;gi_wp2;exact⟨_,results_none rfl _ _ _,⟨_,rfl⟩,by rw[hfd];exact hj3⟩
 ·have hLp:0<L.length:=by cases L with
   | nil=>exact absurd rfl hL
   | cons a l=>simp
  have hLb:((L.length:Int)==0)=false:=by simp;omega
  obtain⟨b,off,cur,rfl,hbk,hcur⟩:=hrf hLp;have HC:=hid hcur;have hfd:Hid (fd r=L.flatMap fd):=hfc hL;clear hcur hrf hfn hfc HDEC hL;gi_wp2_with fail
  refine wpIn_loop (fun act wr=>∃(k:Nat) (Ds:List Nat) (u4 u5 u6 u12 u13 u14 u18 u19 u20 u21 u22 u23 u24 u25 u26 u27 u28:Value),k<=L.length/\Boxed wr B 51 (.func (.yield l) #[] #[])/\wr.heap[b]? = some (.cells cur 21 (0,0))/\J ((L.take k).flatMap fd) wr/\Marks B Ds wr/\Ds.Nodup /\
      act={ tmps:=#[.func (.yield l) #[] #[],.pointer (some ⟨Br,0,none⟩),.pointer (some ⟨B,0,none⟩),.slice (some ⟨b,off,none⟩) L.length cap,u4,u5,u6,.int .i32 r,.slice (some ⟨b,off,none⟩) L.length cap,.slice (some ⟨b,off,none⟩) L.length cap,.int .i64 L.length,.bool false,u12,u13,u14,.slice (some ⟨b,off,none⟩) L.length cap,.int .i64 L.length,.int .i64 k,u18,u19,u20,u21,u22,u23,u24,u25,u26,u27,u28],defers:=Ds.map mk })
   (fun act _=>L.length - (intOf (act.tmps.getD 17 undef)).toNat) ?_ ?_
  ·exact⟨0,[],_,_,_,_,_,_,_,_,_,_,_,_,_,_,_,_,_,zero_le _,hy2,hbk,by simpa using hj2,(fun D hD=>by cases hD),List.nodup_nil,rfl⟩
  ·rintro act wr ⟨k,Ds,u4,u5,u6,u12,u13,u14,u18,u19,u20,u21,u22,u23,u24,u25,u26,u27,u28,hk,hyr,hbr',hjr,hmr,hnd,rfl⟩;by_cases hlt:k<L.length
   ·have hltz:(k:Int)<(L.length:Int):=by omega
    have hck:wr.cell? ⟨b,off+k,none⟩=some (.int .i32 (L[k]?.getD 0)):=by simp[World.cell?,hbr',HC.out k hlt]
    have hpk:L[k]?.getD 0∈L:=by rw[getElem?_eq_getElem hlt];exact List.getElem_mem hlt
    have htk:Hid ((L.take (k+1)).flatMap fd=(L.take k).flatMap fd++fd (L[k]?.getD 0)):=by show _=_;rw[take_succ_eq_append_getElem hlt,flatMap_append,getElem?_eq_getElem hlt];simp
    have hpre:Hid ((L.take (k+1)).flatMap fd <+: fd r):=by
     show _ <+: _;rw[hfd.out]
     conv=>rhs;rw[<-take_append_drop (k+1) L,flatMap_append]
     exact List.prefix_append _ _
    have HPK:=hid (HP.out _ hpk);generalize L[k]?.getD 0=p at hck htk HPK;clear hpk HP;gi_wp2_with fail;refine⟨trivial,(fun h=>by cases h),?_⟩;refine(xq _ p _).mono ?_;rintro e W3 ⟨rfl,hW3⟩;gi_wp2_with fail;clear hW3;obtain⟨V,hV⟩:∃ V,V=wr.alloc (.cells #[.int .i32 p] 21):=⟨_,rfl⟩;have hVb:Below wr.heap.size wr V:=by rw[hV];exact(Below.refl _ wr).alloc (le_refl _) _
    have hVp:Boxed V wr.heap.size 21 (.int .i32 p):=by rw[hV];exact Boxed.new wr 21 _
    have hVy:Boxed V B 51 (.func (.yield l) #[] #[]):=(hVb.block B hyr.lt).trans hyr;have hVc:V.heap[b]? = some (.cells cur 21 (0,0)):=(hVb.block b (Array.getElem?_eq_some_iff.1 hbr').1).trans hbr';have hVj:J ((L.take k).flatMap fd) V:=OwnFrom.below HJ.out hjr hVb;have hVm:Marks B Ds V:=fun D hD=>⟨(hmr D hD).1,(hVb.block D (Array.getElem?_eq_some_iff.1 (hmr D hD).2).1).trans (hmr D hD).2⟩;have hBV:B<=V.heap.size:=Nat.le_of_lt hVy.lt;have hDV:∀ D∈Ds,D<V.heap.size:=fun D hD=>(Array.getElem?_eq_some_iff.1 (hVm D hD).2).1;have hbV:b<V.heap.size:=(Array.getElem?_eq_some_iff.1 hVc).1;rw[<-hV];clear hyr hbr' hjr hmr hVb hV hck
    refine iy (gf:=295) (lb:=#[.pointer (some ⟨wr.heap.size,0,none⟩)]) (xs:=fd p) rfl (enters_of func295 (by kernel_rfl) rfl) (HPK.out V wr.heap.size hVp) rfl
     (fun pre W'=>J ((L.take k).flatMap fd++pre) W'/\Boxed W' B 51 (.func (.yield l) #[] #[])/\W'.heap[b]? = some (.cells cur 21 (0,0))/\Marks B Ds W')
     (OwnFrom.and (fun s X Y row hs hg hr=>OwnFrom.mono HJ.out hBV _ X Y row hs hg hr) (OwnFrom.and (Own.from (boxed_own _ _ _) _) (OwnFrom.and (dI hbV) (Marks.ownFrom hDV))))
     ⟨by simpa using hVj,hVy,hVc,hVm⟩
     (fun x=>{ tmps:=#[.func (.yield l) #[] #[],.pointer (some ⟨Br,0,none⟩),.pointer (some ⟨B,0,none⟩),.slice (some ⟨b,off,none⟩) L.length cap,u4,.int .i32 p,.int .i32 x,.int .i32 r,.slice (some ⟨b,off,none⟩) L.length cap,.slice (some ⟨b,off,none⟩) L.length cap,.int .i64 L.length,.bool false,u12,u13,u14,.slice (some ⟨b,off,none⟩) L.length cap,.int .i64 L.length,.int .i64 k,.bool true,.pointer (some ⟨b,off+k,none⟩),.int .i32 p,.int .i32 p,.func (.func 295) #[] #[.pointer (some ⟨wr.heap.size,0,none⟩)],.int .i32 x,u24,u25,u26,u27,u28],defers:=[] }) ?assign ?body ?done
    case assign =>
     intro l' x W' m K hK;gi_wp2;exact hK
    case body =>
     rintro l' pre x W' m ⟨hj,hyb,hcb,hmb⟩ hpx;have cy:=hyb.cell;have hq:(L.take k).flatMap fd++pre++[x] <+: fd r:=by refine List.IsPrefix.trans ?_ hpre.out;rw[htk.out,append_assoc];exact(List.prefix_append_right_inj _).2 hpx
     obtain⟨fn,tmps,assign,body,hy,hR⟩:=hY _ x W' hj hq (m - 1);gi_wp2;refine⟨(fun h=>by cases h),hR.mono ?_⟩;rintro e W4 ⟨rfl,hj4,hk4⟩;rw[<-HB.out]at hk4;gi_wp2;exact⟨hk4.mono hBV,by rw[<-append_assoc];exact hj4,hk4.boxed hyb (by decide),hk4.cel b _ hcb rfl,hmb.kp hk4⟩
    case done =>
     rintro D W' hD ⟨hj,hyb,hcb,hmb⟩ hdf;have hws:=ly k (by omega);gi_wp2;refine⟨⟨k+1,D::Ds,_,_,_,_,_,_,_,_,_,_,_,_,_,_,_,_,_,by omega,hyb,hcb,by rw[htk.out];exact hj,?_,?_,rfl⟩,?_⟩
     ·intro E hE;rcases List.mem_cons.1 hE with rfl | hE
      ·exact⟨by omega,hdf⟩
      ·exact hmb E hE
     ·exact List.nodup_cons.2 ⟨fun h=>by have:=hDV D h;omega,hnd⟩
     ·simp[intOf];omega
   ·have hltz:¬ (k:Int)<(L.length:Int):=by omega
    have hkk:Hid ((L.take k).flatMap fd=fd r):=by show _=_;rw[take_of_length_le (by omega),hfd.out]
    gi_wp2;refine gN HJ.out (fun W=>results_none rfl _ _ _) (fun W' hj=>⟨⟨_,rfl⟩,hj⟩) Ds wr hnd hmr ?_;rw[<-hkk.out];exact hjr
theorem mF:∀(k:Nat) (r:Int),xH k r=true->∀(w:World) (Br:Nat),Boxed w Br 21 (.int .i32 r)->jA 295 #[.pointer (some ⟨Br,0,none⟩)] (fd r) w
 | 0,r,ht,w,Br,hb=>qo r (fun p hp=>by
     have:D.dcp r=[]:=by simpa[xH]using ht
     rw[this]at hp;cases hp) w Br hb
 | k+1,r,ht,w,Br,hb=>qo r (fun p hp=>mF k p (List.all_eq_true.1 ht p hp)) w Br hb
attribute [local go_sem] Oper.semAt_some
theorem xr(n:Nat)(v:Value)(w:World)(hv:∃ a m c,v=.slice a m c):
  CallsIn Fence.wide n prog 237 #[v] w fun e w'=>e=.returned (.func (.func 264) #[] #[.pointer (some ⟨w.heap.size,0,none⟩)])/\w'=w.alloc (.cells #[v] 37):=by
 obtain⟨a,m,c,rfl⟩:=hv;refine callsIn_of_wp func237 rfl trivial ?_ rfl;simp only[ntmps237,size_toArray,length_cons,length_nil,Nat.reduceAdd,Nat.reduceSub,replicate_succ,replicate_zero,push_toArray,append_toArray,nil_append,cons_append];gi_wp2;go_ret;exact⟨rfl,rfl⟩
theorem DH(w:World)(Bl:Nat)(v:Value)(L:List Int)(hlen:L.length<=100000)(hbl:Boxed w Bl 37 v)(hrow0:bR w v L):jA 264 #[.pointer (some ⟨Bl,0,none⟩)] (L.flatMap fd) w:=by
 intro l J W hW hJ hY h0 n;have hbW:Boxed W Bl 37 v:=(hW.block Bl hbl.lt).trans hbl;have aq:bR W v L:=hrow0.kp (Kp.below (B:=0) hW);obtain⟨a,cap,rfl,hrf⟩:=aq;have hc1:=(hbW.alloc (.cells #[.func (.yield l) #[] #[]] 51)).cell;have hby:=Boxed.new W 51 (.func (.yield l) #[] #[]);obtain⟨B,hB⟩:∃ B,B=W.heap.size:=⟨_,rfl⟩;rw[<-hB]at hby;have HB:=hid hB;have HJ:Hid (OwnFrom B J):=by rw[hB];exact hJ
 have hj2:J [] (W.alloc (.cells #[.func (.yield l) #[] #[]] 51)):=OwnFrom.alloc hJ _ h0;have hrf2:0<L.length->∃ b off cur,a=some ⟨b,off,none⟩/\(W.alloc (.cells #[.func (.yield l) #[] #[]] 51)).heap[b]? = some (.cells cur 21 (0,0))/\∀ j,j<L.length->cur[off+j]? = some (.int .i32 (L[j]?.getD 0)):=fun hp=>by obtain⟨b,off,cur,e2,g,hc⟩:=hrf hp;exact⟨b,off,cur,e2,(Below.heap_alloc W _ b (Array.getElem?_eq_some_iff.1 g).1).trans g,hc⟩
 clear hJ hrf;refine callsIn_of_wp_marks func264 rfl trivial ?_ rfl;simp only[ntmps264,size_toArray,length_cons,length_nil,Nat.reduceAdd,Nat.reduceSub,replicate_succ,replicate_zero,push_toArray,append_toArray,nil_append,cons_append];gi_wp2_with fail;rw[<-hB];clear hB
 refine wpIn_loop (fun act wr=>∃(k:Nat) (Ds:List Nat) (u3 u4 u5 u9 u10 u11 u12 u13 u14 u15 u16 u17 u18 u19:Value),k<=L.length/\Boxed wr B 51 (.func (.yield l) #[] #[])/\(0<L.length->∃ b off cur,a=some ⟨b,off,none⟩/\wr.heap[b]? = some (.cells cur 21 (0,0))/\∀ j,j<L.length->cur[off+j]? = some (.int .i32 (L[j]?.getD 0)))/\J ((L.take k).flatMap fd) wr/\Marks B Ds wr/\Ds.Nodup /\
     act={ tmps:=#[.func (.yield l) #[] #[],.pointer (some ⟨Bl,0,none⟩),.pointer (some ⟨B,0,none⟩),u3,u4,u5,.slice a L.length cap,.int .i64 L.length,.int .i64 k,u9,u10,u11,u12,u13,u14,u15,u16,u17,u18,u19],defers:=Ds.map mk })
  (fun act _=>L.length - (intOf (act.tmps.getD 8 undef)).toNat) ?_ ?_
 ·exact⟨0,[],_,_,_,_,_,_,_,_,_,_,_,_,_,_,zero_le _,hby,hrf2,by simpa using hj2,(fun D hD=>by cases hD),List.nodup_nil,rfl⟩
 ·rintro act wr ⟨k,Ds,u3,u4,u5,u9,u10,u11,u12,u13,u14,u15,u16,u17,u18,u19,hk,hyr,hfr,hjr,hmr,hnd,rfl⟩;by_cases hlt:k<L.length
  ·have hltz:(k:Int)<(L.length:Int):=by omega
   obtain⟨b,off,cur,rfl,hbr',hcur⟩:=hfr (by omega);have hck:wr.cell? ⟨b,off+k,none⟩=some (.int .i32 (L[k]?.getD 0)):=by simp[World.cell?,hbr',hcur k hlt]
   have HC:=hid hcur;have htk:Hid ((L.take (k+1)).flatMap fd=(L.take k).flatMap fd++fd (L[k]?.getD 0)):=by show _=_;rw[take_succ_eq_append_getElem hlt,flatMap_append,getElem?_eq_getElem hlt];simp
   have hpre:Hid ((L.take (k+1)).flatMap fd <+: L.flatMap fd):=by
    show _ <+: _
    conv=>rhs;rw[<-take_append_drop (k+1) L,flatMap_append]
    exact List.prefix_append _ _
   generalize L[k]?.getD 0=p at hck htk;clear hcur hfr hrf2;gi_wp2_with fail;refine⟨trivial,(fun h=>by cases h),?_⟩;refine(xq _ p _).mono ?_;rintro e W3 ⟨rfl,hW3⟩;gi_wp2_with fail;clear hW3;obtain⟨V,hV⟩:∃ V,V=wr.alloc (.cells #[.int .i32 p] 21):=⟨_,rfl⟩;have hVb:Below wr.heap.size wr V:=by rw[hV];exact(Below.refl _ wr).alloc (le_refl _) _
   have hVp:Boxed V wr.heap.size 21 (.int .i32 p):=by rw[hV];exact Boxed.new wr 21 _
   have hVy:Boxed V B 51 (.func (.yield l) #[] #[]):=(hVb.block B hyr.lt).trans hyr;have hVc:V.heap[b]? = some (.cells cur 21 (0,0)):=(hVb.block b (Array.getElem?_eq_some_iff.1 hbr').1).trans hbr';have hVj:J ((L.take k).flatMap fd) V:=OwnFrom.below HJ.out hjr hVb;have hVm:Marks B Ds V:=fun D hD=>⟨(hmr D hD).1,(hVb.block D (Array.getElem?_eq_some_iff.1 (hmr D hD).2).1).trans (hmr D hD).2⟩;have hBV:B<=V.heap.size:=Nat.le_of_lt hVy.lt;have hDV:∀ D∈Ds,D<V.heap.size:=fun D hD=>(Array.getElem?_eq_some_iff.1 (hVm D hD).2).1;have hbV:b<V.heap.size:=(Array.getElem?_eq_some_iff.1 hVc).1;rw[<-hV];clear hyr hbr' hjr hmr hVb hV hck hby hj2 hc1 hbW
   refine iy (gf:=295) (lb:=#[.pointer (some ⟨wr.heap.size,0,none⟩)]) (xs:=fd p) rfl (enters_of func295 (by kernel_rfl) rfl) (mF 4 p (QV p) V wr.heap.size hVp) rfl
    (fun pre W'=>J ((L.take k).flatMap fd++pre) W'/\Boxed W' B 51 (.func (.yield l) #[] #[])/\W'.heap[b]? = some (.cells cur 21 (0,0))/\Marks B Ds W')
    (OwnFrom.and (fun s X Y row hs hg hr=>OwnFrom.mono HJ.out hBV _ X Y row hs hg hr) (OwnFrom.and (Own.from (boxed_own _ _ _) _) (OwnFrom.and (dI hbV) (Marks.ownFrom hDV))))
    ⟨by simpa using hVj,hVy,hVc,hVm⟩
    (fun x=>{ tmps:=#[.func (.yield l) #[] #[],.pointer (some ⟨Bl,0,none⟩),.pointer (some ⟨B,0,none⟩),u3,.int .i32 p,.int .i32 x,.slice (some ⟨b,off,none⟩) L.length cap,.int .i64 L.length,.int .i64 k,.bool true,.pointer (some ⟨b,off+k,none⟩),.int .i32 p,.int .i32 p,.func (.func 295) #[] #[.pointer (some ⟨wr.heap.size,0,none⟩)],.int .i32 x,u15,u16,u17,u18,u19],defers:=[] }) ?assign ?body ?done
   case assign =>
    intro l' x W' m K hK;gi_wp2;exact hK
   case body =>
    rintro l' pre x W' m ⟨hj,hyb,hcb,hmb⟩ hpx;have cy:=hyb.cell;have hq:(L.take k).flatMap fd++pre++[x] <+: L.flatMap fd:=by refine List.IsPrefix.trans ?_ hpre.out;rw[htk.out,append_assoc];exact(List.prefix_append_right_inj _).2 hpx
    obtain⟨fn,tmps,assign,body,hy,hR⟩:=hY _ x W' hj hq (m - 1);gi_wp2;refine⟨(fun h=>by cases h),hR.mono ?_⟩;rintro e W4 ⟨rfl,hj4,hk4⟩;rw[<-HB.out]at hk4;gi_wp2;exact⟨hk4.mono hBV,by rw[<-append_assoc];exact hj4,hk4.boxed hyb (by decide),hk4.cel b _ hcb rfl,hmb.kp hk4⟩
   case done =>
    rintro D W' hD ⟨hj,hyb,hcb,hmb⟩ hdf;have hws:=ly k (by omega);gi_wp2;refine⟨⟨k+1,D::Ds,_,_,_,_,_,_,_,_,_,_,_,_,_,_,by omega,hyb,(fun _=>⟨b,off,cur,rfl,hcb,HC.out⟩),by rw[htk.out];exact hj,?_,?_,rfl⟩,?_⟩
    ·intro E hE;rcases List.mem_cons.1 hE with rfl | hE
     ·exact⟨by omega,hdf⟩
     ·exact hmb E hE
    ·exact List.nodup_cons.2 ⟨fun h=>by have:=hDV D h;omega,hnd⟩
    ·simp[intOf];omega
  ·have hltz:¬ (k:Int)<(L.length:Int):=by omega
   have hkk:Hid ((L.take k).flatMap fd=L.flatMap fd):=by show _=_;rw[take_of_length_le (by omega)]
   gi_wp2;refine gN HJ.out (fun W=>results_none rfl _ _ _) (fun W' hj=>⟨⟨_,rfl⟩,hj⟩) Ds wr hnd hmr ?_;rw[<-hkk.out];exact hjr
attribute [local go_sem] Oper.semAt_some
theorem jA.later{g:Nat}{lb:Array Value}{xs:List Int}{w V:World}(h:jA g lb xs w)(hb:Below w.heap.size w V):jA g lb xs V :=
 fun l J W hW hJ hY h0 n=>h l J W (hb.trans (hW.mono hb.size)) hJ hY h0 n
theorem Tryz.info279:(prog.info? 279).map (fun i=>(i.zero,i.size,i.bytes))=some (some (.agg #[.int .i32 0,.int .u8 0]),2,8):=by kernel_rfl
theorem ax{base B:Nat}{e:TypeId}{size:Nat}{v:Value}{n:Nat}{xs:List Value}{w w':World}(h:w.ownsRow base e size v n xs)(hb:Below B w w')(hB:w.heap.size<=B):w'.ownsRow base e size v n xs:=by
 rcases h with⟨h1,⟨rfl,h2⟩ | ⟨g,cap,cur,rfl,hbg,hg,h3⟩⟩
 ·exact⟨h1,.inl ⟨rfl,h2⟩⟩
 ·have hlt:g<w.heap.size:=(Array.getElem?_eq_some_iff.1 hg).1;exact⟨h1,.inr ⟨g,cap,cur,rfl,hbg,(hb.block g (by omega)).trans hg,h3⟩⟩
def NK(n0 B1 B2:Nat)(pre:List Int)(W:World):Prop :=
 ∃ v,Boxed W B1 242 v/\Boxed W B2 3 (.int .i64 ((st (pre.map pt)).1.length:Nat))/\W.ownsRow n0 279 2 v pre.length (aZ ((st (pre.map pt)).1++(st (pre.map pt)).2))
theorem NK.own(n0 B1 B2:Nat):Own (NK n0 B1 B2):=by
 rintro s X Y row ⟨v,h1,h2,h3⟩ hg hr;refine⟨v,boxed_own B1 242 (fun _=>v) s X Y row h1 hg hr,boxed_own B2 3 (fun _=>.int .i64 ((st (s.map pt)).1.length:Nat)) s X Y row h2 hg hr,h3.kept hg ?_⟩;rcases h3.2 with⟨rfl,_⟩ | ⟨g,cap,cur,rfl,_,hgb,_⟩
 ·exact .inl rfl
 ·refine .inr fun e'=>?_;obtain⟨o,ho,hc⟩:=hr g (by simpa[Value.ownBlock]using e'.symm);rw[hgb]at ho;cases ho;cases hc
theorem Tryz.sizeOf279'(W:World):(sizeOf (prog.elem 242)).run prog W=.ok 2 W:=by kernel_rfl
theorem cZ{base n k:Nat}{v:Value}{O S:List Pt}{W:World}(aq:W.ownsRow base 279 2 v n (aZ (O++S)))(hk:O.length=k)(hn:n<=100000):
  ∃ v',(∀ W2,(Instr.slice 242 v (some (.int .i64 (k:Nat))) none none).run prog W2=.ok v' W2) /\
   Calls prog 263 #[v'] W fun r W'=>r=.returned (.tuple #[])/\W'.ownsRow base 279 2 v n (aZ (O++cV S))/\W.grownBy W' v.ownBlock:=by
 have hl:k+S.length=n:=by have:=aq.1;rw[cK,length_append]at this;omega
 rcases id aq.2 with⟨rfl,h0⟩ | ⟨g,cap,cur,rfl,hb,hg,hnc,_⟩
 ·have hS:S=[]:=List.length_eq_zero_iff.1 (by omega);have hk0:k=0:=by omega
  subst hS hk0;refine⟨.slice none 0 0,fun W2=>?_,(oR none 0 W).mono ?_⟩
  ·rw[run_slice_l W2 242 none 0 0 (by kernel_rfl) .i64 ((0:Nat):Int) (by omega) (by omega),Tryz.sizeOf279' W2];rfl
  ·rintro r W' ⟨rfl,rfl⟩;exact⟨rfl,aq,⟨rfl,rfl,rfl,le_refl _,fun _ _ _=>rfl⟩⟩
 ·by_cases hS:S=[]
  ·subst hS;refine⟨.slice (if cap=k then some ⟨g,0,none⟩ else some ((⟨g,0,none⟩:Addr).add (k * 2))) 0 (cap - k),fun W2=>?_,(oR _ _ W).mono ?_⟩
   ·rw[run_slice_l W2 242 (some ⟨g,0,none⟩) n cap (by kernel_rfl) .i64 (k:Int) (by omega) (by simp at hl;omega),Tryz.sizeOf279' W2];simp only[Result.andThen,sliced,Int.toNat_natCast];have:n - k=0:=by simp at hl;omega
    rw[this];split <;> rfl
   ·rintro r W' ⟨rfl,rfl⟩;exact⟨rfl,aq,⟨rfl,rfl,rfl,le_refl _,fun _ _ _=>rfl⟩⟩
  ·have hSl:0<S.length:=List.length_pos_iff.2 hS;refine⟨.slice (some ⟨g,k * 2,none⟩) (n - k) (cap - k),fun W2=>?_,?_⟩
   ·rw[run_slice_l W2 242 (some ⟨g,0,none⟩) n cap (by kernel_rfl) .i64 (k:Int) (by omega) (by omega),Tryz.sizeOf279' W2];simp only[Result.andThen,sliced,Int.toNat_natCast];rw[if_neg (by omega)];simp[Addr.add];omega
   ·have hp:Pts W g (k * 2) S:=by rw[<-hk];exact fm aq
    refine(lR g (k * 2) (cap - k) (n - k) S W (by omega) (by omega) hp).mono ?_;rintro r W' ⟨rfl,h1,h2⟩;have e:n - k=S.length:=by omega
    rw[e,<-hk]at h2;rw[<-hk]at h1;exact⟨rfl,uV aq h2 h1 (cJ S).len,h2.g⟩
theorem Ak{base n:Nat}{v:Value}{X:List Value}{W:World}(aq:W.ownsRow base 279 2 v n X)(W2:World):(Builtin.len_ #[242] 3 #[v]).run prog W2=.ok (.int .i64 n) W2:=by
 rcases aq.2 with⟨rfl,h0⟩ | ⟨g,cap,cur,rfl,_⟩
 ·subst h0;kernel_rfl
 ·rw[run_len_slice W2 242 3 _ _ _ (by kernel_rfl)];rfl
theorem gK{base n:Nat}{v:Value}{X:List Value}{W:World}(aq:W.ownsRow base 279 2 v n X):∀ k,v.ownBlock=some k->∃ o:Obj,W.heap[k]? = some o/\o.isCells=true/\stays o=false:=by
 rcases aq.2 with⟨rfl,h0⟩ | ⟨g,cap,cur,rfl,_,hg,_⟩
 ·intro k hk;simp[Value.ownBlock]at hk
 ·intro k hk;obtain rfl:g=k:=by simpa[Value.ownBlock]using hk
  exact⟨_,hg,rfl,rfl⟩
theorem rQ{W:World}{b:Nat}{t:TypeId}{v:Value}(h:Boxed W b t v)(ht:t=242\/t=3):∀ k,some b=some k->∃ o:Obj,W.heap[k]? = some o/\o.isCells=true/\stays o=false:=by intro k hk;cases hk;refine⟨_,h,rfl,?_⟩;rcases ht with rfl | rfl <;> rfl
theorem dO{base n:Nat}{v:Value}{X:List Value}{W:World}(aq:W.ownsRow base 279 2 v n X)(k:Nat)(h:v.ownBlock=some k):base<=k/\k<W.heap.size:=aq.lt k h
theorem GR(W:World)(x y:Value)(b:Nat)(hb:b=W.heap.size):∀ j z,([x,y]:List Value)[j]? = some z->(W.alloc (.cells #[x,y] 279)).cell? ((⟨b,0,none⟩:Addr).add j)=some z:=by
 intro j z hj;subst hb;have hg:(W.alloc (.cells #[x,y] 279)).heap[W.heap.size]? = some (.cells #[x,y] 279 (0,0)):=heap_alloc_last W _;rcases j with _ | _ | j
 ·simp at hj;subst hj;show World.cell? _ ⟨W.heap.size,0,none⟩=_;unfold World.cell?;rw[hg];rfl
 ·simp at hj;subst hj;show World.cell? _ ⟨W.heap.size,1,none⟩=_;unfold World.cell?;rw[hg];rfl
 ·simp at hj
theorem nW{C B n:Nat}{w W Wx w5:World}{o:Obj}{v v5 rv:Value}{X Y:List Value}(hv:Boxed Wx B 242 v)(hr:Boxed Wx (B+1) 3 rv)(aq:Wx.ownsRow B 279 2 v n X)(hgrow:(Wx.alloc o).grownBy w5 v.ownBlock)
  (hown:w5.ownsRow B 279 2 v5 (n+1) Y) (hk:Kp C W Wx) (hB:Below B w Wx) (hw:B<=w.heap.size) :
  Kp C W (w5.setCell ⟨B,0,none⟩ v5)/\(Boxed (w5.setCell ⟨B,0,none⟩ v5) B 242 v5/\Boxed (w5.setCell ⟨B,0,none⟩ v5) (B+1) 3 rv/\(w5.setCell ⟨B,0,none⟩ v5).ownsRow B 279 2 v5 (n+1) Y)/\Below B w (w5.setCell ⟨B,0,none⟩ v5):=by
 have hrowa:=aq.alloc o;have hv5:Boxed w5 B 242 v:=(hv.alloc o).kept hgrow ((hv.alloc o).not_row (by decide) hrowa);have hr5:Boxed w5 (B+1) 3 rv:=(hr.alloc o).kept hgrow ((hr.alloc o).not_row (by decide) hrowa);have hg6:=grownBy_setCell' w5 B v5;refine⟨?_,⟨hv5.set v5,hr5.other (by omega) v5,hown.kept hg6 (.inr (fun e=>hv5.not_row (by decide) hown e.symm))⟩,?_⟩
 ·exact hk.trans ((Kp.below ((Below.refl _ Wx).alloc (le_refl _) o)).trans ((Kp.grown hgrow (gK hrowa)).trans (Kp.grown hg6 (rQ hv5 (.inl rfl)))))
 ·have hBa:Below B w (Wx.alloc o):=hB.alloc (by have:=hB.size;omega) o;have hBg:Below B w w5:=hBa.grown hgrow (by have:=hBa.size;omega) (fun k e=>(dO hrowa k e).1);exact hBg.grown hg6 (by have:=hBg.size;omega) (fun k e=>by cases e;exact le_refl _)
theorem gT(l:List Pt)(x c:Int):aZ (l++[(x,c)])=aZ l++[.int .i32 x,.int .u8 c]:=by simp[aZ,c2]
theorem ve(gf:Nat)(lb:Array Value)(xs:List Int)(w:World)(hlen:xs.length<=100000)(eg:∀ args w,(callFunc gf args).run prog w=.ok (.enter gf args) w)(hseq:jA gf lb xs w):
  Calls prog 236 #[.func (.func gf) #[] lb] w fun e W'=>∃ v,e=.returned v/\W'.ownsRow w.heap.size 279 2 v xs.length (aZ (ord (xs.map pt)))/\Below w.heap.size w W':=by
 refine(callsIn_wide (n:=3)).1 ?_;obtain⟨i0,hi,hz0,hz1,hz2⟩:=info_parts Tryz.info279;obtain⟨B,hB⟩:∃ B,B=w.heap.size:=⟨_,rfl⟩;obtain⟨V,hV⟩:∃ V,V=(w.alloc (.cells #[.slice none 0 0] 242)).alloc (.cells #[.int .i64 0] 3):=⟨_,rfl⟩;have b1:Boxed V B 242 (.slice none 0 0):=by rw[hV,hB];exact(Boxed.new w 242 _).alloc _
 have b2:Boxed V (B+1) 3 (.int .i64 0):=by rw[hV,hB];have:=Boxed.new (w.alloc (.cells #[.slice none 0 0] 242)) 3 (.int .i64 0);rwa [size_alloc]at this
 have hVb:Below B w V:=by rw[hV,hB];exact((Below.refl _ w).alloc (le_refl _) _).alloc (by simp) _
 have hVs:V.heap.size=B+2:=by rw[hV,hB];simp
 have hf:jA gf lb xs V:=hseq.later (by rw[<-hB];exact hVb);refine callsIn_of_wp_marks func236 rfl trivial ?_ rfl;simp only[ntmps236,size_toArray,length_cons,length_nil,Nat.reduceAdd,Nat.reduceSub,replicate_succ,replicate_zero,push_toArray,append_toArray,nil_append,cons_append];gi_wp2_with fail;rw[<-hV,<-hB];clear hV;have HB:=hid hB;clear hB
 refine iy (gf:=gf) (lb:=lb) (xs:=xs) rfl eg hf rfl (fun pre W=>NK B B (B+1) pre W/\Below B w W)
  (OwnFrom.and (Own.from (NK.own B B (B+1)) _) (ownFrom_below (le_of_eq HB.out) (by omega)))
  ⟨⟨_,b1,b2,World.ownsRow_nil _ _ _ _⟩,hVb⟩
  (fun x=>{ tmps:=#[.func (.func gf) #[] lb,undef,.slice none 0 0,.pointer (some ⟨B,0,none⟩),.pointer (some ⟨B+1,0,none⟩),.int .i32 x,undef,.func (.func gf) #[] lb,.int .i32 x,undef,undef,undef,undef,undef,undef,undef,undef,undef,undef,undef,undef,undef,undef,undef,undef,undef,undef,undef,undef,undef,undef,undef],defers:=[] }) ?assign ?body ?done
 case assign =>
  intro l' x W' m K hK;gi_wp2;exact hK
 case body =>
  rintro l' pre x W m ⟨⟨v,hv,hrw,aq⟩,hB⟩ hpx;have hpl:pre.length+1<=xs.length:=by have:=hpx.length_le;simpa using this
  gi_wp2_with fail;refine⟨trivial,(fun h=>by cases h),?_⟩;refine(CallsIn.inRound l' (callsIn_wide.2 (D.rP x _))).mono ?_;rintro e W1 ⟨rfl,hB1⟩;have HPX:=hid hpx;clear hpx;have hst:st ((pre++[x]).map pt)=stp (st (pre.map pt)) (x,cl x):=by rw[map_append,List.map_cons,List.map_nil,si];rfl
  have hlO:(st (pre.map pt)).1.length+(st (pre.map pt)).2.length=pre.length:=by rw[EN,length_map]
  have hx2:(pt x).2=cl x:=rfl;generalize hcl:(D.fnd x).2.2.2.2.2.1=c;replace hcl:cl x=c:=hcl;rw[hcl]at hst;obtain⟨O,hO⟩:∃ O,O=(st (pre.map pt)).1:=⟨_,rfl⟩;obtain⟨S,hS⟩:∃ S,S=(st (pre.map pt)).2:=⟨_,rfl⟩;have est:st (pre.map pt)=(O,S):=by rw[hO,hS]
  rw[est]at hst;rw[<-hO]at hrw hlO;rw[<-hS]at hlO;rw[<-hO,<-hS]at aq;have HST:=hid hst;have HEST:=hid est;have HlO:=hid hlO;clear hst est hO hS hlO hcl hx2;obtain⟨W2,hW2⟩:∃ W2,W2=W1.alloc (.cells #[.int .i32 x,.int .u8 c] 279):=⟨_,rfl⟩;have hb2:Below W.heap.size W W2:=by rw[hW2];exact hB1.alloc hB1.size _
  have hv2:Boxed W2 B 242 v:=(hb2.block B hv.lt).trans hv;have hr2:Boxed W2 (B+1) 3 (.int .i64 (O.length:Nat)):=(hb2.block _ hrw.lt).trans hrw;have hrow2:W2.ownsRow B 279 2 v pre.length (aZ (O++S)):=ax aq hb2 (le_refl _);have hp2:W2.heap[W1.heap.size]? = some (.cells #[.int .i32 x,.int .u8 c] 279 (0,0)):=by rw[hW2];exact heap_alloc_last W1 _
  have hgl:∀ k,v.ownBlock=some k->k<W1.heap.size:=fun k hk=>Nat.lt_of_lt_of_le (dO aq k hk).2 hB1.size;have hBw2:Below B w W2:=hB.trans (hb2.mono (by have:=hB.size;have:=HB.out;omega));have hk2:Kp V.heap.size W W2:=Kp.below hb2;have hs1:B+1<W1.heap.size:=Nat.lt_of_lt_of_le hrw.lt hB1.size;have hws:W2.heap.size=W1.heap.size+1:=by rw[hW2];simp
  have HB1:=hid hB1;clear hB1 aq hrw hv hB hb2;by_cases hc0:c=0
  ·subst hc0;obtain⟨v',hsl,hcall⟩:=cZ hrow2 rfl (by omega);have hln:=Ak hrow2;have HC:=hid hcall;have cv:=hv2.cell;have crw:=hr2.cell;rw[hW2]at cv crw;clear hcall;gi_wp2_with fail;rw[<-hW2];refine⟨trivial,(fun h=>by cases h),?_⟩;refine(CallsIn.inRound l' (callsIn_wide.2 HC.out)).mono ?_;rintro e W3 ⟨rfl,hrow3,hg3⟩;have hbad:=gK hrow2;have hv3:Boxed W3 B 242 v:=hv2.kept hg3 (hv2.not_row (by decide) hrow2);have hr3:Boxed W3 (B+1) 3 (.int .i64 (O.length:Nat)):=hr2.kept hg3 (hr2.not_row (by decide) hrow2);have hp3:W3.heap[W1.heap.size]? = some (.cells #[.int .i32 x,.int .u8 0] 279 (0,0)):=(hg3.block _ (by omega) (fun e=>by have:=hgl _ e.symm;omega)).trans hp2;have hB3:Below B w W3:=hBw2.grown hg3 (by have:=hBw2.size;have:=HB.out;omega) (fun k e=>(dO hrow2 k e).1);have hk3:Kp V.heap.size W W3:=hk2.trans (Kp.grown hg3 hbad);have hgl3:=hgl;have hs3:W1.heap.size+1<=W3.heap.size:=by have:=hg3.size;omega
   have cv3:=hv3.cell;have fr3:=hr3.frozen;have crw3:=hr3.cell;have hbl3:Hid (∀ k,v.ownBlock=some k->B<=k/\k<W1.heap.size):=fun k hk=>⟨(dO hrow2 k hk).1,hgl k hk⟩;clear hv2 hr2 hp2 hrow2 hBw2 hk2 hgl cv crw hsl HC hbad hg3 hws hW2;obtain⟨W4,hW4⟩:∃ W4,W4=W3.setCell ⟨B+1,0,none⟩ (.int .i64 ((pre.length:Int)+1)):=⟨_,rfl⟩;have hv4:Boxed W4 B 242 v:=by rw[hW4];exact hv3.other (by omega) _
   have hr4:Boxed W4 (B+1) 3 (.int .i64 ((pre.length:Int)+1)):=by rw[hW4];exact hr3.set _
   have hg4:W3.grownBy W4 (some (B+1)):=by rw[hW4];exact grownBy_setCell' W3 (B+1) _
   have hp4:W4.heap[W1.heap.size]? = some (.cells #[.int .i32 x,.int .u8 0] 279 (0,0)):=(hg4.block _ (by omega) (fun e=>by have:=Option.some.inj e;omega)).trans hp3;have hrow4:W4.ownsRow B 279 2 v pre.length (aZ (O++cV S)):=hrow3.kept hg4 (.inr (fun e=>hr3.not_row (by decide) hrow3 e.symm));have hB4:Below B w W4:=hB3.grown hg4 (by have:=hB3.size;have:=HB.out;omega) (fun k e=>by cases e;omega);have hk4:Kp V.heap.size W W4:=hk3.trans (Kp.grown hg4 (rQ hr3 (.inr rfl)));have hs4:W1.heap.size+1<=W4.heap.size:=by have:=hg4.size;omega
   have hwr:wrap64 ((pre.length:Int)+1)=((pre.length+1:Nat):Int):=ly _ (by omega);have cv4:=hv4.cell;have cp0:W4.cell? ⟨W1.heap.size,0,none⟩=some (.int .i32 x):=by simp[World.cell?,hp4]
   have cp1:W4.cell? ⟨W1.heap.size,1,none⟩=some (.int .u8 0):=by simp[World.cell?,hp4]
   rw[hW4]at cv4 cp0 cp1;have hrowA:=hrow4;have hvA:=hv4;rw[hW4]at hrowA hvA;have hB3s:B+2<=W3.heap.size:=by omega
   have hrow5:((W3.setCell ⟨B+1,0,none⟩ (.int .i64 ((pre.length:Int)+1))).alloc (.cells #[.int .i32 x,.int .u8 0] 279)).ownsRow B 279 2 v pre.length (aZ (O++cV S)):=hrowA.alloc _;have hnews:=GR (W3.setCell ⟨B+1,0,none⟩ (.int .i64 ((pre.length:Int)+1))) (.int .i32 x) (.int .u8 0) W3.heap.size (size_setCell' _ _ _).symm;gi_wp2_with (gi_at_builtin;refine wpListIn_append_own _ rfl _ _ 242 rfl B 279 i0 (.agg #[.int .i32 0,.int .u8 0]) 2 8 underlying242 hi hz0 hz1 hz2 rfl (by decide) _ _ _ rfl hrow5 _ 1 1 [.int .i32 x,.int .u8 0] rfl rfl hnews (by simp[Value.oneCell']) (by unfold maxLen;omega) (by omega) (by simp;omega) ?_;intro v2 w5 hown5 hgrow5 _;obtain⟨g5,cap5,rfl⟩:=ownsRow_succ hown5;have hv5:Boxed w5 B 242 v:=(hvA.alloc _).kept hgrow5 ((hvA.alloc _).not_row (by decide) hrow5);have cv5:=hv5.cell;have fv5:=hv5.frozen);rw[<-hW4]at hgrow5;obtain⟨k6,g6,b6⟩:=nW hv4 hr4 hrow4 hgrow5 hown5 hk4 hB4 (le_of_eq HB.out);refine⟨k6,⟨_,g6.1,?_,?_⟩,b6⟩
   ·rw[HST.out];have:(stp (O,S) (x,0)).1.length=pre.length+1:=by have:=HlO.out;have:=(cJ S).len;simp[stp];omega
    rw[this];exact g6.2.1
   ·rw[HST.out];have e1:(stp (O,S) (x,0)).1++(stp (O,S) (x,0)).2=(O++cV S)++[(x,0)]:=by simp[stp]
    rw[e1,gT];have e2:(pre++[x]).length=pre.length+1:=by simp
    rw[e2];exact g6.2.2
  ·have hcb:(c==0)=false:=by simpa using hc0
   have cv:=hv2.cell;have cp0:W2.cell? ⟨W1.heap.size,0,none⟩=some (.int .i32 x):=by simp[World.cell?,hp2]
   have cp1:W2.cell? ⟨W1.heap.size,1,none⟩=some (.int .u8 c):=by simp[World.cell?,hp2]
   have hrowA:=hrow2;have hvA:=hv2;rw[hW2]at hrowA hvA cv cp0 cp1;have hB3s:B+2<=W1.heap.size:=by omega
   have hrow5:((W1.alloc (.cells #[.int .i32 x,.int .u8 c] 279)).alloc (.cells #[.int .i32 x,.int .u8 c] 279)).ownsRow B 279 2 v pre.length (aZ (O++S)):=hrowA.alloc _;have hnews:=GR (W1.alloc (.cells #[.int .i32 x,.int .u8 c] 279)) (.int .i32 x) (.int .u8 c) (W1.heap.size+1) (by simp);gi_wp2_with (gi_at_builtin;refine wpListIn_append_own _ rfl _ _ 242 rfl B 279 i0 (.agg #[.int .i32 0,.int .u8 0]) 2 8 underlying242 hi hz0 hz1 hz2 rfl (by decide) _ _ _ rfl hrow5 _ 1 1 [.int .i32 x,.int .u8 c] rfl rfl hnews (by simp[Value.oneCell']) (by unfold maxLen;omega) (by omega) (by simp;omega) ?_;intro v2 w5 hown5 hgrow5 _;obtain⟨g5,cap5,rfl⟩:=ownsRow_succ hown5;have hv5:Boxed w5 B 242 v:=(hvA.alloc _).kept hgrow5 ((hvA.alloc _).not_row (by decide) hrow5);have cv5:=hv5.cell;have fv5:=hv5.frozen);rw[<-hW2]at hgrow5;obtain⟨k6,g6,b6⟩:=nW hv2 hr2 hrow2 hgrow5 hown5 hk2 hBw2 (le_of_eq HB.out);refine⟨k6,⟨_,g6.1,?_,?_⟩,b6⟩
   ·rw[HST.out];have:(stp (O,S) (x,c)).1.length=O.length:=by simp[stp,hc0]
    rw[this];exact g6.2.1
   ·rw[HST.out];have e1:(stp (O,S) (x,c)).1++(stp (O,S) (x,c)).2=(O++S)++[(x,c)]:=by simp[stp,hc0]
    rw[e1,gT];have e2:(pre++[x]).length=pre.length+1:=by simp
    rw[e2];exact g6.2.2
 case done =>
  rintro D W hD ⟨⟨v,hv,hrw,aq⟩,hB⟩ hdf;have hc1:=hv.cell;have hc2:=hrw.cell;have hrow':W.ownsRow B 279 2 v xs.length (aZ ((st (xs.map pt)).1++(st (xs.map pt)).2)):=aq;obtain⟨v',hsl,hcall⟩:=cZ hrow' rfl (by omega);have HC:=hid hcall;clear hcall aq;gi_wp2_with fail;refine⟨trivial,?_⟩;refine(callsIn_wide.2 HC.out).mono ?_;rintro e W3 ⟨rfl,hrow3,hg3⟩;have hv3:Boxed W3 B 242 v:=hv.kept hg3 (hv.not_row (by decide) hrow');have hdf3:W3.heap[D]? = some (.deferred (some [])):=by refine(hg3.block D (Array.getElem?_eq_some_iff.1 hdf).1 (fun e=>?_)).trans hdf;obtain⟨o,h1,h2,h3⟩:=gK hrow' D e.symm;rw[hdf]at h1;cases h1;cases h2
  have hB3:Below B w W3:=hB.grown hg3 (by have:=hB.size;have:=HB.out;omega) (fun k e=>(dO hrow' k e).1);have cv3:=hv3.cell;gi_wp2;refine⟨by simp,.inl ⟨_,_,rfl,run_takeDeferred hdf3,?_⟩⟩;refine⟨_,results_tmp rfl _ _ _,v,rfl,?_,?_⟩
  ·rw[<-HB.out];exact ownsRow_putObj hrow3 _ hdf3 rfl
  ·rw[<-HB.out];exact hB3.trans (belowK_b (w:=w) (le_of_eq HB.out) W3 D _ _ (by have:=HB.out;omega) hdf3 rfl rfl)
def DJ(W:World)(v:Value)(l:List Pt):Prop:=∃ a cap,v=.slice a l.length cap/\(0<l.length->∃ g,a=some ⟨g,0,none⟩/\Pts W g 0 l)
theorem DJ.of_own{W:World}{base n:Nat}{v:Value}{l:List Pt}(h:W.ownsRow base 279 2 v n (aZ l)):DJ W v l:=by
 have hl:l.length=n:=by have:=h.1;rw[cK]at this;omega
 rcases id h.2 with⟨rfl,h0⟩ | ⟨g,cap,cur,rfl,_⟩
 ·exact⟨none,0,by rw[hl,h0],fun hp=>by omega⟩
 ·refine⟨_,cap,by rw[hl],fun _=>⟨g,rfl,?_⟩⟩;have:=fm (O:=[]) (S:=l) (by simpa using h);simpa using this
theorem lW:(prog.info? 21).map (fun i=>(i.zero,i.size,i.bytes))=some (some (.int .i32 0),1,4):=by kernel_rfl
theorem ym(n:Nat):(madeCells #[Value.int .i32 0] n).toList=List.replicate n (.int .i32 0):=by unfold madeCells;simp[Nat.mod_one,List.map_const']
def part(l:List Pt)(k:Nat):List Int:=(l.take k).map (·.1)++List.replicate (l.length - k) 0
theorem Gi(l:List Pt)(k:Nat)(hk:k<l.length):(part l k).set k (l[k]?.getD z2).1=part l (k+1):=by
 unfold part;have h1:((l.take k).map (·.1)).length=k:=by rw[length_map,length_take];omega
 rw[show l.length - k=(l.length - (k+1))+1 by omega,List.replicate_succ,take_succ_eq_append_getElem hk,getElem?_eq_getElem hk];rw[List.set_append_right _ _ (by omega),h1,Nat.sub_self];simp only[List.set_cons_zero,map_append,List.map_cons,List.map_nil,append_assoc,cons_append,nil_append,Option.getD_some]
theorem Bd(v:Value)(l:List Pt)(w:World)(hlen:l.length<=100000)(hr:DJ w v l):
  Calls prog 234 #[v] w fun e W'=>∃ v',e=.returned v'/\W'.ownsRow w.heap.size 21 1 v' l.length ((l.map (·.1)).map (Value.int .i32))/\Below w.heap.size w W':=by
 obtain⟨a,cap,rfl,hf⟩:=hr;obtain⟨n,hn⟩:=Ex' l.length;have hmk:=fun W=>run_make_row' (P:=prog) 37 21 (.int .i32 0) 4 underlying37 lW rfl .i64 .i64 n (by omega) (by omega) W;have hz:∀ W,(zeroValue 279).run prog W=.ok (.agg #[.int .i32 0,.int .u8 0]) W:=(zero_of_info (P:=prog) (t:=279) (n:=2) (by kernel_rfl)).1;have h0:(w.alloc (.cells (madeCells #[.int .i32 0] n) 21)).ownsRow w.heap.size 21 1 (.slice (some ⟨w.heap.size,0,none⟩) n n) n ((part l 0).map (Value.int .i32)):=by refine⟨by simp[part,hn],.inr ⟨w.heap.size,n,_,rfl,le_refl _,heap_alloc_last w _,le_refl _,by unfold maxLen;omega,by rw[size_madeCells];omega,?_⟩⟩;rw[ym];simp[part,hn]
 have H0:=hid h0;have HF:=hid hf;rw[hn]at hlen ⊢;have HN:=hid hn;clear h0 hf hn;go_enter func234,ntmps234;go_wp2_with fail
 go_loopw [11] (fun i wr=>∃ k:Nat,k<=n/\i=.int .i64 k/\wr.ownsRow w.heap.size 21 1 (.slice (some ⟨w.heap.size,0,none⟩) n n) n ((part l k).map (Value.int .i32))/\Below w.heap.size w wr) (fun i _=>n - (intOf i).toNat)
 case atStart=>exact⟨0,zero_le _,rfl,H0.out,(Below.refl _ w).alloc (le_refl _) _⟩
 case round =>
  obtain⟨k,hk,rfl,aq,hB⟩:=hrel;by_cases hlt:k<n
  ·obtain⟨g,rfl,hp⟩:=HF.out (by have:=HN.out;omega);have hp':=hp.below hB hp.lt;have hkl:k<l.length:=by have:=HN.out;omega
   have e0:=hp'.c0 k hkl;have e1:=hp'.c1 k hkl;have HPS:=hid (Gi l k hkl);obtain⟨p,hpe⟩:=Ex' (l[k]?.getD z2);rw[hpe]at e0 e1 HPS;simp only[zero_add]at e0 e1;have hltz:(k:Int)<(n:Int):=by omega
   have hsz:w.heap.size<wr.heap.size:=(aq.lt _ rfl).2;have hra:=aq.alloc (.cells #[.int .i32 p.1,.int .u8 p.2] 279)
   have hck:(wr.alloc (.cells #[.int .i32 p.1,.int .u8 p.2] 279)).cell? ⟨w.heap.size,k,none⟩=some (.int .i32 ((part l k)[k]?.getD 0)):=by
    have h3:=hra.cellAt k (by omega);have h4:k<(part l k).length:=by unfold part;simp;omega
    rw[h3,List.getElem?_map,getElem?_eq_getElem h4];rfl
   have hfk:(wr.alloc (.cells #[.int .i32 p.1,.int .u8 p.2] 279)).frozen? ⟨w.heap.size,k,none⟩=false:=by
    rcases hra.2 with⟨h,_⟩ | ⟨g',cap',cur,h,_,hg,_⟩
    ·cases h
    ·cases h;simp[World.frozen?,hg]
   generalize (part l k)[k]?.getD 0=y at hck;clear hp hp' hpe;go_wp2;have hst:=aq.stored k (.int .i32 p.1);have hB1:=hB.setCell (p:=⟨w.heap.size,k,none⟩) (le_refl _) (.int .i32 p.1);have hB2:=hB1.alloc hB1.size (.cells #[.int .i32 p.1,.int .u8 p.2] 279)
   go_roundw
   case rel=>exact⟨k+1,by omega,by go_num,by have:=hst.1;rw[<-List.map_set,HPS.out]at this;exact this.alloc _,hB2⟩
   case measure=>simp[intOf];omega
  ·have hltz:¬ (k:Int)<(n:Int):=by omega
   have HE:Hid (part l k=l.map (·.1)):=by
    show _=_;unfold part;have h1:l.length - k=0:=by have:=HN.out;omega
    rw[h1,take_of_length_le (by omega)];simp
   go_wp2;go_ret;exact⟨_,rfl,by have h:=aq;rw[HE.out]at h;simpa using h,hB⟩
theorem CI(u v:Value)(a b:List Int)(w:World)(ha:a.length<=100000)(hu:bR w u a)(hv:bR w v b):
  Calls prog 297 #[u,v] w fun e W'=>e=.returned (.bool (decide (a=b)))/\Below w.heap.size w W':=by
 obtain⟨ua,uc,rfl,huf⟩:=hu;obtain⟨va,vc,rfl,hvf⟩:=hv;by_cases hl:a.length=b.length
 ·have HR:Hid (∀ k,k<=a.length->(∀ j,j<k->a[j]?.getD 0=b[j]?.getD 0)->k=a.length->a=b):=by intro k hk h e;apply List.ext_getElem hl;intro i h1 h2;have:=h i (by omega);rw[getElem?_eq_getElem h1,getElem?_eq_getElem h2]at this;exact this
  have HNE:Hid (∀ k,k<a.length->a[k]?.getD 0≠b[k]?.getD 0->a≠b):=fun k hk h e=>h (by rw[e]);obtain⟨n,hn⟩:=Ex' a.length;rw[hn]at ha huf HR HNE;rw[<-hl,hn]at hvf;rw[<-hl,hn];have HUF:=hid huf;have HVF:=hid hvf;obtain⟨R,hR⟩:∃ R:Prop,R=(a=b):=⟨_,rfl⟩
  have hdec:∀ t:Bool,(t=true↔a=b)->Ending.returned (.bool t)=.returned (.bool (decide (a=b))):=fun t h=>by
   congr 2;cases t with
   | true=>exact(decide_eq_true (h.1 rfl)).symm
   | false=>exact(decide_eq_false (fun e=>by have:=h.2 e;cases this)).symm
  have HD:=hid hdec;obtain⟨db,hdb⟩:∃ db,db=decide (a=b):=⟨_,rfl⟩;rw[<-hdb]at HD ⊢;clear huf hvf hl hn hR hdec hdb;go_enter func297,ntmps297;go_wp2_with fail
  go_loopw [13] (fun i wr=>∃ k:Nat,k<=n/\i=.int .i64 k/\Below w.heap.size w wr/\Hid (∀ j,j<k->a[j]?.getD 0=b[j]?.getD 0)) (fun i _=>n - (intOf i).toNat)
  case atStart=>exact⟨0,zero_le _,rfl,Below.refl _ _,(fun j hj=>by omega)⟩
  case round =>
   obtain⟨k,hk,rfl,hB,HS⟩:=hrel;by_cases hlt:k<n
   ·obtain⟨b1,o1,cur1,rfl,hg1,hc1⟩:=HUF.out (by omega);obtain⟨b2,o2,cur2,rfl,hg2,hc2⟩:=HVF.out (by omega);have d1:wr.cell? ⟨b1,o1+k,none⟩=some (.int .i32 (a[k]?.getD 0)):=by simp[World.cell?,(hB.block b1 (Array.getElem?_eq_some_iff.1 hg1).1).trans hg1,hc1 k hlt]
    have d2:wr.cell? ⟨b2,o2+k,none⟩=some (.int .i32 (b[k]?.getD 0)):=by simp[World.cell?,(hB.block b2 (Array.getElem?_eq_some_iff.1 hg2).1).trans hg2,hc2 k hlt]
    have hltz:(k:Int)<(n:Int):=by omega
    by_cases he:a[k]?.getD 0=b[k]?.getD 0
    ·have HS2:Hid (∀ j,j<k+1->a[j]?.getD 0=b[j]?.getD 0):=fun j hj=>by
      by_cases hjk:j=k
      ·subst hjk;exact he
      ·exact HS.out j (by omega)
     rw[<-he]at d2;generalize a[k]?.getD 0=y at d1 d2;clear hc1 hc2 he;go_wp2_with fail
     go_quiet (fail)
     go_wp2
     go_roundw
     case rel=>exact⟨k+1,by omega,by go_num,⟨hB.os,hB.tape,hB.output,hB.size,hB.block⟩,HS2⟩
     case measure=>simp[intOf];omega
    ·have HF:=hid (HNE.out k hlt he);generalize a[k]?.getD 0=y at d1 he;generalize b[k]?.getD 0=z at d2 he;have hb:(y != z)=true:=by simpa using he
     have hb2:(y==z)=false:=by simpa using he
     clear hc1 hc2 he;go_wp2_with fail
     go_quiet (fail)
     go_wp2;go_ret;exact⟨HD.out false ⟨fun h=>(by cases h),fun h=>absurd h HF.out⟩,⟨hB.os,hB.tape,hB.output,hB.size,hB.block⟩⟩
   ·have hltz:¬ (k:Int)<(n:Int):=by omega
    have HE:=hid (HR.out k hk HS.out (by omega));go_wp2;go_ret;exact⟨HD.out true ⟨fun _=>HE.out,fun _=>rfl⟩,hB⟩
 ·have hd:decide (a=b)=false:=decide_eq_false (fun e=>hl (by rw[e]));rw[hd];have hb:((a.length:Int) != (b.length:Int))=true:=by simp;omega
  have hb2:((a.length:Int)==(b.length:Int))=false:=by simp;omega
  clear huf hvf;go_enter func297,ntmps297;go_wp2;go_ret;exact⟨rfl,Below.refl _ _⟩
def rch(B:List Pt)(c:Pt):Bool:=match B.getLast? with
 | none=>true
 | some b=>decide (b.2<c.2)
theorem sC(a:Option Addr)(cap:Nat)(c:Pt)(w:World):Calls prog 260 #[.slice a 0 cap,.agg #[.int .i32 c.1,.int .u8 c.2]] w fun e W'=>e=.returned (.bool true)/\Below w.heap.size w W':=by
 go_enter func260,ntmps260;go_wp2_with fail
 go_quiet (fail)
 go_wp2;go_ret;exact⟨rfl,D.below_drewN ((Below.refl _ w).alloc (le_refl _) _) _⟩
theorem sB(g o n cap:Nat)(X:List Pt)(b c:Pt)(w:World)(hn:n=X.length)(hnl:n<=100000)(hp:Pts w g o (X++[b])):
  Calls prog 260 #[.slice (some ⟨g,o,none⟩) (n+1) cap,.agg #[.int .i32 c.1,.int .u8 c.2]] w fun e W'=>e=.returned (.bool (decide (b.2<c.2)))/\Below w.heap.size w W':=by
 have e1:=hp.c1 n (by simp;omega);rw[hn,et X b [] X.length rfl,<-hn]at e1;have hlt:=hp.lt;have e2:(w.alloc (.cells #[.int .i32 c.1,.int .u8 c.2] 279)).cell? ⟨g,o+n * 2+1,none⟩=some (.int .u8 b.2):=by rw[World.cell?_of_block (Below.heap_alloc w _ g hlt)];exact e1
 have h0:((n:Int)+1==0)=false:=by simp;omega
 have hnz:(n:Int)<(n:Int)+1:=by omega
 clear hp e1 hn;go_enter func260,ntmps260;go_wp2_with fail
 go_quiet (fail)
 go_wp2;go_ret;exact⟨rfl,D.below_drewN ((Below.refl _ w).alloc (le_refl _) _) _⟩
abbrev TS:=Option (List Pt×Pt)×List Pt
def bw:TS->List Pt
 | (none,B)=>B
 | (some (A,s),B)=>A++s::B
def ur:TS->Int
 | (none,_)=>-1
 | (some (A,_),_)=>(A.length:Nat)
def pr(a b:Int):Int×Bool:=D.prf D.prs a b
def bj(t:TS)(c:Pt):TS:=match t with
 | (none,B)=>if c.2=0 then (some (B,c),[]) else (none,B++[c])
 | (some (A,s),B)=>if rch B c=true/\(pr s.1 c.1).2=true then (some (A,((pr s.1 c.1).1,s.2)),B) else if c.2=0 then (some (A++s::B,c),[]) else (some (A,s),B++[c])
def tst(l:List Pt):TS:=l.foldl bj (none,[])
def comp(l:List Pt):List Pt:=bw (tst l)
theorem uk(l:List Pt)(c:Pt):tst (l++[c])=bj (tst l) c:=by simp[tst,foldl_append]
theorem Ei(l:List Pt)(k:Nat)(hk:k<l.length):tst (l.take (k+1))=bj (tst (l.take k)) (l[k]?.getD z2):=by rw[take_succ_eq_append_getElem hk,uk,getElem?_eq_getElem hk];rfl
theorem AP(t:TS)(c:Pt):(bw (bj t c)).length<=(bw t).length+1:=by
 obtain⟨_ | ⟨A,s⟩,B⟩:=t
 ·unfold bj;dsimp only;split <;> simp[bw]
 ·unfold bj;dsimp only;split
  ·simp[bw]
  ·split <;> simp[bw] <;> omega
theorem zA(l:List Pt):(bw (tst l)).length<=l.length:=by
 induction l using oc with
 | h0=>simp[tst,bw]
 | h1 l c ih=>rw[uk];have:=AP (tst l) c;simp;omega
theorem Cx(A:List Pt)(s:Pt)(B:List Pt)(y:Int):(aZ (A++s::B)).set (A.length * 2) (.int .i32 y)=aZ (A++(y,s.2)::B):=by
 have e:∀ p:Pt,aZ (A++p::B)=aZ A++([.int .i32 p.1,.int .u8 p.2]++aZ B):=fun p=>by simp[aZ,c2]
 rw[e,e,List.set_append_right _ _ (by rw[cK];omega),cK,Nat.sub_self];rfl
theorem sf{base m cap g:Nat}{A B:List Pt}{s:Pt}{W:World}(aq:W.ownsRow base 279 2 (.slice (some ⟨g,0,none⟩) m cap) m (aZ (A++s::B)))(hm:m<=100000)(c:Pt):
  ∃ v',(∀ W2,(Instr.slice 242 (.slice (some ⟨g,0,none⟩) m cap) (some (.int .i64 ((A.length:Int)+1))) none none).run prog W2=.ok v' W2) /\
   ∀ x:aI W,Calls prog 260 #[v',.agg #[.int .i32 c.1,.int .u8 c.2]] x.W fun e W'=>e=.returned (.bool (rch B c))/\Below x.W.heap.size x.W W':=by
 have hl:A.length+1+B.length=m:=by have:=aq.1;rw[cK]at this;simp at this;omega
 have hmc:m<=cap:=by
  rcases aq.2 with⟨h,_⟩ | ⟨g',cap',cur,h,_,_,hnc,_⟩
  ·cases h
  ·cases h;exact hnc
 have hp:Pts W g ((A.length+1) * 2) B:=by have:=fm (O:=A++[s]) (S:=B) (by simpa using aq);simpa using this
 refine⟨.slice (if cap=A.length+1 then some ⟨g,0,none⟩ else some ⟨g,(A.length+1) * 2,none⟩) B.length (cap - (A.length+1)),fun W2=>?_,fun x=>?_⟩
 ·rw[run_slice_l W2 242 (some ⟨g,0,none⟩) m cap (by kernel_rfl) .i64 ((A.length:Int)+1) (by omega) (by omega),Tryz.sizeOf279' W2];have e1:((A.length:Int)+1).toNat=A.length+1:=by omega
  have e2:m - (A.length+1)=B.length:=by omega
  simp only[Result.andThen,sliced,e1,e2];split <;> simp[Addr.add]
 ·cases hB:B.getLast? with
  | none =>
   have hB0:B=[]:=by simpa using hB
   subst hB0;refine(sC _ _ c x.W).mono ?_;rintro e W' ⟨rfl,h⟩;exact⟨rfl,h⟩
  | some b =>
   have hbb:B=B.dropLast++[b]:=by
    have hne:B≠[]:=fun h=>by rw[h]at hB;cases hB
    have:=List.dropLast_concat_getLast hne;rw[List.getLast?_eq_some_getLast hne]at hB;cases hB;exact this.symm
   have hlen:B.length=B.dropLast.length+1:=by have:=congrArg List.length hbb;simpa using this
   rw[if_neg (by omega),hlen];have hpx:Pts x.W g ((A.length+1) * 2) (B.dropLast++[b]):=by rw[<-hbb];exact hp.below x.h hp.lt
   refine(sB g _ _ _ B.dropLast b c x.W rfl (by omega) hpx).mono ?_;rintro e W' ⟨rfl,h⟩;exact⟨by unfold rch;rw[hB],h⟩
theorem uW{base m:Nat}{v:Value}{X:List Value}{W:World}(h:W.ownsRow base 279 2 v m X)(hm:0<m):∃ g cap,v=.slice (some ⟨g,0,none⟩) m cap:=by
 rcases h.2 with⟨rfl,h0⟩ | ⟨g,cap,cur,rfl,_⟩
 ·omega
 ·exact⟨g,cap,rfl⟩
def reach(t:TS)(c:Pt):Bool:=match t with
 | (none,_)=>false
 | (some _,B)=>rch B c
def app(t:TS)(c:Pt):TS:=if c.2=0 then (some (bw t,c),[]) else (t.1,t.2++[c])
theorem tS(t:TS)(c:Pt):bw (app t c)=bw t++[c]:=by obtain⟨_ | ⟨A,s⟩,B⟩:=t <;> unfold app <;> split <;> simp[bw]
theorem Dy(t:TS)(c:Pt)(h:c.2=0):ur (app t c)=((bw t).length:Nat):=by unfold app;rw[if_pos h];rfl
theorem Dx(t:TS)(c:Pt)(h:¬ c.2=0):ur (app t c)=ur t:=by obtain⟨_ | ⟨A,s⟩,B⟩:=t <;> unfold app <;> rw[if_neg h] <;> rfl
theorem nR{t:TS}{c:Pt}(h:reach t c=false):bj t c=app t c:=by
 obtain⟨_ | ⟨A,s⟩,B⟩:=t
 ·unfold bj app;rfl
 ·have hr:rch B c=false:=h;unfold bj app;dsimp only;rw[if_neg (by rw[hr];simp)];rfl
theorem xA{A:List Pt}{s:Pt}{B:List Pt}{c:Pt}(h:(pr s.1 c.1).2=false):bj (some (A,s),B) c=app (some (A,s),B) c:=by unfold bj app;dsimp only;rw[if_neg (by rw[h];simp)];rfl
theorem xz{A:List Pt}{s:Pt}{B:List Pt}{c:Pt}{q:Int}(h:reach (some (A,s),B) c=true)(hq:pr s.1 c.1=(q,true)):bj (some (A,s),B) c=(some (A,(q,s.2)),B):=by have hr:rch B c=true:=h;unfold bj;dsimp only;rw[if_pos ⟨hr,by rw[hq]⟩,hq]
theorem sd(v:Value)(l:List Pt)(w:World)(hlen:l.length<=50000)(hr:DJ w v l):
  Calls prog 235 #[v] w fun e W'=>∃ v',e=.returned v'/\W'.ownsRow w.heap.size 279 2 v' (comp l).length (aZ (comp l))/\Below w.heap.size w W':=by
 obtain⟨a,cap0,rfl,hf⟩:=hr;obtain⟨i0,hi,hz0,hz1,hz2⟩:=info_parts Tryz.info279;obtain⟨n,hn⟩:=Ex' l.length;have HF:=hid hf;rw[hn]at hlen ⊢;have HN:=hid hn;clear hf hn;go_enter func235,ntmps235;go_wp2_with fail
 go_loopw [3,4,11] (fun v3 v4 i wr=>∃(k:Nat) (t:TS),k<=n/\i=.int .i64 k/\v4=.int .i64 (ur t)/\wr.ownsRow w.heap.size 279 2 v3 (bw t).length (aZ (bw t))/\(bw t).length<=k/\Hid (t=tst (l.take k))/\Below w.heap.size w wr) (fun _ _ i _=>n - (intOf i).toNat)
 case atStart=>exact⟨0,(none,[]),zero_le _,rfl,rfl,World.ownsRow_nil _ _ _ _,le_refl _,rfl,Below.refl _ _⟩
 case round =>
  obtain⟨k,t,hk,rfl,rfl,aq,htl,HT,hB⟩:=hrel;by_cases hlt:k<n
  ·obtain⟨g0,rfl,hp⟩:=HF.out (by have:=HN.out;omega);have hp':=hp.below hB hp.lt;have hkl:k<l.length:=by have:=HN.out;omega
   have e0:=hp'.c0 k hkl;have e1:=hp'.c1 k hkl;have HT2:Hid (tst (l.take (k+1))=bj t (l[k]?.getD z2)):=by show _=_;rw[Ei l k hkl,HT.out]
   obtain⟨c,hce⟩:=Ex' (l[k]?.getD z2);rw[hce]at e0 e1 HT2;simp only[zero_add]at e0 e1;have hltz:(k:Int)<(n:Int):=by omega
   have hBs:=hB.size;obtain⟨wa,hwa⟩:∃ wa,wa=wr.alloc (.cells #[.int .i32 c.1,.int .u8 c.2] 279):=⟨_,rfl⟩;have hBa:Below w.heap.size w wa:=by rw[hwa];exact hB.alloc hB.size _
   have hPa:wa.heap[wr.heap.size]? = some (.cells #[.int .i32 c.1,.int .u8 c.2] 279 (0,0)):=by rw[hwa];exact heap_alloc_last wr _
   have hra:wa.ownsRow w.heap.size 279 2 u3 (bw t).length (aZ (bw t)):=by rw[hwa];exact aq.alloc _
   have hsa:wa.heap.size=wr.heap.size+1:=by rw[hwa];simp
   clear hp hp' hce aq hB;have HRA:=hid hra;have HPA:=hid hPa;have HBA:=hid hBa;have HWA:=hid hwa;have hPlt:wr.heap.size<wa.heap.size:=by omega
   clear hra hPa hBa;obtain⟨tl,htl4⟩:=Ex' (ur t);obtain⟨m,hm⟩:=Ex' ((bw t).length);rw[htl4];rw[hm]at htl;have HTL:=hid htl4;have HM:=hid hm;rw[hm]at HRA;clear htl4 hm;go_wp2_with fail;rw[<-hwa];clear hwa hsa e0 e1
   go_cut [11,24] from 11 to 51 (fun v11 v24 wc=>v11=.int .i64 k/\v24=.bool (reach t c)/\Hid (Below wa.heap.size wa wc))
   case first =>
    obtain⟨_ | ⟨A,s⟩,B⟩:=t
    ·obtain rfl:tl=-1:=HTL.out.symm;have hg1:¬ (0:Int)<=-1:=by omega
     go_region
     go_wp2
     go_meet
     case rel=>exact⟨rfl,rfl,(Below.refl _ wa).drew⟩
    ·obtain⟨la,hla⟩:=Ex' A.length;obtain rfl:tl=(la:Int):=by rw[<-hla];exact HTL.out.symm
     have hmA:la+1+B.length=m:=by have:=HM.out;simp[bw]at this;omega
     have hra:wa.ownsRow w.heap.size 279 2 u3 m (aZ (A++s::B)):=HRA.out;obtain⟨g,cap,rfl⟩:=uW hra (by omega);obtain⟨v',hsl,hreach⟩:=sf hra (by omega) c;rw[hla]at hsl;have hlam:la<=50000:=by omega
     have HMA:=hid hmA;have HRE:=hid hreach;have hre:reach (some (A,s),B) c=rch B c:=rfl;have HRR:=hid hre;have x0:∀ u:aI wa,u.W.cell? ⟨wr.heap.size,0,none⟩=some (.int .i32 c.1):=fun u=>by rw[u.h.cell (p:=⟨wr.heap.size,0,none⟩) hPlt];simp[World.cell?,HPA.out]
     have x1:∀ u:aI wa,u.W.cell? ⟨wr.heap.size,1,none⟩=some (.int .u8 c.2):=fun u=>by rw[u.h.cell (p:=⟨wr.heap.size,1,none⟩) hPlt];simp[World.cell?,HPA.out]
     have hne:Nonempty (aI wa):=⟨⟨wa,Below.refl _ _⟩⟩;have hg1:(0:Int)<=(la:Int):=by omega
     clear hreach hra hre hmA hla;generalize rch B c=rc at HRE HRR;refine az (by kernel_rfl) (by kernel_rfl) ?_;repeat (go_big_quiet_step ((go_at_call 260;exact aI.call _ (HRE.out _))))
     refine wpQuiet_nil ?_;rintro _ ⟨u,rfl⟩;have hu:=hid u.h;clear x0 x1 hne hsl HRE;generalize u.W=wu at hu ⊢;go_wp2
     go_meet
     case rel=>exact⟨rfl,by rw[HRR.out],hu⟩
   case rest =>
    obtain⟨rfl,rfl,hBc⟩:=hcut;obtain⟨rb,hrb⟩:=Ex' (reach t c);rw[hrb];have HRB:=hid hrb;clear hrb
    go_upto_if 24 with fail
    go_cut [11] from 11 to 51 (fun v11 wd=>v11=.int .i64 k/\Hid (Below wa.heap.size wa wd)/\Hid (bj t c=app t c))
    case first =>
     cases rb with
     | false =>
      go_wp2
      go_meet
      case rel=>exact⟨rfl,hBc,nR HRB.out⟩
     | true =>
      obtain⟨_ | ⟨A,s⟩,B⟩:=t
      ·exact absurd HRB.out (by simp[reach])
      ·obtain⟨la,hla⟩:=Ex' A.length;obtain rfl:tl=(la:Int):=by rw[<-hla];exact HTL.out.symm
       have hmA:la+1+B.length=m:=by have:=HM.out;simp[bw]at this;omega
       have hra:wa.ownsRow w.heap.size 279 2 u3 m (aZ (A++s::B)):=HRA.out;obtain⟨g,cap,rfl⟩:=uW hra (by omega);have hrc:=ax hra hBc.out (le_refl _);have hpA:Pts wc g 0 (A++s::B):=by have:=fm (O:=[]) (S:=A++s::B) (by simpa using hrc);simpa using this
       have s0:=hpA.c0 la (by simp;omega);rw[et _ _ _ _ hla]at s0;simp only[zero_add]at s0;have hglt:=hpA.lt;have hAm:(la:Int)<(m:Int):=by omega
       have HLA:=hid hla;have HMA:=hid hmA;have hlm:la<m:=by omega
       have hg1:(0:Int)<=(la:Int):=by omega
       have hwc:=hBc.out.size;have y0:∀ z:aI wc,z.W.cell? ⟨wr.heap.size,0,none⟩=some (.int .i32 c.1):=fun z=>by rw[z.h.cell (p:=⟨wr.heap.size,0,none⟩) (by show wr.heap.size<_;omega),hBc.out.cell (p:=⟨wr.heap.size,0,none⟩) hPlt];simp[World.cell?,HPA.out]
       have y1:∀ z:aI wc,z.W.cell? ⟨g,la * 2,none⟩=some (.int .i32 s.1):=fun z=>(z.h.cell (p:=⟨g,la * 2,none⟩) hglt).trans s0;have hne2:Nonempty (aI wc):=⟨⟨wc,Below.refl _ _⟩⟩;have hpair:=D.oE s.1 c.1;have hprr:D.prf D.prs s.1 c.1=pr s.1 c.1:=rfl;rw[hprr]at hpair;obtain⟨⟨q,is⟩,hq⟩:∃ q,pr s.1 c.1=q:=⟨_,rfl⟩;rw[hq]at hpair;dsimp only at hpair;have HQ:=hid hq;have HPAIR:=hid hpair;have HRC:=hid hrc;clear hpair hprr hq hra hpA s0 hrc hla hmA;go_wp2_with fail;refine az (by kernel_rfl) (by kernel_rfl) ?_;repeat (go_big_quiet_step ((go_at_call 261;exact aI.call _ (HPAIR.out _))))
       refine wpQuiet_nil ?_;rintro _ ⟨z,rfl⟩;have hz:=hid (hBc.out.trans (z.h.mono hwc));have sy:=y1 z;have HRZ:=hid (ax HRC.out z.h (le_refl _));clear y0 y1 hne2 HPAIR HRC;generalize z.W=wz at hz sy HRZ ⊢;cases is with
       | false =>
        go_wp2
        go_meet
        case rel=>exact⟨rfl,hz,xA (by rw[HQ.out])⟩
       | true =>
        have fy:wz.frozen? ⟨g,la * 2,none⟩=false:=by
         rcases HRZ.out.2 with⟨h,_⟩ | ⟨g',cap',cur,h,_,hg,_⟩
         ·cases h
         ·cases h;simp[World.frozen?,hg]
        have hst:=HRZ.out.stored (la * 2) (.int .i32 q);have hg2:w.heap.size<=g:=(HRZ.out.lt g rfl).1;have hB6:=hid ((HBA.out.trans (hz.out.mono HBA.out.size)).setCell (p:=⟨g,la * 2,none⟩) hg2 (.int .i32 q))
        have H6:Hid ((wz.setCell ⟨g,la * 2,none⟩ (.int .i32 q)).ownsRow w.heap.size 279 2 (.slice (some ⟨g,0,none⟩) m cap) (bw (some (A,(q,s.2)),B)).length (aZ (bw (some (A,(q,s.2)),B)))):=by
         have h1:=hst.1;rw[<-HLA.out,Cx]at h1;have e1:(bw (some (A,(q,s.2)),B)).length=m:=by have:=HLA.out;have:=HMA.out;simp[bw];omega
         show World.ownsRow _ _ _ _ _ _ _;rw[e1,<-HLA.out];exact h1
        have HLK:Hid ((bw (some (A,(q,s.2)),B)).length<=k+1):=by show _<=_;have:=HLA.out;have:=HMA.out;simp[bw];omega
        clear hst;go_wp2
        go_roundw
        case rel=>exact⟨k+1,(some (A,(q,s.2)),B),by omega,by go_num,by show _=Value.int .i64 ((A.length:Nat):Int);rw[HLA.out],H6.out,HLK.out,by show _=_;rw[HT2.out];exact(xz HRB.out HQ.out).symm,hB6.out⟩
        case measure=>simp[intOf] <;> omega
    case rest =>
     obtain⟨rfl,hz,HAPP⟩:=hcut;have hRy:=hid (ax HRA.out hz.out (le_refl _));have hPy:Hid (wc.heap[wr.heap.size]? = some (.cells #[.int .i32 c.1,.int .u8 c.2] 279 (0,0))):=(hz.out.block _ hPlt).trans HPA.out;have hBy:=hid (HBA.out.trans (hz.out.mono HBA.out.size));have hSy:wr.heap.size+1<=wc.heap.size:=by have:=hz.out.size;omega
     have hO:=hid (tS t c);have p1:wc.cell? ⟨wr.heap.size,1,none⟩=some (.int .u8 c.2):=by simp[World.cell?,hPy.out]
     have p0:wc.cell? ⟨wr.heap.size,0,none⟩=some (.int .i32 c.1):=by simp[World.cell?,hPy.out]
     have hln:=Ak hRy.out;have hrow5:=hRy.out.alloc (.cells #[.int .i32 c.1,.int .u8 c.2] 279);have hnews:=GR wc (.int .i32 c.1) (.int .u8 c.2) wc.heap.size rfl;have hbs:w.heap.size<=wc.heap.size:=hBy.out.size;clear hBc HRB HPA HRA HBA HWA;by_cases hc:c.2=0
     ·have HC0:=hid hc;clear hc;have hcz:(c.2==0)=true:=by simpa using HC0.out
      have HL:=hid (Dy t c HC0.out);go_wp2_with((at_builtin;refine wpList_append_own _ rfl _ _ 242 rfl w.heap.size 279 i0 (.agg #[.int .i32 0,.int .u8 0]) 2 8 underlying242 hi hz0 hz1 hz2 rfl (by decide) _ _ _ rfl hrow5 _ 1 1 [.int .i32 c.1,.int .u8 c.2] rfl rfl hnews (by simp[Value.oneCell']) (by unfold maxLen;omega) (by omega) (by simp;omega) ?_;intro v2 w5 hown5 hgrow5 _));have hB5:Below w.heap.size w w5:=(hBy.out.alloc hBy.out.size _).grown hgrow5 (by simp;omega) (fun k e=>(hrow5.lt k e).1)
      have h5:w5.ownsRow w.heap.size 279 2 v2 (bw (app t c)).length (aZ (bw (app t c))):=by
       rw[hO.out,show c=(c.1,c.2) from rfl,gT];have e2:(bw t++[(c.1,c.2)]).length=m+1:=by rw[<-HM.out];simp
       rw[e2];exact hown5
      have HLK:Hid ((bw (app t c)).length<=k+1):=by show _<=_;rw[hO.out];have:=HM.out;simp;omega
      have H5:=hid h5;have HB5:=hid hB5;clear hown5 hgrow5 h5 hB5 hrow5 hnews hln p0 p1;go_wp2
      go_roundw
      case rel=>exact⟨k+1,app t c,by omega,by go_num,by rw[HL.out,HM.out],H5.out,HLK.out,by show _=_;rw[HT2.out];exact HAPP.out.symm,HB5.out⟩
      case measure=>simp[intOf] <;> omega
     ·have HC0:=hid hc;clear hc;have hcz:(c.2==0)=false:=by simpa using HC0.out
      have HL:=hid (Dx t c HC0.out);go_wp2_with((at_builtin;refine wpList_append_own _ rfl _ _ 242 rfl w.heap.size 279 i0 (.agg #[.int .i32 0,.int .u8 0]) 2 8 underlying242 hi hz0 hz1 hz2 rfl (by decide) _ _ _ rfl hrow5 _ 1 1 [.int .i32 c.1,.int .u8 c.2] rfl rfl hnews (by simp[Value.oneCell']) (by unfold maxLen;omega) (by omega) (by simp;omega) ?_;intro v2 w5 hown5 hgrow5 _));have hB5:Below w.heap.size w w5:=(hBy.out.alloc hBy.out.size _).grown hgrow5 (by simp;omega) (fun k e=>(hrow5.lt k e).1)
      have h5:w5.ownsRow w.heap.size 279 2 v2 (bw (app t c)).length (aZ (bw (app t c))):=by
       rw[hO.out,show c=(c.1,c.2) from rfl,gT];have e2:(bw t++[(c.1,c.2)]).length=m+1:=by rw[<-HM.out];simp
       rw[e2];exact hown5
      have HLK:Hid ((bw (app t c)).length<=k+1):=by show _<=_;rw[hO.out];have:=HM.out;simp;omega
      have H5:=hid h5;have HB5:=hid hB5;clear hown5 hgrow5 h5 hB5 hrow5 hnews hln p0 p1;go_wp2
      go_roundw
      case rel=>exact⟨k+1,app t c,by omega,by go_num,by rw[HL.out,HTL.out],H5.out,HLK.out,by show _=_;rw[HT2.out];exact HAPP.out.symm,HB5.out⟩
      case measure=>simp[intOf] <;> omega
  ·have hltz:¬ (k:Int)<(n:Int):=by omega
   have HE:Hid (t=tst l):=by show _=_;rw[HT.out,take_of_length_le (by have:=HN.out;omega)]
   go_wp2;go_ret;refine⟨_,rfl,?_,hB⟩;have h:=aq;rw[HE.out]at h;exact h
theorem Aa(l:List Pt):(ord l).length=l.length:=by unfold ord;rw[length_append,(cJ _).len];exact EN l
def LO(L:List Int):List Int:=(ord ((L.flatMap fd).map pt)).map (·.1)
def cI(L:List Int):List Int:=(comp (ord ((L.flatMap fd).map pt))).map (·.1)
theorem GM(L:List Int):(LO L).length<=L.length * 3:=by unfold LO;rw[length_map,Aa,length_map];exact As L
theorem GO(L:List Int):(cI L).length<=(LO L).length:=by unfold cI LO;rw[length_map,length_map];exact zA _
def qx(L:List Int)(w:World)(e:Ending)(W':World):Prop:=∃ v,e=.returned v/\W'.ownsRow w.heap.size 21 1 v L.length (L.map (Value.int .i32))/\Below w.heap.size w W'
theorem bR.below{W W':World}{v:Value}{zs:List Int}(h:bR W v zs)(hb:Below W.heap.size W W'):bR W' v zs:=h.kp (Kp.below (B:=0) hb)
theorem Ir{L:List Int}{w w1 W':World}{v:Value}{l:List Pt}(hL:L=l.map (·.1))(hb:Below w.heap.size w w1)(h:W'.ownsRow w1.heap.size 21 1 v l.length ((l.map (·.1)).map (Value.int .i32)))(hb2:Below w1.heap.size w1 W'):qx L w (.returned v) W':=by
 subst hL;refine⟨v,rfl,?_,hb.trans (hb2.mono hb.size)⟩;rw[length_map];obtain⟨h1,h2⟩:=h;refine⟨h1,?_⟩;rcases h2 with h2 | ⟨g,cap,cur,e,hg,h3⟩
 ·exact .inl h2
 ·exact .inr ⟨g,cap,cur,e,le_trans hb.size hg,h3⟩
theorem Ag(v:Value)(L:List Int)(w:World)(hlen:L.length<=10000)(hv:bR w v L):Calls prog 209 #[v] w fun e W'=>qx (cI L) w e W':=by
 have hsh:∃ a m c,v=.slice a m c:=by obtain⟨a,c,e,_⟩:=hv;exact⟨a,_,c,e⟩
 have hval:=callsIn_wide.1 (xr 3 v w hsh);have hbx:=Boxed.new w 37 v;obtain⟨w1,hw1⟩:∃ w1,w1=w.alloc (.cells #[v] 37):=⟨_,rfl⟩;rw[<-hw1]at hval hbx;have hB1:Below w.heap.size w w1:=by rw[hw1];exact(Below.refl _ w).alloc (le_refl _) _
 have hfl:=As L;have hord:=ve 264 #[.pointer (some ⟨w.heap.size,0,none⟩)] (L.flatMap fd) w1 (by omega) (enters_of func264 (by kernel_rfl) rfl) (DH w1 w.heap.size v L (by omega) hbx (hv.below hB1));have HV:=hid hval;have HO:=hid hord;have HB1:=hid hB1;obtain⟨a,m,c,rfl⟩:=hsh;clear hval hord hB1 hbx hv hw1;go_enter func209,ntmps209;go_wp2_with fail;refine(show Calls _ _ _ _ _ from HV.out).mono ?_;rintro e w' ⟨rfl,rfl⟩;go_wp2_with fail;refine(show Calls _ _ _ _ _ from HO.out).mono ?_;rintro e w2 ⟨v2,rfl,hr2,hB2⟩;have hB12:=HB1.out.trans (hB2.mono HB1.out.size);have hol:(ord ((L.flatMap fd).map pt)).length<=30000:=by rw[Aa,length_map];omega
 have htog:=sd v2 (ord ((L.flatMap fd).map pt)) w2 (by omega) (DJ.of_own hr2);have HTG:=hid htog;have HB12:=hid hB12;clear htog hr2 hB2 hB12;go_wp2_with fail;refine(show Calls _ _ _ _ _ from HTG.out).mono ?_;rintro e w3 ⟨v3,rfl,hr3,hB3⟩;have hB13:=HB12.out.trans (hB3.mono HB12.out.size);have hrun:=Bd v3 (comp (ord ((L.flatMap fd).map pt))) w3 (by have:=zA (ord ((L.flatMap fd).map pt));unfold comp;omega) (DJ.of_own hr3);have HR:=hid hrun;have HB13:=hid hB13;clear hrun hr3 hB3 hB13;go_wp2_with fail;refine(show Calls _ _ _ _ _ from HR.out).mono ?_;rintro e w4 ⟨v4,rfl,hr4,hB4⟩;go_wp2;go_ret;exact Ir rfl HB13.out hr4 hB4
theorem PM(v:Value)(L:List Int)(w:World)(hlen:L.length<=10000)(hv:bR w v L):Calls prog 267 #[v] w fun e W'=>e=.returned (.bool (decide (cI L=L)))/\Below w.heap.size w W':=by
 have hc:=Ag v L w hlen hv;have hsh:∃ a m c,v=.slice a m c:=by obtain⟨a,c,e,_⟩:=hv;exact⟨a,_,c,e⟩
 have HC:=hid hc;have HV:=hid hv;obtain⟨a,m,c,rfl⟩:=hsh;have hl1:=GO L;have hl2:=GM L;clear hc hv;go_enter func267,ntmps267;go_wp2_with fail;refine(show Calls _ _ _ _ _ from HC.out).mono ?_;rintro e w1 ⟨v1,rfl,hr1,hB1⟩;have heq:=CI v1 (.slice a m c) (cI L) L w1 (by omega) (bR.of_own rfl hr1) (HV.out.below hB1);have HE:=hid heq;have HB1:=hid hB1;clear heq hr1 hB1;go_wp2_with fail;refine(show Calls _ _ _ _ _ from HE.out).mono ?_;rintro e w2 ⟨rfl,hB2⟩;go_wp2;go_ret;exact⟨rfl,HB1.out.trans (hB2.mono HB1.out.size)⟩
end N
namespace L
theorem hid{p:Prop}(h:p):Hid p:=h
def sts(r:Int):Int:=(D.fnd r).2.2.1
def bid(r:Int):Int:=(D.fnd r).2.2.2.2.1
def joi(r:Int):Int:=(D.fnd r).2.2.2.2.2.2.2
def cls(r:Int):Int:=(D.fnd r).2.2.2.2.2.1
def mrk(r:Int):Bool:=(D.fnd r).2.2.2.2.2.2.1
theorem tj(P:D.Rw->Prop)(h0:P D.zr)(ht:∀ x∈D.tab,P x)(r:Int):P (D.fnd r):=by
 rw[D.MG];unfold D.cw;cases h:D.tab.find? (D.gi r) with
 | none=>exact h0
 | some x=>exact ht x (List.mem_of_find?_eq_some h)
theorem qh(r:Int):0<=bid r/\bid r<=9 :=
 tj (fun x=>0<=x.2.2.2.2.1/\x.2.2.2.2.1<=9) (by decide +kernel) (by decide +kernel) r
theorem Qq(r:Int):0<=cls r/\cls r<=255 :=
 tj (fun x=>0<=x.2.2.2.2.2.1/\x.2.2.2.2.2.1<=255) (by decide +kernel) (by decide +kernel) r
def dir(r:Int):Nat:=2 ^ (bid r).toNat
def gW(l:List Int):Nat:=l.foldl (fun a r=>a ||| dir r) 0
theorem Dh(l:List Int)(r:Int):gW (l++[r])=gW l ||| dir r:=by simp[gW]
theorem pV(r:Int):dir r<1024:=by
 have h:=qh r;have:(bid r).toNat<=9:=by omega
 have h2:=Nat.pow_le_pow_right (show 0<2 by omega) this;unfold dir;omega
theorem kU:∀(l:List Int) (a:Nat),a<1024->l.foldl (fun a r=>a ||| dir r) a<1024
 | [],a,h=>h
 | r::l,a,h=>kU l _ (Nat.or_lt_two_pow (n:=10) h (pV r))
theorem lf(l:List Int):gW l<1024:=kU l 0 (by omega)
def has(l:List Int)(b:Int):Bool:=l.any fun r=>decide (bid r=b)
theorem lh(r:Int)(b:Nat):(dir r).testBit b=decide (bid r=b):=by have h:=qh r;unfold dir;rw[Nat.testBit_two_pow];congr 1;exact propext ⟨fun h=>by omega,fun h=>by omega⟩
theorem wD(b:Nat):∀(l:List Int) (a:Nat),(l.foldl (fun a r=>a ||| dir r) a).testBit b=(a.testBit b||has l b)
 | [],a=>by simp[has]
 | r::l,a=>by rw[foldl_cons,wD b l,Nat.testBit_or,lh,has,has,List.any_cons,Bool.or_assoc]
theorem wU(l:List Int)(b:Nat):(gW l).testBit b=has l b:=by unfold gW;rw[wD b l 0,Nat.zero_testBit,Bool.false_or]
def vO(l:List Int):Option Int:=l.reverse.find? fun r=>decide (bid r≠8)
def ic(l:List Int):Nat:=((vO l).map dir).getD 0
theorem vQ(l:List Int):ic l<1024:=by
 unfold ic;cases vO l with
 | none=>simp
 | some r=>exact pV r
def my(l:List Int):Int:=((vO l).map bid).getD 8
def kR(l:List Int):Bool:=has l 2||has l 3||has l 7
def dU:List Int->Bool
 | []=>true
 | r::t=>if bid r=2\/bid r=3 then !has (r::t) 1&&!(has (r::t) 4&&has (r::t) 7)&&(decide (my (r::t)=2)||decide (my (r::t)=3)||decide (my (r::t)=4)||decide (my (r::t)=7))
  else if bid r=1 then !has (r::t) 2&&!has (r::t) 3&&!has (r::t) 7&&(decide (my (r::t)=1)||decide (my (r::t)=4)) else false
theorem QB:∀ x:Fin 1024,(bits .and .u16 (x.val:Int) 140 != 0)=(x.val.testBit 2||x.val.testBit 3||x.val.testBit 7):=by decide +kernel
theorem Nr:∀ x:Fin 1024,(bits .andNot .u16 (x.val:Int) 1021==0)=!x.val.testBit 1:=by decide +kernel
theorem Np:∀ x:Fin 1024,(bits .and .u16 (x.val:Int) 156 != 0)=(x.val.testBit 2||x.val.testBit 3||x.val.testBit 4||x.val.testBit 7):=by decide +kernel
theorem No:∀ x:Fin 1024,(bits .and .u16 (x.val:Int) 144 != 144)=!(x.val.testBit 4&&x.val.testBit 7):=by decide +kernel
theorem Ns:∀ x:Fin 1024,(bits .andNot .u16 (x.val:Int) 883==0)=(!x.val.testBit 2&&!x.val.testBit 3&&!x.val.testBit 7):=by decide +kernel
theorem Nq:∀ x:Fin 1024,(bits .and .u16 (x.val:Int) 18 != 0)=(x.val.testBit 1||x.val.testBit 4):=by decide +kernel
theorem Nn:∀ x:Fin 1024,(bits .and .u16 (x.val:Int) 12 != 0)=(x.val.testBit 2||x.val.testBit 3):=by decide +kernel
theorem gh(l:List Int)(b:Nat)(hb:b≠8):(ic l).testBit b=decide (my l=b):=by
 unfold ic my;cases vO l with
 | none=>simp;omega
 | some r=>simp[lh]
def rem(L:List Int)(st a:Int):List Int:=if st=1 then L.drop a.toNat else (L.take (a+1).toNat).reverse
theorem OG(L:List Int)(st a:Int)(hst:st=1\/st=-1)(h0:0<=a)(h1:a<L.length):rem L st a=L[a.toNat]?.getD 0::rem L st (a+st):=by
 obtain⟨k,rfl⟩:∃ k:Nat,a=k:=⟨a.toNat,by omega⟩;have hk:k<L.length:=by omega
 rcases hst with rfl | rfl
 ·simp only[rem,if_true];rw[show((k:Int)+1).toNat=k+1 by omega,Int.toNat_natCast,drop_eq_getElem_cons hk,getElem?_eq_getElem hk];rfl
 ·simp only[rem,show ¬ ((-1:Int)=1) by omega,if_false];rw[show((k:Int)+1).toNat=k+1 by omega,show((k:Int)+-1+1).toNat=k by omega,Int.toNat_natCast,take_succ_eq_append_getElem hk,List.reverse_append,getElem?_eq_getElem hk];rfl
theorem KU(L:List Int)(st a:Int)(h:(st=1/\(L.length:Int)<=a)\/(st=-1/\a<0)):rem L st a=[]:=by
 rcases h with⟨rfl,h⟩ | ⟨rfl,h⟩
 ·simp only[rem,if_true];exact List.drop_of_length_le (by omega)
 ·simp only[rem,show ¬ ((-1:Int)=1) by omega,if_false];rw[show(a+1).toNat=0 by omega];rfl
def nb(L:List Int)(i st:Int):Int:=(((rem L st (i+st)).find? fun r=>decide (joi r≠4)).map joi).getD 0
def may(L:List Int)(i:Nat):Bool :=
 (decide (0<i)&&decide (cls (L[i - 1]?.getD 0)=9))||(decide (L[i]?.getD 0=8204)&&((decide (nb L i (-1)=1)||decide (nb L i (-1)=3))&&(decide (nb L i 1=2)||decide (nb L i 1=3))))
def jat(L:List Int)(i:Nat):Bool:=!(decide (L[i]?.getD 0=8204)||decide (L[i]?.getD 0=8205))||may L i
def jok(L:List Int):Bool:=(List.range L.length).all (jat L)
theorem PK(L:List Int)(i:Nat)(hi:i<L.length)(h:jat L i=false):jok L=false:=by unfold jok;rw[Bool.eq_false_iff];intro hc;have:=List.all_eq_true.1 hc i (List.mem_range.2 hi);rw[h]at this;cases this
theorem Mj(L:List Int)(h:∀ i,i<L.length->jat L i=true):jok L=true :=
 List.all_eq_true.2 fun i hi=>h i (List.mem_range.1 hi)
def eP(r:Int):Bool:=decide (sts r≠1)&&decide (sts r≠4)
def dr(L:List Int):Bool:=decide (L.take 4=[120,110,45,45])
def qs(L:List Int)(hy:Bool):List Bool :=
 [!decide (N.cI L=L),hy&&decide (4<=L.length)&&decide (L[2]?.getD 0=45)&&decide (L[3]?.getD 0=45),hy&&(decide (L[0]?.getD 0=45)||decide (L[L.length - 1]?.getD 0=45)),
   dr L,L.any (fun r=>decide (r=46)),mrk (L[0]?.getD 0),L.any eP,!jok L]
def bt(b:Bool)(v:Int):Int:=if b then v else 0
def sm:Nat->List Bool->Int
 | _,[]=>0
 | k,b::l=>bt b (2 ^ k)+sm (k+1) l
def flt(L:List Int)(hy:Bool):Int:=if L.length=0 then 0 else sm 0 (qs L hy)
end L
namespace D
open Go.RowKit Go.Lib Go.Sort Go.Shelf
theorem vV(r:Int)(w:World):Calls prog 259 #[.int .i32 r] w fun e W'=>Ans (inst r) w e W':=by
 obtain⟨L,hL⟩:∃ L,L=inst r:=⟨_,rfl⟩;have HL:=hid' hL;rw[<-hL];clear hL;go_enter func259,ntmps259;go_wp2;all_goals go_ret
 all_goals first | refine Ans.one ?_ (Below.refl _ _) | refine Ans.two ?_ (Below.refl _ _) | refine Ans.nil ?_ (Below.refl _ _)
 all_goals rw[HL.out]
 all_goals clear HL
 all_goals first | (rename_i h;obtain rfl:=eq_of_beq h;rfl) | (simp[inst,mC,List.lookup, *];done)
theorem kY(r:Int)(w:World):Calls prog 258 #[.int .i32 r] w fun e W'=>e=.returned (.int .i32 (kZ r))/\W'=w:=by
 obtain⟨L,hL⟩:∃ L,L=kZ r:=⟨_,rfl⟩;have HL:=hid' hL;rw[<-hL];clear hL;go_enter func258,ntmps258;go_wp2;all_goals go_ret
 all_goals refine⟨?_,rfl⟩
 all_goals rw[HL.out]
 all_goals clear HL
 all_goals first | (rename_i h;obtain rfl:=eq_of_beq h;rfl) | (simp[kZ,Ax,List.lookup, *];done)
theorem eU{α:Type}:∀ {l:List (Int×α)} {r:Int} {v:α},l.lookup r=some v->(r,v)∈l
 | [],r,v,h=>by simp[List.lookup]at h
 | (a,b)::l,r,v,h=>by
  unfold List.lookup at h;split at h
  ·rename_i hb;obtain rfl:=eq_of_beq hb;cases h;exact List.mem_cons_self
  ·exact List.mem_cons_of_mem _ (eU h)
theorem MU(r:Int):-65248<=kZ r/\kZ r<=80:=by
 unfold kZ;cases h:Ax.lookup r with
 | none=>simp
 | some v =>
  have hm:=eU h;have:∀ p∈Ax,-65248<=p.2/\p.2<=80:=by decide
  exact this _ hm
theorem ky(d:List Rw)(r:Int):cw d r=zr\/(cw d r∈d/\(cw d r).1<=r/\r<=(cw d r).2.1):=by
 unfold cw;cases h:d.find? (gi r) with
 | none=>exact .inl rfl
 | some x =>
  refine .inr ⟨List.mem_of_find?_eq_some h,?_⟩;have:=find?_some h;simpa[gi]using this
theorem ti(r:Int):fnd r=zr\/(fnd r∈tab/\(fnd r).1<=r/\r<=(fnd r).2.1):=by
 unfold fnd tab;split
 ·rcases ky fZ r with h | ⟨h,g⟩
  ·exact .inl h
  ·exact .inr ⟨by simp[h],g⟩
 ·split
  ·rcases ky fq r with h | ⟨h,g⟩
   ·exact .inl h
   ·exact .inr ⟨by simp[h],g⟩
  ·split
   ·rcases ky dj r with h | ⟨h,g⟩
    ·exact .inl h
    ·exact .inr ⟨by simp[h],g⟩
   ·rcases ky later r with h | ⟨h,g⟩
    ·exact .inl h
    ·exact .inr ⟨by simp[h],g⟩
theorem EB:∀ x∈tab,0<=x.1/\x.2.1<=200000/\0<=x.2.2.1/\x.2.2.1<=4:=by decide
theorem Qd{r:Int}(h:(fnd r).2.2.1≠0):0<=r/\r<=200000:=by
 rcases ti r with e | ⟨hm,h1,h2⟩
 ·rw[e]at h;exact absurd rfl h
 ·have:=EB _ hm;omega
def mpd(lo r:Int):List Int:=if kZ lo≠0 then [r+kZ lo] else inst r
def mp(r:Int):List Int:=if (fnd r).2.2.1=0\/(fnd r).2.2.1=2 then [] else if (fnd r).2.2.1=3 then mpd (fnd r).1 r else [r]
theorem yl(lo r:Int)(h0:0<=r)(h1:r<=200000)(w:World):Calls prog 233 #[.int .i32 lo,.int .i32 r] w fun e W'=>Ans (mpd lo r) w e W':=by
 obtain⟨L,hL⟩:∃ L,L=mpd lo r:=⟨_,rfl⟩;have HL:=hid' hL;rw[<-hL];clear hL;obtain⟨D,hD⟩:∃ D,D=kZ lo:=⟨_,rfl⟩;have hb:=MU lo;rw[<-hD]at hb;have HD:=hid' hD;clear hD;obtain⟨hb1,hb2⟩:=hb;by_cases hd0:D=0
 ·have HL2:Hid (L=inst r):=by show _=_;rw[HL.out];unfold mpd;rw[<-HD.out,if_neg (by simpa using hd0)]
  subst hd0;clear HL;go_enter func233,ntmps233;go_wp2_with fail;refine(kY lo w).mono ?_;rw[<-HD.out];rintro e w1 ⟨rfl,rfl⟩;go_wp2_with fail;refine(vV r _).mono ?_;rw[<-HL2.out];rintro e w2 ⟨⟨v,rfl,hv⟩,hB⟩;go_wp2;go_ret;exact⟨⟨v,rfl,hv⟩,hB⟩
 ·have HL2:Hid (L=[r+D]):=by show _=_;rw[HL.out];unfold mpd;rw[<-HD.out,if_pos hd0]
  have hdb:(D != 0)=true:=by simpa using hd0
  have hdb2:(D==0)=false:=by simpa using hd0
  clear HL;go_enter func233,ntmps233;go_wp2_with fail;refine(kY lo w).mono ?_;rw[<-HD.out];rintro e w1 ⟨rfl,rfl⟩;go_wp2;go_ret;exact Ans.one HL2.out (Below.refl _ _)
theorem kE(r:Int)(w:World):Calls prog 208 #[.int .i32 r] w fun e W'=>Ans (mp r) w e W':=by
 obtain⟨L,hL⟩:∃ L,L=mp r:=⟨_,rfl⟩;have HL:=hid' hL;rw[<-hL];clear hL;have hbd:=@Qd r;have hcall:=wG r
 have hst:0<=(fnd r).2.2.1/\(fnd r).2.2.1<=4:=by
  rcases ti r with e | ⟨hm,_⟩
  ·rw[e];decide
  ·have:=EB _ hm;omega
 unfold mp at HL;obtain⟨⟨x0,x1,x2,x3,x4,x5,x6,x7⟩,hx⟩:∃ x,x=fnd r:=⟨_,rfl⟩;rw[<-hx]at hbd hcall hst HL;dsimp only at hbd hst HL;have HC:=hid' hcall;have HBD:=hid' hbd;clear hcall hx hbd;have HI:Hid ((prog.info? 238).map (·.size)=some 8):=by show _=_;kernel_rfl
 go_enter func208,ntmps208;go_wp2_with fail;refine(HC.out _).mono ?_;simp only[fS];rintro e w1 ⟨rfl,hB1⟩;clear HC;go_wp2_with((refine wpList_store_row rfl 238 (.tmp 3) (.tmp 5) rfl w1.heap.size #[.int .i32 x0,.int .i32 x1,.int .u8 x2,.int .u8 x3,.int .u8 x4,.int .u8 x5,.bool x6,.int .u8 x7] rfl rfl 238 _ (by exact heap_alloc_last w1 _) (by exact HI.out) (by rfl) (by kernel_rfl) (wpList_nil ?_);rw[World.setRow_alloc_new]))
 ·rename_i h;have h2:x2=0:=eq_of_beq h;go_ret;exact Ans.nil (by rw[HL.out,if_pos (.inl h2)]) (hB1.alloc hB1.size _)
 ·rename_i h;have h2:x2=2:=eq_of_beq h;go_ret;exact Ans.nil (by rw[HL.out,if_pos (.inr h2)]) (hB1.alloc hB1.size _)
 ·have h3:x2=3:=by apply eq_of_beq;assumption
  have hr:=HBD.out (by omega);have HL2:Hid (L=mpd x0 r):=by show _=_;rw[HL.out,if_neg (by omega),if_pos h3]
  have hB2:=hB1.alloc hB1.size (.cells #[.int .i32 x0,.int .i32 x1,.int .u8 x2,.int .u8 x3,.int .u8 x4,.int .u8 x5,.bool x6,.int .u8 x7] 238);refine(yl x0 r hr.1 hr.2 _).mono ?_;rw[<-HL2.out];rintro e w2 ⟨⟨v,rfl,hv⟩,hB⟩;have hB3:Below w.heap.size w w2:=hB2.trans (hB.mono hB2.size);clear hB hB2 hB1 HL HL2 h3;go_wp2;go_ret;exact⟨⟨v,rfl,hv⟩,hB3⟩
 ·have h0:¬ x2=0:=by intro h;subst h;simp_all
  have h2:¬ x2=2:=by intro h;subst h;simp_all
  have h3:¬ x2=3:=by intro h;subst h;simp_all
  go_ret;have hL1:L=[r]:=by rw[HL.out,if_neg (by omega),if_neg h3]
  have:=Ans.one (w:=w) (W:=w1.alloc (.cells #[.int .i32 x0,.int .i32 x1,.int .u8 x2,.int .u8 x3,.int .u8 x4,.int .u8 x5,.bool x6,.int .u8 x7] 238)) hL1 (hB1.alloc hB1.size _);rw[size_alloc]at this;exact this
end D
namespace N
theorem lF(y:List Pt):∀(A O S:List Pt),y.foldl stp (A++O,S)=(A++(y.foldl stp (O,S)).1,(y.foldl stp (O,S)).2):=by
 induction y with
 | nil=>intro A O S;rfl
 | cons p y ih =>
  intro A O S;rw[foldl_cons,foldl_cons];by_cases hp:p.2=0
  ·have e1:stp (A++O,S) p=(A++(O++cV S++[p]),[]):=by simp[stp,hp]
   have e2:stp (O,S) p=(O++cV S++[p],[]):=by simp[stp,hp]
   rw[e1,e2,ih]
  ·have e1:stp (A++O,S) p=(A++O,S++[p]):=by simp[stp,hp]
   have e2:stp (O,S) p=(O,S++[p]):=by simp[stp,hp]
   rw[e1,e2,ih]
theorem Gq(x y:List Pt)(h:y=[]\/∃ p y',y=p::y'/\p.2=0):ord (x++y)=ord x++ord y:=by
 rcases h with rfl | ⟨p,y',rfl,hp⟩
 ·simp[ord,st,cV]
 ·unfold ord st;rw[foldl_append];obtain⟨O,S⟩:=x.foldl stp ([],[]);rw[foldl_cons,foldl_cons];have e1:stp (O,S) p=((O++cV S)++[p],[]):=by simp[stp,hp]
  have e2:stp ([],[]) p=([p],[]):=by simp[stp,hp,cV]
  rw[e1,e2,lF];simp
theorem Gr(p:Pt)(y:List Pt)(hp:p.2=0):∃ z,ord (p::y)=p::z:=by
 unfold ord st;rw[foldl_cons];have e2:stp ([],[]) p=([p]++[],[]):=by simp[stp,hp,cV]
 rw[e2,lF];exact⟨_,rfl⟩
theorem vg(l:List Pt):(ord l).Perm l:=by
 have h:∀ l:List Pt,((st l).1++(st l).2).Perm l:=by
  intro l
  induction l using oc with
  | h0=>exact .refl _
  | h1 l p ih =>
   rw[si];unfold stp;split
   ·dsimp only;rw[append_nil];exact(((List.Perm.refl _).append (cJ _).perm).trans ih).append (.refl [p])
   ·dsimp only;rw[<-append_assoc];exact ih.append (.refl [p])
 unfold ord;exact((List.Perm.refl _).append (cJ _).perm).trans (h l)
def Pure(l:List Pt):Prop:=∀ x∈l,x=pt x.1
theorem Fk(L:List Int):Pure (L.map pt):=fun x hx=>by obtain⟨r,_,rfl⟩:=List.mem_map.1 hx;rfl
def okp(p:D.Tri):Bool:=decide (cl p.2.1=0)&&decide (cl p.2.2≠0)&&decide (cl p.1=0)&&decide (D.dcp p.1=[p.2.1,p.2.2])
theorem Lr:D.prs.all okp=true:=by kernel_rfl
theorem Fy{a b q:Int}(h:pr a b=(q,true)):cl a=0/\cl b≠0/\cl q=0/\D.dcp q=[a,b]:=by
 unfold pr D.prf at h;cases he:D.prs.find? (fun x=>x.2.1==a&&x.2.2==b) with
 | none=>rw[he]at h;simp at h
 | some p =>
  rw[he]at h;have hm:=List.mem_of_find?_eq_some he;have hf:=find?_some he;simp only[and_eq_true,beq_iff_eq]at hf;have:=List.all_eq_true.1 Lr _ hm;simp only[okp,and_eq_true,decide_eq_true_eq]at this;obtain⟨⟨⟨h1,h2⟩,h3⟩,h4⟩:=this;simp only[Prod.mk.injEq,and_true]at h;rw[hf.1]at h1 h4;rw[hf.2]at h2 h4;rw[h]at h3 h4;exact⟨h1,h2,h3,h4⟩
theorem ir(t:TS)(c:Pt):bj t c=app t c\/∃ A s B q,t=(some (A,s),B)/\rch B c=true/\pr s.1 c.1=(q,true)/\bj t c=(some (A,(q,s.2)),B):=by
 obtain⟨_ | ⟨A,s⟩,B⟩:=t
 ·exact .inl (nR rfl)
 ·by_cases h:rch B c=true/\(pr s.1 c.1).2=true
  ·refine .inr ⟨A,s,B,(pr s.1 c.1).1,rfl,h.1,by rw[<-h.2],?_⟩;unfold bj;dsimp only;rw[if_pos h]
  ·left;unfold bj app;dsimp only;rw[if_neg h];rfl
theorem yf(b:List Int)(h:b=[]\/∃ r b',b=r::b'/\cl r=0):(b.flatMap fd).map pt=[]\/∃ p y',(b.flatMap fd).map pt=p::y'/\p.2=0:=by
 rcases h with rfl | ⟨r,b',rfl,hr⟩
 ·exact .inl rfl
 ·have h1:=(Iw r).1;have h2:=MK hr;cases hf:fd r with
  | nil=>rw[hf]at h1;simp at h1
  | cons c l =>
   rw[hf]at h2;exact .inr ⟨pt c,(l++b'.flatMap fd).map pt,by simp[hf],h2⟩
def pre(X:List Pt):TS->TS
 | (some (A,s),B)=>(some (X++A,s),B)
 | (none,B)=>(none,X++B)
theorem AO(X A B:List Pt)(s c:Pt):bj (some (X++A,s),B) c=pre X (bj (some (A,s),B) c)/\∃ A' s' B',bj (some (A,s),B) c=(some (A',s'),B'):=by
 unfold bj;dsimp only;split
 ·exact⟨rfl,_,_,_,rfl⟩
 ·split
  ·exact⟨by simp[pre],_,_,_,rfl⟩
  ·exact⟨rfl,_,_,_,rfl⟩
theorem qM(y:List Pt):∀(X A B:List Pt) (s:Pt),bw (y.foldl bj (some (X++A,s),B))=X++bw (y.foldl bj (some (A,s),B)):=by
 induction y with
 | nil=>intro X A B s;simp[bw]
 | cons c y ih =>
  intro X A B s;rw[foldl_cons,foldl_cons];obtain⟨h1,A',s',B',h2⟩:=AO X A B s c;rw[h1,h2];exact ih X A' B' s'
theorem nQ(t:TS)(p:Pt)(hp:p=pt p.1)(h0:p.2=0):bj t p=(some (bw t,p),[]):=by
 rcases ir t p with h | ⟨A,s,B,q,ht,hr,hq,h⟩
 ·rw[h];unfold app;rw[if_pos h0]
 ·have:=(Fy hq).2.1;have h2:p.2=cl p.1:=by rw[hp];rfl
  omega
theorem Dn(x y:List Pt)(h:y=[]\/∃ p y',y=p::y'/\p.2=0/\p=pt p.1):comp (x++y)=comp x++comp y:=by
 rcases h with rfl | ⟨p,y',rfl,h0,hp⟩
 ·simp[comp,tst,bw]
 ·unfold comp tst;rw[foldl_append,foldl_cons,foldl_cons,nQ _ p hp h0,nQ _ p hp h0];have:=qM y' (bw (x.foldl bj (none,[]))) [] [] p;rw[append_nil]at this;exact this
theorem vD(a b:List Int)(h:b=[]\/∃ r b',b=r::b'/\cl r=0):cI (a++b)=cI a++cI b:=by
 unfold cI;have hb:=yf b h;rw[flatMap_append,map_append,Gq _ _ hb,Dn,map_append];rcases hb with hb | ⟨p,y',hb,h0⟩
 ·rw[hb];exact .inl rfl
 ·have hp:p=pt p.1:=Fk _ p (by rw[hb];simp);rw[hb];obtain⟨z,hz⟩:=Gr p y' h0;exact .inr ⟨p,z,hz,h0,hp⟩
end N
namespace I
def join:List (List Int)->List Int
 | []=>[]
 | [a]=>a
 | a::b::l=>a++46::join (b::l)
def spl:List Int->List (List Int)
 | []=>[[]]
 | c::l=>if c=46 then []::spl l else match spl l with
  | []=>[[c]]
  | a::t=>(c::a)::t
theorem aV:∀ l,∃ a t,spl l=a::t
 | []=>⟨[],[],rfl⟩
 | c::l=>by
  obtain⟨a,t,h⟩:=aV l;by_cases hc:c=46
  ·exact⟨[],spl l,by rw[spl,if_pos hc]⟩
  ·exact⟨c::a,t,by rw[spl,if_neg hc,h]⟩
theorem zH:∀(a l:List Int),46∉a->spl (a++46::l)=a::spl l
 | [],l,_=>by rw[nil_append,spl,if_pos rfl]
 | c::a,l,h=>by have h1:¬ c=46:=fun e=>h (by simp[e]);rw[cons_append,spl,if_neg h1,zH a l (fun hm=>h (by simp[hm]))]
theorem cn:∀(a:List Int),46∉a->spl a=[a]
 | [],_=>rfl
 | c::a,h=>by have h1:¬ c=46:=fun e=>h (by simp[e]);rw[spl,if_neg h1,cn a (fun hm=>h (by simp[hm]))]
theorem dM:∀ ls:List (List Int),ls≠[]->(∀ a∈ls,46∉a)->spl (join ls)=ls
 | [],h,_=>absurd rfl h
 | [a],_,h=>cn a (h a (by simp))
 | a::b::l,_,h=>by rw[join,zH a _ (h a (by simp)),dM (b::l) (by simp) (fun x hx=>h x (by simp at hx ⊢;exact .inr hx))]
theorem uC:∀(l:List Int),∀ a∈spl l,46∉a
 | [],a,h=>by simp[spl]at h;simp[h]
 | c::l,a,h=>by
  obtain⟨b,t,hb⟩:=aV l;have ih:=uC l;by_cases hc:c=46
  ·rw[spl,if_pos hc]at h;rcases List.mem_cons.1 h with rfl | h
   ·simp
   ·exact ih a h
  ·rw[spl,if_neg hc,hb]at h;rw[hb]at ih;rcases List.mem_cons.1 h with rfl | h
   ·intro hm;rcases List.mem_cons.1 hm with e | hm
    ·exact hc e.symm
    ·exact ih b (by simp) hm
   ·exact ih a (by simp[h])
theorem iC:∀(l:List Int),join (spl l)=l
 | []=>rfl
 | c::l=>by
  obtain⟨b,t,hb⟩:=aV l;have ih:=iC l;by_cases hc:c=46
  ·rw[spl,if_pos hc,hb];rw[hb]at ih;rw[join,ih,hc];rfl
  ·rw[spl,if_neg hc,hb];rw[hb]at ih;cases t with
   | nil=>rw[join]at ih ⊢;rw[ih]
   | cons d t=>rw[join]at ih ⊢;rw[cons_append,ih]
theorem kj:∀(x y:List Int),spl (x++46::y)=spl x++spl y
 | [],y=>by simp[spl]
 | c::x,y=>by
  obtain⟨b,t,hb⟩:=aV x;rw[cons_append];by_cases hc:c=46
  ·rw[spl,if_pos hc,kj x y,spl,if_pos hc];rfl
  ·rw[spl,if_neg hc,kj x y,spl,if_neg hc,hb];rfl
def mpx(r:Int):List Int:=if L.sts r=0 then [r] else D.mp r
def Mp(l:List Int):List Int:=N.cI (l.flatMap mpx)
theorem lO(r:Int)(h:L.sts r=1\/L.sts r=4):mpx r=[r]:=by have e:L.sts r=(D.fnd r).2.2.1:=rfl;unfold mpx D.mp;rw[<-e,if_neg (by omega),if_neg (by omega),if_neg (by omega)]
theorem lS:∀(l:List Int),(∀ r∈l,L.sts r=1\/L.sts r=4)->l.flatMap mpx=l
 | [],_=>rfl
 | r::l,h=>by rw[List.flatMap_cons,lO r (h r (by simp)),lS l (fun x hx=>h x (by simp[hx]))];rfl
theorem LY(r:Int)(h:L.mrk r=false):N.cl r=0 :=
 L.tj (fun x=>x.2.2.2.2.2.2.1=false->x.2.2.2.2.2.1=0) (by decide +kernel) (by decide +kernel) r h
def Beg(X:List Int):Prop:=X=[]\/∃ r b',X=r::b'/\N.cl r=0
theorem NY:N.cl 46=0:=by decide +kernel
def plain(l:List Int):Bool:=l.all fun c=>decide (0<=c)&&decide (c<128)
theorem cH{l:List Int}:plain l=true↔∀ c∈l,0<=c/\c<128:=by unfold plain;rw[List.all_eq_true];exact⟨fun h c hc=>by simpa using h c hc,fun h c hc=>by simpa using h c hc⟩
theorem Dt:∀ c:Fin 128,N.cI [(c.val:Int)]=[(c.val:Int)]/\N.cl (c.val:Int)=0:=by decide +kernel
theorem Jl(c:Int)(h:0<=c/\c<128):N.cI [c]=[c]/\N.cl c=0:=by obtain⟨k,rfl⟩:∃ k:Nat,c=k:=⟨c.toNat,by omega⟩;exact Dt ⟨k,by omega⟩
theorem jn:∀(l:List Int),(∀ c∈l,0<=c/\c<128)->N.cI l=l/\Beg l
 | [],_=>⟨rfl,.inl rfl⟩
 | c::l,h=>by have hc:=Jl c (h c (by simp));have ih:=jn l (fun x hx=>h x (by simp[hx]));refine⟨?_,.inr ⟨c,l,rfl,hc.2⟩⟩;have:c::l=[c]++l:=rfl;rw[this,N.vD [c] l ih.2,hc.1,ih.1]
theorem PI:∀ c:Fin 128,(97<=c.val/\c.val<=122\/48<=c.val/\c.val<=57\/c.val=45\/c.val=46)->L.sts (c.val:Int)=1:=by decide +kernel
theorem eG(c:Int)(h:97<=c/\c<=122\/48<=c/\c<=57\/c=45\/c=46):L.sts c=1:=by obtain⟨k,rfl⟩:∃ k:Nat,c=k:=⟨c.toNat,by omega⟩;exact PI ⟨k,by omega⟩ (by simp only;omega)
theorem lq{b:Bool}{v:Int}(hv:0<v)(h:L.bt b v=0):b=false:=by
 cases b
 ·rfl
 ·simp[L.bt]at h;omega
theorem cR(b:Bool)(v:Int)(hv:0<v):0<=L.bt b v:=by unfold L.bt;split <;> omega
theorem nd(l:List Int)(hy:Bool)(h:¬ l.length=0):L.flt l hy=L.bt (!decide (N.cI l=l)) 1+L.bt (hy&&decide (4<=l.length)&&decide (l[2]?.getD 0=45)&&decide (l[3]?.getD 0=45)) 2+L.bt (hy&&(decide (l[0]?.getD 0=45)||decide (l[l.length - 1]?.getD 0=45))) 4 +
  (L.bt (L.dr l) 8+L.bt (l.any (fun r=>decide (r=46))) 16)+L.bt (L.mrk (l[0]?.getD 0)) 32+(L.bt (l.any L.eP) 64+L.bt (!L.jok l) 128):=by
 unfold L.flt L.qs;rw[if_neg h];simp only[L.sm,Nat.reduceAdd,zero_add,Int.reducePow];omega
theorem gS(l:List Int)(hy:Bool):0<=L.flt l hy:=by
 by_cases h:l.length=0
 ·unfold L.flt;rw[if_pos h];exact Int.le_refl _
 ·rw[nd l hy h];have h1:=cR (!decide (N.cI l=l)) 1 (by omega);have h2:=cR (hy&&decide (4<=l.length)&&decide (l[2]?.getD 0=45)&&decide (l[3]?.getD 0=45)) 2 (by omega);have h3:=cR (hy&&(decide (l[0]?.getD 0=45)||decide (l[l.length - 1]?.getD 0=45))) 4 (by omega);have h4:=cR (L.dr l) 8 (by omega);have h5:=cR (l.any (fun r=>decide (r=46))) 16 (by omega);have h6:=cR (L.mrk (l[0]?.getD 0)) 32 (by omega);have h7:=cR (l.any L.eP) 64 (by omega);have h8:=cR (!L.jok l) 128 (by omega);omega
structure DL(l:List Int):Prop where
 nfc:N.cI l=l
 beg:Beg l
 pre:L.dr l=false
 dot:46∉l
 val:∀ r∈l,L.sts r=1\/L.sts r=4
theorem Ar{l:List Int}{hy:Bool}(h:L.flt l hy=0):DL l:=by
 by_cases h0:l.length=0
 ·obtain rfl:l=[]:=List.length_eq_zero_iff.1 h0;exact⟨rfl,.inl rfl,by decide,by simp,by simp⟩
 ·rw[nd l hy h0]at h;have h1:=cR (!decide (N.cI l=l)) 1 (by omega);have h2:=cR (hy&&decide (4<=l.length)&&decide (l[2]?.getD 0=45)&&decide (l[3]?.getD 0=45)) 2 (by omega);have h3:=cR (hy&&(decide (l[0]?.getD 0=45)||decide (l[l.length - 1]?.getD 0=45))) 4 (by omega);have h4:=cR (L.dr l) 8 (by omega);have h5:=cR (l.any (fun r=>decide (r=46))) 16 (by omega);have h6:=cR (L.mrk (l[0]?.getD 0)) 32 (by omega);have h7:=cR (l.any L.eP) 64 (by omega);have h8:=cR (!L.jok l) 128 (by omega);have e1:=lq (v:=1) (by omega) (show L.bt (!decide (N.cI l=l)) 1=0 by omega);have e4:=lq (v:=8) (by omega) (show L.bt (L.dr l) 8=0 by omega);have e5:=lq (v:=16) (by omega) (show L.bt (l.any (fun r=>decide (r=46))) 16=0 by omega);have e6:=lq (v:=32) (by omega) (show L.bt (L.mrk (l[0]?.getD 0)) 32=0 by omega);have e7:=lq (v:=64) (by omega) (show L.bt (l.any L.eP) 64=0 by omega);refine⟨by simpa using e1,?_,e4,?_,?_⟩
  ·cases l with
   | nil=>exact .inl rfl
   | cons r t=>exact .inr ⟨r,t,rfl,LY r e6⟩
  ·intro hm;have:=List.any_eq_false.1 e5 46 hm;simp at this
  ·intro r hr;have:=List.any_eq_false.1 e7 r hr;simp[L.eP]at this;omega
end I
end Go.Proofs.YtmkompnhefhngaaGreatDoor
