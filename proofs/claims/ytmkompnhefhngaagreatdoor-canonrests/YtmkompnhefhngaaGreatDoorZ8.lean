/- Contracts and plain facts. -/
import Derived.Test.YtmkompnhefhngaaGreatDoorZ7
import Derived.Test.YtmkompnhefhngaaGreatDoorRows
import Derived.Shelf.Strings.Replace
import Derived.LaidLaws
import Derived.ProofKit
import Derived.LaidMore
import Derived.Stop.Joined
import Derived.Lib.LaidTab
import Derived.Lay
import Derived.Shelf.LaysM
import Derived.Lib.LaidU8T
set_option maxRecDepth 100000
set_option maxHeartbeats 16000000
set_option linter.unusedVariables false
set_option linter.unnecessarySimpa false
open Nat (le_refl le_trans zero_le add_comm)
open List (length_reverse map_append dropWhile_sublist length_append length_drop append_assoc takeWhile_sublist cons_append mem_of_getElem? sublist_cons_self map_cons length_cons map_dropLast drop_sublist map_singleton length_map)
open Array (length_toList)
open Go.Lib (count_miss)
namespace Go.Proofs.YtmkompnhefhngaaGreatDoor
open Go.Proofs.Tryz Go.RowKit
namespace Y
open F (bn aa hid ay aC ten vl)
def GU(w:World):Prop:=H.GH w/\Tbs w
theorem GU.below{w w':World}(h:GU w)(hb:Below w.heap.size w w'):GU w':=⟨h.1.below hb,h.2.below hb⟩
theorem Pz(sp:Bool):(fun c=>!(Y.sl sp c||qm c))=nau sp:=rfl
theorem sa{f:Int->Bool}(l:List Int):(l.takeWhile f).length<=l.length:=(List.takeWhile_prefix _).length_le
theorem iM{f:Int->Bool}(l:List Int):(l.dropWhile f).length<=l.length:=(List.dropWhile_suffix _).length_le
theorem fT(w0 W:World)(b:Nat)(r:Rd)(ps:List ByteArray)(hS:St w0 b W r ps)(hs:r.re.size<=100000)(hsl:r.sl=ia r.sp)(hh:r.u.hh=true)(hG:GU w0):Calls prog 47 #[.pointer (some ⟨b,0,none⟩)] W fun e W' =>
  ∃ A:List Int,A=(bn r.re).takeWhile (nau r.sp) /\
  (((64∈A/\beh A=[]\/(hcut false (beh A)).1=[]/\(hcut false (beh A)).2.isSome=true)/\e=.returned (.int .i64 70)/\Below w0.heap.size w0 W') \/
  (¬ (64∈A/\beh A=[])/\¬ ((hcut false (beh A)).1=[]/\(hcut false (beh A)).2.isSome=true)/\∃(h:H.Hst) (n po us pa t:ByteArray) (a0 a1 a2 a3 a4 a5 a6 a7:Nat),H.HP H.IA (hcut false (beh A)).1 r.sp h/\e=.returned (.int .i64 h.2.2.2.2)/\bn n=h.2.1/\h.2.2.2.1=[a0,a1,a2,a3,a4,a5,a6,a7]/\bn po=(hcut false (beh A)).2.getD []/\bn t=(bn r.re).dropWhile (nau r.sp) /\
    (if 64∈A then bn us=E.en 5 (U.dec ((ahd A).takeWhile fL))/\bn pa=E.en 5 (U.dec (((ahd A).dropWhile fL).drop 1)) else us=r.u.us/\pa=r.u.pa) /\
    St w0 b W' { r with re:=t,po:=po,u:={ r.u with us:=us,pa:=pa,k:=h.1,nm:=n,f:=h.2.2.1,x0:=a0,x1:=a1,x2:=a2,x3:=a3,x4:=a4,x5:=a5,x6:=a6,x7:=a7 } } ps)):=by
 obtain⟨a,t,ha,ht,HTK⟩:=gC (fau r.sp) r.re (by omega);rw[Pz]at ha ht;have hasz:a.size<=100000:=by rw[<-aa,ha];exact le_trans (sa _) (by rw[aa];exact hs)
 obtain⟨us,d,y,hy,HDV⟩:=IL a (by omega);have HA:=hid ha;have HT:=hid ht;have HTT:=hid HTK;have HDD:=hid HDV;have HS:=hid hS;have HG:=hid hG;obtain⟨F3,_⟩:=hS.cell 3 (.bool true) (by show some (Value.bool r.u.hh)=_;rw[hh]);obtain⟨F26,_⟩:=hS.cell 26 (.string (ia r.sp)) (by show some (Value.string r.sl)=_;rw[hsl]);obtain⟨C,hC⟩:=Ex' (ia r.sp);have hCs:C.size<=10:=by rw[<-hC];cases r.sp <;> decide
 rw[hC]at F26 HTT;clear ha ht HTK HDV hS hG hsl hh hC;go_enter func47,ntmps47;go_wp2_with fail;refine(dz _ _).mono ?_;rintro e w1 ⟨⟨k,rfl,hk⟩,B1⟩;have S1:=HS.out.below B1;have HTC:=hid (HTT.out w0 w1 b r ps k rfl S1 hk);clear HS HTT hk B1 S1 F3 F26;go_wp2_with fail;refine HTC.out.mono ?_;rintro e w2 ⟨rfl,S2,_⟩;have HS2:=hid S2;clear S2 HTC;go_wp2_with fail;refine(Hl _ _).mono ?_;rintro e w3 ⟨⟨k3,rfl,hk3⟩,B3⟩;have S3:=HS2.out.below B3;have HDC:=hid (HDD.out w3 k3 hk3 (HG.out.2.below S3.lo));have HS3:=hid S3;clear HS2 HDD hk3 B3 S3;go_wp2_with fail;refine HDC.out.mono ?_;rintro e w4 ⟨rfl,B4⟩;have S4:=HS3.out.below B4;have HS4:=hid S4;have HY:=hid hy;clear HS3 HDC B4 S4 hy;cases y
 ·have HNM:Hid (64∉bn a):=by
   rcases HY.out with⟨_,h⟩ | ⟨h,_⟩
   ·exact h
   ·cases h
  have HHO:=hid (eV a hasz w0 w4 b { r with re:=t } ps HS4.out HG.out.1);clear HY;go_wp2_with fail;refine HHO.out.mono ?_;have HB:=hid (Jh HNM.out);clear HHO;rintro e w5 (⟨h1,h2,rfl,h3⟩ | ⟨h1,h,n,po,a0,a1,a2,a3,a4,a5,a6,a7,g1,rfl,g2,g3,g4,g5⟩)
  ·have HE:Hid ((hcut false (beh (bn a))).1=[]/\(hcut false (beh (bn a))).2.isSome=true/\Below w0.heap.size w0 w5):=⟨by rw[HB.out];exact h1,by rw[HB.out];exact h2,h3⟩;clear h1 h2 h3;go_wp2;go_ret;exact⟨bn a,HA.out,.inl ⟨.inr ⟨HE.out.1,HE.out.2.1⟩,rfl,HE.out.2.2⟩⟩
  ·have HE1:=hid h1;have HG1:=hid g1;have HG2:=hid g2;have HG3:=hid g3;have HG4:=hid g4;have HG5:=hid g5;clear h1 g1 g2 g3 g4 g5;go_wp2;go_ret;exact⟨bn a,HA.out,.inr ⟨fun hh=>HNM.out hh.1,by rw[HB.out];exact HE1.out,h,n,po,r.u.us,r.u.pa,t,a0,a1,a2,a3,a4,a5,a6,a7,by rw[HB.out];exact HG1.out,rfl,HG2.out,HG3.out,by rw[HB.out];exact HG4.out,HT.out,by rw[if_neg HNM.out];exact⟨rfl,rfl⟩,HG5.out⟩⟩
 ·have HM:Hid (64∈bn a/\bn us=ahd (bn a)/\bn d=beh (bn a)):=by
   rcases HY.out with⟨h,_⟩ | ⟨_,h⟩
   ·cases h
   ·exact h
  clear HY;by_cases hd0:d.size=0
  ·have he:=aC d hd0;have HE:Hid (beh (bn a)=[]):=by rw[<-HM.out.2.2];exact List.length_eq_zero_iff.1 ((aa d).trans hd0)
   clear hd0;go_wp2;go_ret;exact⟨bn a,HA.out,.inl ⟨.inl ⟨HM.out.1,HE.out⟩,rfl,HS4.out.lo⟩⟩
  ·have he:=ay d (Nat.pos_of_ne_zero hd0);have HE:Hid (beh (bn a)≠[]):=fun h=>hd0 (by rw[<-aa,HM.out.2.2,h];rfl);have hbl:(bn a).length<=100000:=by rw[aa];exact hasz
   have hdsz:d.size<=100000:=by rw[<-aa,HM.out.2.2];unfold beh;rw[length_reverse];exact le_trans (sa _) (by rw[length_reverse];exact hbl)
   have husz:us.size<=100000:=by rw[<-aa,HM.out.2.1];unfold ahd;rw[length_reverse,length_drop];have:=iM (f:=oP) (bn a).reverse;rw[length_reverse]at this;omega
   have HSU:=hid (uF us husz w0 w4 b { r with re:=t } ps HS4.out);have HHO:=hid (fun W r ps h=>eV d hdsz w0 W b r ps h HG.out.1);clear hd0 hbl hdsz husz HS4;go_wp2_with fail;refine HSU.out.mono ?_;rintro e w5 ⟨rfl,us2,pa2,u1,u2,S5⟩;have HU1:=hid u1;have HU2:=hid u2;have HHC:=hid (HHO.out w5 _ _ S5);clear u1 u2 S5 HSU HHO;go_wp2_with fail;refine HHC.out.mono ?_;clear HHC;rintro e w6 (⟨h1,h2,rfl,h3⟩ | ⟨h1,h,n,po,a0,a1,a2,a3,a4,a5,a6,a7,g1,rfl,g2,g3,g4,g5⟩)
   ·have HX:Hid ((hcut false (beh (bn a))).1=[]/\(hcut false (beh (bn a))).2.isSome=true/\Below w0.heap.size w0 w6):=⟨by rw[<-HM.out.2.2];exact h1,by rw[<-HM.out.2.2];exact h2,h3⟩;clear h1 h2 h3;go_wp2;go_ret;exact⟨bn a,HA.out,.inl ⟨.inr ⟨HX.out.1,HX.out.2.1⟩,rfl,HX.out.2.2⟩⟩
   ·have HE1:=hid h1;have HG1:=hid g1;have HG2:=hid g2;have HG3:=hid g3;have HG4:=hid g4;have HG5:=hid g5;clear h1 g1 g2 g3 g4 g5;go_wp2;go_ret;exact⟨bn a,HA.out,.inr ⟨fun hh=>HE.out hh.2,by rw[<-HM.out.2.2];exact HE1.out,h,n,po,us2,pa2,t,a0,a1,a2,a3,a4,a5,a6,a7,by rw[<-HM.out.2.2];exact HG1.out,rfl,HG2.out,HG3.out,by rw[<-HM.out.2.2];exact HG4.out,HT.out,by rw[if_pos HM.out.1];exact⟨by rw[HU1.out,HM.out.2.1],by rw[HU2.out,HM.out.2.1]⟩,HG5.out⟩⟩
theorem ye(w0 W:World)(b:Nat)(r:Rd)(ps:List ByteArray)(hS:St w0 b W r ps)(hh:r.u.hh=false):Calls prog 47 #[.pointer (some ⟨b,0,none⟩)] W fun e W'=>e=.returned (.int .i64 0)/\St w0 b W' r ps:=by have HS:=hid hS;obtain⟨F3,_⟩:=hS.cell 3 (.bool false) (by show some (Value.bool r.u.hh)=_;rw[hh]);clear hS hh;go_enter func47,ntmps47;go_wp2;go_ret;exact⟨rfl,HS.out⟩
def SC(w0:World)(b:Nat)(r:Rd)(ps:List ByteArray)(e:Ending)(W':World):Prop :=
  (e=.returned (.int .i64 0)/\∃(h:Bool) (n:Nat),St w0 b W' { r with u:={ r.u with hp:=h,pr:=n } } ps/\(if bn r.po=[] then (h,n)=(false,0) else (bn r.po).all ten=true/\vl 10 (bn r.po)<=65535/\(h,n)=if own (bn r.u.sc)=some (vl 10 (bn r.po)) then (false,0) else (true,vl 10 (bn r.po)))) \/
  (e=.returned (.int .i64 131)/\bn r.po≠[]/\¬ ((bn r.po).all ten=true/\vl 10 (bn r.po)<=65535)/\Below w0.heap.size w0 W')
theorem Bj(w0 W:World)(b:Nat)(r:Rd)(ps:List ByteArray)(hS:St w0 b W r ps)(hs:r.po.size<=100000)(hsp:r.sp=(own (bn r.u.sc)).isSome)(hp:r.u.hp=false)(hq:r.u.pr=0)(hG:GU w0):Calls prog 48 #[.pointer (some ⟨b,0,none⟩)] W fun e W'=>SC w0 b r ps e W':=by
 obtain⟨F27,_⟩:=hS.cell 27 (.string r.po) rfl;have HS:=hid hS;have HSL:=hid hS.lo;by_cases h0:r.po.size=0
 ·have he:=aC r.po h0;have HE:Hid (bn r.po=[]):=List.length_eq_zero_iff.1 ((aa r.po).trans h0);have hr:({ r with u:={ r.u with hp:=false,pr:=0 } }:Rd)=r:=by rw[<-hp,<-hq]
  have HR:=hid hr;clear h0 hS hp hq hsp hr;go_enter func48,ntmps48;go_wp2;go_ret;exact .inl ⟨rfl,false,0,by rw[HR.out];exact HS.out,by rw[if_pos HE.out]⟩
 ·have he:=ay r.po (Nat.pos_of_ne_zero h0);have hne:bn r.po≠[]:=fun h=>h0 (by rw[<-aa,h];rfl);have HNE:=hid hne;rcases jM r.po hne with⟨c1,c2,c3⟩ | ⟨c1,c2⟩
  ·have HPU:=hid (fun W=>zU r.po (by omega) _ c3 W);obtain⟨v,hv⟩:=Ex' (vl 10 (bn r.po));rw[hv]at HPU c2;have HC:=hid (show(bn r.po).all ten=true/\v<=65535 from⟨c1,c2⟩);have HVV:=hid hv;have HPO:=hid (fun W=>oB r.u.sc W);have HSP:=hid hsp;have HHP:=hid hp;have HHQ:=hid hq;clear c1 c3 hv h0 hne hS hsp hp hq;go_enter func48,ntmps48;go_wp2_with fail;refine(HPU.out _).mono ?_;rintro e w1 ⟨rfl,B1⟩;have S1:=HS.out.below B1;obtain⟨F0,_⟩:=S1.cell 0 (.string r.u.sc) rfl;obtain⟨F25,_⟩:=S1.cell 25 (.bool r.sp) rfl;obtain⟨F15,Z15⟩:=S1.cell 15 (.bool r.u.hp) rfl;obtain⟨V1,hV1⟩:=Ex' (w1.setCell ⟨b,15,none⟩ (.bool true));have S2:=S1.put 15 (.bool true) { r with u:={ r.u with hp:=true } } rfl rfl;rw[hV1]at S2;obtain⟨F16,Z16⟩:=S2.cell 16 (.int .u16 (r.u.pr:Nat)) rfl;have HEND:=hid (S2.put 16 (.int .u16 (v:Nat)) { r with u:={ r.u with hp:=true,pr:=v } } rfl rfl);have HS1:=hid S1;have hw16:IntKind.u16.wrap (v:Int)=(v:Int):=by rw[IntKind.wrap_u16];omega
   clear B1 S1 S2 HS HPU F27;by_cases hown:own (bn r.u.sc)=some v
   ·have hsp2:r.sp=true:=by rw[HSP.out,hown];rfl
    rw[hsp2]at F25;rw[hown]at HPO;have HO:=hid hown;have hr:({ r with u:={ r.u with hp:=false,pr:=0 } }:Rd)=r:=by rw[<-HHP.out,<-HHQ.out]
    have HR:=hid hr;clear hsp2 hown hr hV1 F16 Z16 F15 Z15 HEND HSP;go_wp2_with(go_at_call 13;refine(HPO.out _).mono ?_;rintro e w3 ⟨rfl,hw⟩;obtain rfl:=hw.symm);go_ret;exact .inl ⟨rfl,false,0,by rw[HR.out];exact HS1.out,by rw[if_neg HNE.out,HVV.out,if_pos HO.out];exact⟨HC.out.1,HC.out.2,rfl⟩⟩
   ·obtain⟨p,hp⟩:=Ex' ((own (bn r.u.sc)).getD 0:Nat);obtain⟨o,ho⟩:=Ex' ((own (bn r.u.sc)).isSome);have HO:=hid hown
    have hcond:r.sp=false\/r.sp=true/\((v:Int)==(p:Int))=false:=by
     rw[HSP.out,ho];cases o
     ·exact .inl rfl
     ·refine .inr ⟨rfl,beq_eq_false_iff_ne.2 (fun e=>hown ?_)⟩;obtain⟨q,hq⟩:=Option.isSome_iff_exists.1 ho;rw[hq]at hp;have:q=p:=hp;rw[hq,this];exact congrArg some (by omega)
    rw[hp,ho]at HPO;clear hown hp ho HSP;rcases hcond with hsp2 | ⟨hsp2,hne2⟩
    all_goals (
      rw[hsp2]at F25
      clear hsp2
      go_wp2_with(go_at_call 13;refine(HPO.out _).mono ?_;rintro e w3 ⟨rfl,hw⟩;obtain rfl:=hw.symm)
      go_ret
      exact .inl ⟨rfl,true,v,HEND.out,by rw[if_neg HNE.out,HVV.out,if_neg HO.out];exact⟨HC.out.1,HC.out.2,rfl⟩⟩)
  ·have HPU:=hid (fun W h=>mQ r.po (by omega) c2 W h);have HC:=hid c1;have HER:=hid (fun(W:World) (h:Below w0.heap.size w0 W)=>(hG.1.below h).2.2.2.1);clear c1 c2 h0 hne hsp hp hq hS hG;go_enter func48,ntmps48;go_wp2_with fail;refine(HPU.out _ (HER.out _ HSL.out)).mono ?_;rintro e w1 ⟨⟨x,T,p,_,rfl⟩,B1⟩;have HB:=Bt' HSL B1;clear B1;go_wp2;go_ret;exact .inr ⟨rfl,HNE.out,HC.out,HB.out⟩
end Y
namespace Cn
open F (bn aa aO bC hid)
open H (Hst)
set_option linter.unusedSimpArgs false
theorem OQ{l:List Int}(h0:l≠[])(h5:l.length<=5)(h1:l.all F.ten=true)(h2:F.vl 10 l<=65535):pt l=F.vl 10 l:=by unfold pt;exact if_pos ⟨List.length_pos_iff.2 h0,h5,h1,h2⟩
theorem Fl{l:List Int}(h:l=[]\/5<l.length\/¬ (l.all F.ten=true/\F.vl 10 l<=65535)):pt l=0:=by
 unfold pt;refine if_neg (fun⟨g1,g2,g3,g4⟩=>?_);rcases h with rfl | h | h
 ·simp at g1
 ·omega
 ·exact h ⟨g3,g4⟩
theorem Pv:∀ u,Lib.parseUintB 16 (⟨#[]⟩:ByteArray).data.toList≠.ok u:=by intro u h;cases h
theorem cC(t:ByteArray)(ht:t.size<=1000000)(w:World)(hE:X.Er w):Calls prog 21 #[.string t] w fun e W'=>e=.returned (.int .u16 ((pt (bn t):Nat):Int))/\Below w.heap.size w W':=by
 by_cases hg:bn t≠[]/\(bn t).all F.ten=true/\F.vl 10 (bn t)<=65535
 ·obtain⟨g1,g2,g3⟩:=hg;obtain⟨v,hv⟩:=Ex' (F.vl 10 (bn t))
  have HPU:Hid (Calls prog 35 #[.string t,.int .i64 10,.int .i64 16] w fun e W'=>e=.returned (.tuple #[.int .u64 v,.nilIface])/\Below w.heap.size w W'):=by
   rcases Y.jM t g1 with⟨c1,c2,c3⟩ | ⟨c1,c2⟩
   ·rw[hv]at c3;exact Y.zU t (by omega) _ c3 w
   ·exact absurd ⟨g2,g3⟩ c1
  rw[hv]at g3;have hwp:IntKind.u16.wrap ((v:Nat):Int)=v:=by simp[IntKind.wrap,IntKind.bits,IntKind.signed];omega
  by_cases h5:t.size<=5
  ·have hz:¬ (5:Int)<(t.size:Int):=by omega
   have HR:Hid (pt (bn t)=v):=by show _=_;rw[OQ g1 (by rw[aa];exact h5) g2 (by rw[hv];exact g3),hv]
   clear hv g1 g2 hE;go_enter func21,ntmps21;go_wp2_with fail;refine HPU.out.mono ?_;rintro e w1 ⟨rfl,B⟩;have HB:=hid B;clear B HPU;go_wp2;go_ret;exact⟨by rw[HR.out];rfl,HB.out⟩
  ·have hz:(5:Int)<(t.size:Int):=by omega
   have HR:Hid (pt (bn t)=0):=by show _=_;exact Fl (.inr (.inl (by rw[aa];omega)))
   clear hv g1 g2 hE;go_enter func21,ntmps21;go_wp2_with fail;refine HPU.out.mono ?_;rintro e w1 ⟨rfl,B⟩;have HB:=hid B;clear B HPU;go_wp2;go_ret;exact⟨by rw[HR.out];rfl,HB.out⟩
 ·have hno:∀ u,Lib.parseUintB 16 t.data.toList≠.ok u:=by
   by_cases h0:bn t=[]
   ·have e:t=⟨#[]⟩:=bC (h0.trans rfl);rw[e];exact Pv
   ·rcases Y.jM t h0 with⟨c1,c2,c3⟩ | ⟨c1,c2⟩
    ·exact absurd ⟨h0,c1,c2⟩ hg
    ·exact c2
  have HPU:=hid (Y.mQ t (by omega) hno w hE)
  have HR:Hid (pt (bn t)=0):=by
   show _=_;by_cases h0:bn t=[]
   ·exact Fl (.inl h0)
   ·exact Fl (.inr (.inr (fun h=>hg ⟨h0,h⟩)))
  clear hg hno hE;go_enter func21,ntmps21;go_wp2_with fail;refine HPU.out.mono ?_;rintro e w1 ⟨⟨x,T,p,_,rfl⟩,B⟩;have HB:=hid B;clear B HPU;go_wp2;go_ret;exact⟨by rw[HR.out];rfl,HB.out⟩
theorem iu(a:Tg)(h:Hst)(p:Nat)(w:World)(ht:Tv a h p)(hl:Lm a)(hG:H.GH w):Calls prog 9 #[.agg (Tg.cs a)] w fun e W'=>(∃ t,e=.returned (.string t)/\bn t=ttx h p)/\Below w.heap.size w W':=by
 obtain⟨l1,l2,l3,l4,l5⟩:=hl;obtain⟨V,hV⟩:=Ex' (w.alloc (.cells (Tg.cs a) 29));have R0:V.heap[w.heap.size]? = some (.cells (Tg.cs a) 29 (0,0)):=by rw[<-hV];exact aK w _ _
 have HB0:Hid (Below w.heap.size w V):=by show Below _ _ _;rw[<-hV];exact(Below.refl _ w).alloc (le_refl _) _
 have HGV:Hid (∀ X,Below V.heap.size V X->H.GH X):=fun X h=>(hG.below HB0.out).below h
 have HHT:Hid (∀ X,Below V.heap.size V X->Calls prog 22 #[.agg (Tg.hs a).toList.toArray] X fun e W'=>H.mK (a.k,bn a.nm,a.f,[a.x0,a.x1,a.x2,a.x3,a.x4,a.x5,a.x6,a.x7],0) X e W'):=fun X h =>
  H.kh a.k a.nm a.f a.x0 a.x1 a.x2 a.x3 a.x4 a.x5 a.x6 a.x7 l1 l3 l4 l5 X (HGV.out X h)
 have HIT:Hid (∀ X,Below V.heap.size V X->Calls prog 23 #[.int .i64 (a.p:Nat)] X fun e W'=>(∃ t,e=.returned (.string t)/\bn t=F.wr 10 a.p)/\Below X.heap.size X W'):=fun X h=>Y.Hv a.p (by omega) X (HGV.out X h).1
 have HFIN:Hid (∀(t u:ByteArray),bn t=H.txt (a.k,bn a.nm,a.f,[a.x0,a.x1,a.x2,a.x3,a.x4,a.x5,a.x6,a.x7],0)->bn u=F.wr 10 a.p->bn (t++⟨#[58]⟩++u)=ttx h p):=fun t u h1 h2=>by
  have e:H.txt (a.k,bn a.nm,a.f,[a.x0,a.x1,a.x2,a.x3,a.x4,a.x5,a.x6,a.x7],0)=H.txt h:=by unfold H.txt;simp only;rw[ht.k,ht.n,ht.f,ht.x]
  unfold ttx;rw[aO,aO,h1,h2,e,ht.p,append_assoc];rfl
 have HZ:Hid (∀ t u:ByteArray,bn t=H.txt (a.k,bn a.nm,a.f,[a.x0,a.x1,a.x2,a.x3,a.x4,a.x5,a.x6,a.x7],0)->¬ 9223372036854775807<t.size+1/\(bn u=F.wr 10 a.p->¬ 9223372036854775807<t.size+1+u.size)):=fun t u h1=>by
  have z1:t.size<=400000000:=by rw[<-aa,h1];exact H.wm (by rw[aa];exact l1) l4 rfl
  refine⟨by omega,fun h2=>?_⟩;have z2:u.size<=1000:=by rw[<-aa,h2];exact Y.nH a.p (by omega)
  omega
 have HSK:Hid (∀ X,Below V.heap.size V X->X.rangeAt w.heap.size 0 (Tg.hs a).toList/\X.cell? ⟨w.heap.size,11,none⟩=some (.int .u16 (a.p:Nat))):=fun X h=>by have h2:=kept R0 h;exact⟨mY h2,cell_of_row _ _ 11 _ _ _ h2⟩
 have HHI:Hid ((prog.info? 27).map (·.size)=some (Tg.hs a).toList.length):=by show _=_;rw[length_toList];exact aD a
 have hwp:IntKind.i64.wrap ((a.p:Nat):Int)=a.p:=by simp[IntKind.wrap,IntKind.bits,IntKind.signed];omega
 have hBB:Below V.heap.size V V.drew:=⟨rfl,rfl,rfl,le_refl _,fun _ _=>rfl⟩;clear l1 l3 l4 l5 ht hG R0;have e1:=enters_of func22 (by kernel_rfl) rfl;have e2:=enters_of func23 (by kernel_rfl) rfl;go_enter func9,ntmps9;go_wp2_with fail;clear hV;refine wp_region_held_drew (S:=fun w'=>w'.rangeAt w.heap.size 0 (Tg.hs a).toList/\w'.cell? ⟨w.heap.size,11,none⟩=some (.int .u16 (a.p:Nat))) (by kernel_rfl) (HSK.out _ hBB) (fun hS=>?_);show wpAnyH _ _ _ _ _ 10 _ _ _;refine wpAnyH_take (i:=0) (v:=.pointer (some ⟨w.heap.size,0,none⟩)) rfl (by kernel_rfl) (by kernel_rfl) (by kernel_rfl) (fun _ _ _ h=>h) (Or.inl ⟨by rfl,fun w' hSw=>by(try dsimp only at hSw);go_simp⟩) hS ?_;refine wpAnyH_take (i:=1) (v:=.agg (Tg.hs a).toList.toArray) rfl (by kernel_rfl) (by kernel_rfl) (by kernel_rfl) (fun _ _ _ h=>h) (yieldsIf_load_mid (by rfl) _ _ rfl _ _ rfl _ _ (fun w' h=>h.1) underlying27 rfl HHI.out) hS ?_;refine wpAnyH_take (i:=4) (v:=.pointer (some ⟨w.heap.size,11,none⟩)) rfl (by kernel_rfl) (by kernel_rfl) (by kernel_rfl) (fun _ _ _ h=>h) (Or.inl ⟨by rfl,fun w' hSw=>by(try dsimp only at hSw);go_simp⟩) hS ?_;refine wpAnyH_take (i:=5) (v:=.int .u16 (a.p:Nat)) rfl (by kernel_rfl) (by kernel_rfl) (by kernel_rfl) (fun _ _ _ h=>h) (Or.inl ⟨by rfl,fun w' hSw=>by(try dsimp only at hSw);go_simp⟩) hS ?_;refine wpAnyH_take (i:=6) (v:=.int .i64 (a.p:Nat)) rfl (by kernel_rfl) (by kernel_rfl) (by kernel_rfl) (fun _ _ _ h=>h) (Or.inl ⟨by rfl,fun w' hSw=>by(try dsimp only at hSw);go_simp⟩) hS ?_;refine wpAnyH_ready (rs:=[2]) (by kernel_rfl) (by simp) (AllReadyH.cons rfl (fun K hK=>?_) AllReadyH.nil);go_simp;go_at_call 22;refine(HHT.out _ hBB).mono ?_;rintro e w' ⟨⟨t,rfl,ht⟩,hb⟩;replace hBB:=Y.fe hBB hb;have hz0:=(HZ.out t t ht).1;refine hK.out _ _ (HSK.out _ hBB) (fun hS=>?_);refine wpAnyH_take (i:=3) (v:=.string (t++⟨#[58]⟩)) rfl (by kernel_rfl) (by kernel_rfl) (by kernel_rfl) (fun _ _ _ h=>h) (Or.inl ⟨by rfl,fun w' hSw=>by(try dsimp only at hSw);go_simp⟩) hS ?_;refine wpAnyH_ready (rs:=[7]) (by kernel_rfl) (by simp) (AllReadyH.cons rfl (fun K hK=>?_) AllReadyH.nil);go_simp;go_at_call 23;refine(HIT.out _ hBB).mono ?_;rintro e w' ⟨⟨u,rfl,hu⟩,hb⟩;replace hBB:=Y.fe hBB hb;have hz2:=(HZ.out t u ht).2 hu;refine hK.out _ _ (HSK.out _ hBB) (fun hS=>?_);refine wpAnyH_take (i:=8) (v:=.string (t++⟨#[58]⟩++u)) rfl (by kernel_rfl) (by kernel_rfl) (by kernel_rfl) (fun _ _ _ h=>h) (Or.inl ⟨by rfl,fun w' hSw=>by(try dsimp only at hSw);go_simp⟩) hS ?_;refine wpAnyH_take (i:=9) (v:=.string (t++⟨#[58]⟩++u)) rfl (by kernel_rfl) (by kernel_rfl) (by kernel_rfl) (fun _ _ _ h=>h) (Or.inl ⟨by rfl,fun w' hSw=>by(try dsimp only at hSw);go_simp⟩) hS ?_;refine wpAnyH_done (by kernel_rfl) ?_ _;go_wp2;go_ret;exact⟨⟨_,rfl,HFIN.out t u ht hu⟩,HB0.out.trans (hBB.mono HB0.out.size)⟩
end Cn
end Go.Proofs.YtmkompnhefhngaaGreatDoor
namespace Go.Proofs
open Go.Shelf Go.RowKit
shelf_lay Lays.n155 Nm 155 at Tryz as Tryz.laysRep
end Go.Proofs
namespace Go.Proofs.YtmkompnhefhngaaGreatDoor
open Go.Proofs.Tryz Go.RowKit
namespace Y
open Go.RowKit Go.Shelf
open F (bn)
def rb(e:UInt8):List UInt8->List UInt8
 | []=>[]
 | [a]=>[a]
 | [a,b]=>[a,b]
 | c::a::b::t=>if c=37/\a=50/\b=e then 46::rb e t else c::rb e (a::b::t)
def rp(e:Int):List Int->List Int
 | []=>[]
 | [a]=>[a]
 | [a,b]=>[a,b]
 | c::a::b::t=>if c=37/\a=50/\b=e then 46::rp e t else c::rp e (a::b::t)
theorem sA(e:UInt8):∀(n:Nat) (l:List UInt8),l.length<=n->Lib.replaceK [37,50,e] [46] (Lib.count l [37,50,e]) l=rb e l
 | n,[],_=>by
  have hi:Lib.index [] [37,50,e]=-1:=rfl;rw[count_miss hi];rfl
 | n,[a],_=>by
  have hi:Lib.index [a] [37,50,e]=-1:=by simp[Lib.index,List.isPrefixOf]
  rw[count_miss hi];rfl
 | n,[a,b],_=>by
  have hi:Lib.index [a,b] [37,50,e]=-1:=by simp[Lib.index,List.isPrefixOf]
  rw[count_miss hi];rfl
 | 0,c::a::b::t,h=>by simp at h
 | n+1,c::a::b::t,h=>by
  have hp:([37,50,e]:List UInt8).isPrefixOf (c::a::b::t)=decide (c=37/\a=50/\b=e):=by
   rw[Bool.eq_iff_iff,decide_eq_true_iff];simp[List.isPrefixOf];constructor
   ·rintro⟨h1,h2,h3⟩;exact⟨h1.symm,h2.symm,h3.symm⟩
   ·rintro⟨h1,h2,h3⟩;exact⟨h1.symm,h2.symm,h3.symm⟩
  have ih1:=sA e n t (by simp at h;omega);have ih2:=sA e n (a::b::t) (by simp at h ⊢;omega);unfold rb;by_cases hh:c=37/\a=50/\b=e
  ·have hi:Lib.index (c::a::b::t) [37,50,e]=((0:Nat):Int):=by rw[Lib.index,hp,decide_eq_true hh,if_pos rfl];rfl
   rw[if_pos hh,Lib.count_hit (by simp) hi,add_comm 1,Lib.replaceK_hit _ _ _ _ 0 hi];show []++[46]++Lib.replaceK _ _ (Lib.count t _) t=_;rw[ih1];rfl
  ·rw[if_neg hh];have hi0:Lib.index (c::a::b::t) [37,50,e]=if Lib.index (a::b::t) [37,50,e]==-1 then -1 else Lib.index (a::b::t) [37,50,e]+1:=by rw[Lib.index,hp,decide_eq_false hh,if_neg (by simp)]
   by_cases hm:Lib.index (a::b::t) [37,50,e]=-1
   ·rw[hm]at hi0;have hi:Lib.index (c::a::b::t) [37,50,e]=-1:=hi0;rw[count_miss hm]at ih2;rw[count_miss hi,<-ih2];rfl
   ·have hge:=Lib.index_ge (a::b::t) [37,50,e];obtain⟨i,hii⟩:∃ i:Nat,Lib.index (a::b::t) [37,50,e]=i:=⟨(Lib.index (a::b::t) [37,50,e]).toNat,by omega⟩;rw[if_neg (by simpa using hm),hii]at hi0;have hi:Lib.index (c::a::b::t) [37,50,e]=((i+1:Nat):Int):=by rw[hi0];omega
    rw[Lib.count_hit (by simp) hii,add_comm 1,Lib.replaceK_hit _ _ _ _ i hii]at ih2;rw[Lib.count_hit (by simp) hi,add_comm 1,Lib.replaceK_hit _ _ _ _ (i+1) hi,<-ih2];rw[show i+1+[37,50,e].length=(i+[37,50,e].length)+1 by omega,List.drop_succ_cons,List.take_succ_cons];rfl
theorem Fh(e:UInt8):∀(n:Nat) (l:List UInt8),l.length<=n->(rb e l).map (fun c:UInt8=>(c.toNat:Int))=rp (e.toNat:Int) (l.map (fun c:UInt8=>(c.toNat:Int)))
 | n,[],_=>rfl
 | n,[a],_=>rfl
 | n,[a,b],_=>rfl
 | 0,c::a::b::t,h=>by simp at h
 | n+1,c::a::b::t,h=>by
  have ih1:=Fh e n t (by simp at h;omega);have ih2:=Fh e n (a::b::t) (by simp at h ⊢;omega);have hi:∀ {x y:UInt8},(x.toNat:Int)=(y.toNat:Int)↔x=y:=fun {x y}=>⟨fun h=>UInt8.toNat_inj.1 (by omega),fun h=>by rw[h]⟩;simp only[map_cons]at ih2 ⊢;unfold rb rp;have hc:((c.toNat:Int)=37/\(a.toNat:Int)=50/\(b.toNat:Int)=(e.toNat:Int))↔(c=37/\a=50/\b=e):=by rw[show(37:Int)=((37:UInt8).toNat:Int) from rfl,show(50:Int)=((50:UInt8).toNat:Int) from rfl,hi,hi,hi]
  by_cases hh:c=37/\a=50/\b=e
  ·rw[if_pos hh,if_pos (hc.2 hh),map_cons,ih1];rfl
  ·rw[if_neg hh,if_neg (fun h=>hh (hc.1 h)),map_cons,ih2]
theorem uJ{e c:Int}(h:c≠37):∀ y:List Int,rp e (c::y)=c::rp e y
 | []=>rfl
 | [_]=>rfl
 | a::b::t=>by show(if c=37/\a=50/\b=e then _ else _)=_;rw[if_neg (fun hh=>h hh.1)]
theorem zP{e c d:Int}{y z:List Int}(h:rp e (c::y)=d::z):d=c\/d=46:=by
 match y,h with
 | [],h=>injection h with h _;exact .inl h.symm
 | [_],h=>injection h with h _;exact .inl h.symm
 | a::b::t,h =>
  unfold rp at h;split at h
  ·injection h with h _;exact .inr h.symm
  ·injection h with h _;exact .inl h.symm
theorem Rh{e c:Int}{y:List Int}(h:∀ z,y≠50::e::z):rp e (c::y)=c::rp e y:=by
 match y,h with
 | [],_=>rfl
 | [_],_=>rfl
 | a::b::t,h =>
  show(if c=37/\a=50/\b=e then _ else _)=_;rw[if_neg (fun hh=>h t (by rw[hh.2.1,hh.2.2]))]
theorem xT:∀(n:Nat) (x:List Int),x.length<=n->rp 69 (rp 101 x)=dot x
 | n,[],_=>rfl
 | n,[a],_=>rfl
 | n,[a,b],_=>rfl
 | 0,c::a::b::t,h=>by simp at h
 | n+1,c::a::b::t,h=>by
  have ih1:=xT n t (by simp at h;omega);have ih2:=xT n (a::b::t) (by simp at h ⊢;omega);by_cases h1:c=37/\a=50/\b=101
  ·have e1:rp 101 (c::a::b::t)=46::rp 101 t:=by show(if c=37/\a=50/\b=101 then _ else _)=_;rw[if_pos h1]
   have e2:dot (c::a::b::t)=46::dot t:=by show(if c=37/\a=50/\(b=101\/b=69) then _ else _)=_;rw[if_pos ⟨h1.1,h1.2.1,.inl h1.2.2⟩]
   rw[e1,e2,uJ (by decide),ih1]
  ·have e1:rp 101 (c::a::b::t)=c::rp 101 (a::b::t):=by show(if c=37/\a=50/\b=101 then _ else _)=_;rw[if_neg h1]
   by_cases h2:c=37/\a=50/\b=69
   ·obtain⟨rfl,rfl,rfl⟩:=h2;have e2:dot (37::50::69::t)=46::dot t:=by show(if _ then _ else _)=_;rw[if_pos ⟨rfl,rfl,.inr rfl⟩]
    have e3:rp 69 (37::50::69::rp 101 t)=46::rp 69 (rp 101 t):=by show(if _ then _ else _)=_;rw[if_pos ⟨rfl,rfl,rfl⟩]
    have e4:rp 101 (50::69::t)=50::69::rp 101 t:=by rw[uJ (by decide),uJ (by decide)]
    rw[e1,e4,e3,ih1,e2]
   ·have e2:dot (c::a::b::t)=c::dot (a::b::t):=by show(if _ then _ else _)=_;rw[if_neg (fun hh=>hh.2.2.elim (fun q=>h1 ⟨hh.1,hh.2.1,q⟩) (fun q=>h2 ⟨hh.1,hh.2.1,q⟩))]
    rw[e1,e2,<-ih2];by_cases hc:c=37
    ·refine Rh (fun z hz=>?_);rcases zP hz with h3 | h3
     ·have ha:a=50:=h3.symm;rw[ha,uJ (by decide)]at hz;injection hz with _ hz
      rcases zP hz with h4 | h4
      ·exact h2 ⟨hc,ha,h4.symm⟩
      ·cases h4
     ·cases h3
    ·exact uJ hc _
theorem xS(e:Int):∀(n:Nat) (x:List Int),x.length<=n->(rp e x).length<=x.length
 | n,[],_=>le_refl _
 | n,[a],_=>le_refl _
 | n,[a,b],_=>le_refl _
 | 0,c::a::b::t,h=>by simp at h
 | n+1,c::a::b::t,h=>by
  have ih1:=xS e n t (by simp at h;omega);have ih2:=xS e n (a::b::t) (by simp at h ⊢;omega);show(if c=37/\a=50/\b=e then 46::rp e t else c::rp e (a::b::t)).length<=_;split
  ·simp only[length_cons];omega
  ·simp only[length_cons]at ih2 ⊢;omega
theorem Se:Builder.Extra prog Tryz.laysRep_ren where
 sizeBuilder:=by kernel_rfl
 liesBuilder:=by kernel_rfl
 t5:=by kernel_rfl
 a5:=fun w=>by kernel_rfl
 z5:=fun w=>by kernel_rfl
 v5:=fun w=>by kernel_rfl
 infoByte:=by kernel_rfl
 cellsByte:=by kernel_rfl
 sizeByte:=by kernel_rfl
 neB5:=by decide
theorem uL(s:ByteArray)(e:UInt8)(hs:s.size<=400000000)(w:World)(hM:F.Max w):Calls prog 156 #[.string s,.string ⟨#[37,50,e]⟩,.string ⟨#[46]⟩] w fun r W'=>(∃ t,r=.returned (.string t)/\bn t=rp (e.toNat:Int) (bn s))/\Below w.heap.size w W':=by
 obtain⟨m,hm⟩:=hM;have hf:Tryz.laysRep_ren.f 155=156:=by kernel_rfl
 have h1:Tryz.laysRep_ren.g 1=0:=by kernel_rfl
 have hc:=Lib.countB_mul_le ⟨#[37,50,e]⟩ (by show 1<=3;decide) s.size s (le_refl _);have h3:(⟨#[37,50,e]⟩:ByteArray).size=3:=rfl;have h4:(⟨#[46]⟩:ByteArray).size=1:=rfl;rw[h3]at hc;have h:=Any.strings_ReplaceAll Tryz.laysRep Se s ⟨#[37,50,e]⟩ ⟨#[46]⟩ m w (by omega) (by rw[h1];exact hm) (by show 1<=3;decide) (by rw[h4];omega);rw[hf]at h;refine h.mono ?_;rintro r W' ⟨rfl,hB⟩;refine⟨⟨_,rfl,?_⟩,hB⟩;have he:Lib.replaceAll s.data.toList [37,50,e] [46]=rb e s.data.toList:=by unfold Lib.replaceAll Lib.replace Lib.replaceNum;rw[if_neg (by simp),if_pos (.inl (by decide))];exact sA e _ _ (le_refl _)
 show(Lib.replaceAll s.data.toList [37,50,e] [46]).map (fun c:UInt8=>(c.toNat:Int))=_;rw[he,Fh e _ _ (le_refl _)];rfl
open F (bn aa hid)
def stp(acc:List (List Int))(x:List Int)(last:Bool):List (List Int) :=
 if dot x=[46,46] then (if last=true then acc.dropLast++[[]] else acc.dropLast) else if dot x=[46] then (if last=true then acc++[[]] else acc) else acc++[E.en 4 (U.dec x)]
theorem Af(acc:List (List Int))(x:List Int)(t:List (List Int)):nrm acc (x::t)=nrm (stp acc x (decide (t=[]))) t:=by
 show(if dot x=[46] then _ else if dot x=[46,46] then _ else _)=_;unfold stp;by_cases h1:dot x=[46]
 ·have h2:dot x≠[46,46]:=by rw[h1];decide
  rw[if_pos h1,if_neg h2,if_pos h1];by_cases ht:t=[]
  ·rw[if_pos ht,decide_eq_true ht,if_pos rfl]
  ·rw[if_neg ht,decide_eq_false ht,if_neg (by simp)]
 ·rw[if_neg h1];by_cases h2:dot x=[46,46]
  ·rw[if_pos h2,if_pos h2];by_cases ht:t=[]
   ·rw[if_pos ht,decide_eq_true ht,if_pos rfl]
   ·rw[if_neg ht,decide_eq_false ht,if_neg (by simp)]
  ·rw[if_neg h2,if_neg h2,if_neg h1]
def RZ(w0:World)(b:Nat)(r:Rd)(ps:List ByteArray)(x:List Int)(last:Bool)(e:Ending)(W':World):Prop :=
 e=.returned (.tuple #[])/\∃(v:Value) (qs:List ByteArray),qs.map bn=stp (ps.map bn) x last/\St w0 b W' { r with u:={ r.u with pv:=v } } qs
def Kb(b:Nat)(W V:World):Prop:=V.heap[b]? = W.heap[b]? /\ V.heap[b+1]? = W.heap[b+1]?
theorem Kb.trans{b:Nat}{A B C:World}(h:Kb b B C)(k:Kb b A B):Kb b A C:=⟨h.1.trans k.1,h.2.trans k.2⟩
theorem Kb.of{w0 W V:World}{b:Nat}{r:Rd}{ps:List ByteArray}(h:St w0 b W r ps)(hb:Below W.heap.size W V):Kb b W V:=⟨hb.block b h.lt,hb.block (b+1) (h.ks.elim fun _ k=>(Array.getElem?_eq_some_iff.1 k).1)⟩
theorem St.path{w0 W V:World}{b:Nat}{r:Rd}{ps:List ByteArray}(h:St w0 b W r ps){v:Value}{qs:List ByteArray}(hk:Kb b W V)(hlo:Below w0.heap.size w0 V)(how:V.ownsRow (b+2) 9 1 v qs.length (qs.map Value.string)):St w0 b (V.setCell ⟨b,18,none⟩ v) { r with u:={ r.u with pv:=v } } qs:=by refine⟨(heap_setCell_same V b 18 _ _ v (hk.1.trans h.row)).trans rfl,hlo.setCell (p:=⟨b,18,none⟩) h.hb v,h.hb,h.ks.imp (fun T k=>(heap_setCell_other V ⟨b,18,none⟩ (b+1) v (by show b+1≠b;omega)).trans (hk.2.trans k)),ownsRow_setCell_below how (a:=⟨b,18,none⟩) (by show b<b+2;omega) v⟩
theorem Ln{W:World}{B:Nat}{ad:Option Addr}{n c:Nat}{ps:List ByteArray}(h:W.ownsRow B 9 1 (.slice ad n c) n (ps.map Value.string))(hn:n=ps.length):W.ownsRow B 9 1 (.slice ad (n - 1) c) (n - 1) (ps.dropLast.map Value.string):=by
 refine⟨by rw[length_map,List.length_dropLast];omega,?_⟩;rcases h.2 with⟨h1,h2⟩ | ⟨g,cap,cur,h1,h2,h3,h4,h5,h6,h7⟩
 ·injection h1 with e1 e2 e3
  subst e1 e2 e3;exact .inl ⟨rfl,rfl⟩
 ·injection h1 with e1 _ e3
  subst e1 e3;refine .inr ⟨g,c,cur,rfl,h2,h3,by omega,h5,h6,?_⟩;rw[Nat.mul_one]at h6 h7 ⊢;have hcl:cur.toList.length=c:=by rw[length_toList,h6]
  rw[map_dropLast,<-h7,List.dropLast_eq_take,List.length_take,List.take_take,hcl];congr 1;omega
theorem St.grow{w0 V w':World}{b:Nat}{r:Rd}{ps qs:List ByteArray}{v:Value}{m:Nat}(h:St w0 b V r ps)(how:V.ownsRow (b+2) 9 1 v m (qs.map Value.string))(g:V.grownBy w' v.ownBlock):Kb b V w'/\Below w0.heap.size w0 w':=by
 have hv:∀ k,v.ownBlock=some k->b+2<=k:=fun k hk=>by
  rcases how.2 with⟨h1,_⟩ | ⟨g,cap,cur,h1,h2,_⟩
  ·rw[h1]at hk;cases hk
  ·rw[h1]at hk;have:g=k:=Option.some.inj hk;omega
 have hb:=h.hb;have hl:=h.lt;have hl1:b+1<V.heap.size:=h.ks.elim fun _ k=>(Array.getElem?_eq_some_iff.1 k).1;refine⟨⟨g.block b hl (fun e=>?_),g.block (b+1) hl1 (fun e=>?_)⟩,h.lo.grown g h.lo.size (fun k hk=>?_)⟩
 ·have:=hv b e.symm;omega
 ·have:=hv (b+1) e.symm;omega
 ·have:=hv k hk;omega
theorem kB{W:World}{B n:Nat}{v:Value}{xs:List Value}(h:W.ownsRow B 9 1 v n xs):∃ ad c,v=.slice ad n c:=by
 rcases h.2 with⟨h1,h2⟩ | ⟨g,cap,cur,h1,_⟩
 ·exact⟨none,0,by rw[h1,h2]⟩
 ·exact⟨_,cap,h1⟩
theorem nV(w:World)(x:ByteArray)(T:TypeId):Strs (w.alloc (.cells #[.string x] T)) (.slice (some ⟨w.heap.size,0,none⟩) 1 1) [x] :=
 .inr ⟨w.heap.size,0,1,rfl,le_refl _,fun i hi=>by
   have:i=0:=by simpa using hi
   subst this
   exact cell_of_row _ _ 0 _ _ _ (aK w _ _)⟩
theorem BD(s:ByteArray)(last:Bool)(hs:s.size<=100000)(w0 W:World)(b:Nat)(r:Rd)(ps:List ByteArray)(hS:St w0 b W r ps)(hl:ps.length<=100000)(hG:GU w0):Calls prog 96 #[.pointer (some ⟨b,0,none⟩),.string s,.bool last] W fun e W'=>RZ w0 b r ps (bn s) last e W':=by
 have HS:=hid hS;have HG:=hid hG
 obtain⟨ad,cp,hpv⟩:∃ ad c,r.u.pv=.slice ad ps.length c:=by
  rcases hS.ow.2 with⟨h1,h2⟩ | ⟨g,cap,cur,h1,_⟩
  ·exact⟨none,0,by rw[h1,h2]⟩
  ·exact⟨_,cap,h1⟩
 obtain⟨F18,_⟩:=hS.cell 18 (.slice ad ps.length cp) (by show some r.u.pv=_;rw[hpv]);have HPV:=hid hpv;obtain⟨n,hn⟩:=Ex' ps.length;have HNN:=hid hn;rw[hn]at F18 hl HPV;have HR1:=hid (fun W h=>uL s 101 (by omega) W h);have HEN:=hid (fun W=>E.bM s 4 W (by omega) (by decide));clear hS hG hpv hn;go_enter func96,ntmps96;go_wp2_with fail;refine(HR1.out _ (HG.out.1.below HS.out.lo).2.1).mono ?_;rintro e w1 ⟨⟨t1,rfl,ht1⟩,B1⟩;have S1:=HS.out.below B1;have ht1s:t1.size<=100000:=by rw[<-aa,ht1];exact le_trans (xS _ _ _ (le_refl _)) (by rw[aa];exact hs)
 have HR2:=hid (uL t1 69 (by omega) w1 (HG.out.1.below S1.lo).2.1);have HT1:=hid ht1;have HS1:=hid S1;clear HR1 ht1 S1 B1 ht1s F18 HS;go_wp2_with fail;refine HR2.out.mono ?_;rintro e w2 ⟨⟨t2,rfl,ht2⟩,B2⟩;have S2:=HS1.out.below B2;have HD:Hid (bn t2=dot (bn s)):=by show bn t2=_;rw[ht2,HT1.out];exact xT _ _ (le_refl _)
 have q1:=fM t2 [46,46];have q2:=fM t2 [46];rw[HD.out]at q1 q2;replace q1:(t2.toList==[46,46])=decide (dot (bn s)=[46,46]):=q1;replace q2:(t2.toList==[46])=decide (dot (bn s)=[46]):=q2;have HS2:=hid S2;clear HR2 ht2 HT1 HS1 B2 S2
 have HOW:=hid (show w2.ownsRow (b+2) 9 1 (.slice ad n cp) n (ps.map Value.string) from by
   have:=HS2.out.ow
   rw[HPV.out,HNN.out]at this
   exact this)
 have HEND:Hid (∀(v:Value) (qs:List ByteArray) (V:World),Kb b w2 V->Below w0.heap.size w0 V->V.ownsRow (b+2) 9 1 v qs.length (qs.map Value.string)->qs.map bn=stp (ps.map bn) (bn s) last->RZ w0 b r ps (bn s) last (.returned (.tuple #[])) (V.setCell ⟨b,18,none⟩ v)):=fun v qs V h1 h2 h3 h4 =>
  ⟨rfl,v,qs,h4,HS2.out.path h1 h2 h3⟩
 have HF18:Hid (∀ V:World,Kb b w2 V->V.cell? ⟨b,18,none⟩=some (.slice ad n cp)/\V.frozen? ⟨b,18,none⟩=false):=fun V h=>by have hr:=h.1.trans HS2.out.row;refine⟨(cell_of_row _ _ 18 _ _ _ hr).trans ?_,frozen_of_row _ _ 18 _ _ hr⟩;show some r.u.pv=_;rw[HPV.out]
 by_cases hd2:dot (bn s)=[46,46]
 ·rw[decide_eq_true hd2]at q1;have HST:Hid (stp (ps.map bn) (bn s) last=if last=true then (ps.map bn).dropLast++[[]] else (ps.map bn).dropLast):=by show _=_;unfold stp;rw[if_pos hd2]
  have HCUT:=hid (Ln HOW.out HNN.out.symm);clear q2 hd2 HEN;obtain⟨m,hm⟩:=Ex' (n - 1);have HML:Hid (ps.dropLast.length=m):=by show _=_;rw[List.length_dropLast,HNN.out,hm]
  rw[hm]at HCUT;have hmn:m<=n:=by omega
  have hmx:max ((n:Int) - 1) 0=(m:Int):=by omega
  have hncp:n<=cp:=by
   rcases HOW.out.2 with⟨h1,_⟩ | ⟨g,cap,cur,h1,_,_,h4,_⟩
   ·injection h1;omega
   ·injection h1 with _ _ e;omega
  have hmz:(m:Int)<=(cp:Int):=by omega
  have HLN:=hid HML.out;cases last
  ·have HQ:Hid (ps.dropLast.map bn=stp (ps.map bn) (bn s) false):=by show _=_;rw[HST.out,if_neg (by simp),map_dropLast]
   obtain⟨G18,Z18⟩:=HF18.out w2 ⟨rfl,rfl⟩;have HFIN:=hid (HEND.out (.slice ad m cp) ps.dropLast w2 ⟨rfl,rfl⟩ HS2.out.lo (by rw[HML.out];exact HCUT.out) HQ.out);clear HST HQ HEND HF18 hm;go_wp2
   go_end0
   exact HFIN.out
  ·have HQ:Hid ((ps.dropLast++[(⟨#[]⟩:ByteArray)]).map bn=stp (ps.map bn) (bn s) true):=by show _=_;rw[HST.out,if_pos rfl,map_append,map_dropLast];rfl
   clear HST hm;have HB1:Hid (Below w2.heap.size w2 (w2.alloc (.cells #[.string ⟨#[]⟩] 9))):=(Below.refl _ w2).alloc (le_refl _) _;have HOW2:=hid (U.ax HCUT.out HB1.out (le_refl _));have HS3:=hid (HS2.out.below HB1.out);have HU:=hid (nV w2 ⟨#[]⟩ 9);have hbs:b+2<=(w2.alloc (.cells #[.string ⟨#[]⟩] 9)).heap.size:=HS3.out.ks.elim fun _ k=>(Array.getElem?_eq_some_iff.1 k).1;have HBB:Hid (Kb b w2 (w2.alloc (.cells #[.string ⟨#[]⟩] 9))):=Kb.of HS2.out HB1.out;go_wp2_with(at_builtin;refine cX rfl _ _ rfl (b+2) _ m ps.dropLast rfl HOW2.out _ [⟨#[]⟩] rfl HU.out ?_ hbs ?_)
   ·simp;omega
   ·intro v' w' hown hgrow;obtain⟨ad',c',rfl⟩:=kB hown;obtain⟨k1,k2⟩:=HS3.out.grow HOW2.out hgrow;have HFIN:=hid (HEND.out _ (ps.dropLast++[⟨#[]⟩]) w' (k1.trans HBB.out) k2 (by rw[length_append,HLN.out,map_append,map_dropLast];exact hown) HQ.out);obtain⟨G18,Z18⟩:=HF18.out w' (k1.trans HBB.out);clear hown hgrow k1 k2 HEND HF18 HU HS3 HOW2 hbs HQ;go_wp2
    go_end0
    exact HFIN.out
 ·rw[decide_eq_false hd2]at q1;by_cases hd1:dot (bn s)=[46]
  ·rw[decide_eq_true hd1]at q2;have HST:Hid (stp (ps.map bn) (bn s) last=if last=true then ps.map bn++[[]] else ps.map bn):=by show _=_;unfold stp;rw[if_neg hd2,if_pos hd1]
   clear hd1 hd2 HEN;cases last
   ·have HQ:Hid (ps.map bn=stp (ps.map bn) (bn s) false):=HST.out.symm;obtain⟨G18,Z18⟩:=HF18.out w2 ⟨rfl,rfl⟩;have HFIN:=hid (HEND.out (.slice ad n cp) ps w2 ⟨rfl,rfl⟩ HS2.out.lo (by rw[HNN.out];exact HOW.out) HQ.out);clear HST HQ HEND HF18;go_wp2
    go_end0
    exact HFIN.out
   ·have HQ:Hid ((ps++[(⟨#[]⟩:ByteArray)]).map bn=stp (ps.map bn) (bn s) true):=by show _=_;rw[HST.out,if_pos rfl,map_append];rfl
    have HB1:Hid (Below w2.heap.size w2 (w2.alloc (.cells #[.string ⟨#[]⟩] 9))):=(Below.refl _ w2).alloc (le_refl _) _;have HOW2:=hid (U.ax HOW.out HB1.out (le_refl _));have HS3:=hid (HS2.out.below HB1.out);have HU:=hid (nV w2 ⟨#[]⟩ 9);have hbs:b+2<=(w2.alloc (.cells #[.string ⟨#[]⟩] 9)).heap.size:=HS3.out.ks.elim fun _ k=>(Array.getElem?_eq_some_iff.1 k).1;have hbb:Kb b w2 (w2.alloc (.cells #[.string ⟨#[]⟩] 9)):=Kb.of HS2.out HB1.out;have HBB:=hid hbb;clear HST hbb;go_wp2_with(at_builtin;refine cX rfl _ _ rfl (b+2) _ n ps rfl HOW2.out _ [⟨#[]⟩] rfl HU.out ?_ hbs ?_)
    ·simp;omega
    ·intro v' w' hown hgrow;obtain⟨ad',c',rfl⟩:=kB hown;obtain⟨k1,k2⟩:=HS3.out.grow HOW2.out hgrow;have HFIN:=hid (HEND.out _ (ps++[⟨#[]⟩]) w' (k1.trans HBB.out) k2 (by rw[length_append,HNN.out,map_append];exact hown) HQ.out);obtain⟨G18,Z18⟩:=HF18.out w' (k1.trans HBB.out);clear hown hgrow k1 k2 HEND HF18 HU HS3 HOW2 hbs HQ;go_wp2
     go_end0
     exact HFIN.out
  ·rw[decide_eq_false hd1]at q2;have HST:Hid (stp (ps.map bn) (bn s) last=ps.map bn++[E.en 4 (U.dec (bn s))]):=by show _=_;unfold stp;rw[if_neg hd2,if_neg hd1]
   have HLN:=hid HNN.out;clear hd1 hd2;go_wp2_with fail;refine(HEN.out _).mono ?_;rintro e w3 ⟨⟨x,rfl,hx⟩,B3⟩;have HSW:=hid (HS2.out.below B3);have HBW:Hid (Kb b w2 w3):=Kb.of HS2.out B3;have HOW3:=hid (U.ax HOW.out B3 (le_refl _));have HQ:Hid ((ps++[x]).map bn=stp (ps.map bn) (bn s) last):=by show _=_;rw[HST.out,map_append];exact congrArg (fun z=>ps.map bn++[z]) hx
   clear hx B3 HEN HST HOW;have HB1:Hid (Below w3.heap.size w3 (w3.alloc (.cells #[.string x] 9))):=(Below.refl _ w3).alloc (le_refl _) _;have HOW2:=hid (U.ax HOW3.out HB1.out (le_refl _));have HS3:=hid (HSW.out.below HB1.out);have HU:=hid (nV w3 x 9);have hbs:b+2<=(w3.alloc (.cells #[.string x] 9)).heap.size:=HS3.out.ks.elim fun _ k=>(Array.getElem?_eq_some_iff.1 k).1;have HBB:Hid (Kb b w2 (w3.alloc (.cells #[.string x] 9))):=(Kb.of HSW.out HB1.out).trans HBW.out;go_wp2_with(at_builtin;refine cX rfl _ _ rfl (b+2) _ n ps rfl HOW2.out _ [x] rfl HU.out ?_ hbs ?_)
   ·simp;omega
   ·intro v' w' hown hgrow;obtain⟨ad',c',rfl⟩:=kB hown;obtain⟨k1,k2⟩:=HS3.out.grow HOW2.out hgrow;have HFIN:=hid (HEND.out _ (ps++[x]) w' (k1.trans HBB.out) k2 (by rw[length_append,HLN.out,map_append];exact hown) HQ.out);obtain⟨G18,Z18⟩:=HF18.out w' (k1.trans HBB.out);clear hown hgrow k1 k2 HEND HF18 HU HS3 HOW2 hbs HQ;go_wp2
    go_end0
    exact HFIN.out
theorem GJ:(fun c=>!qm c)=npq:=rfl
theorem n35:(fun c=>!PQ c)=kD:=funext fun c=>by unfold PQ kD;by_cases h:c=35 <;> simp[h]
theorem twl{f:Int->Bool}(l:List Int):(l.takeWhile f).length<=l.length:=(List.takeWhile_prefix _).length_le
def SD(w0:World)(b:Nat)(r:Rd)(ps:List ByteArray)(e:Ending)(W':World):Prop :=
 e=.returned (.int .i64 0)/\(r.u.op=false/\St w0 b W' r ps\/r.u.op=true/\∃ bo t,bn bo=E.en 0 (U.dec ((bn r.re).takeWhile npq))/\bn t=(bn r.re).dropWhile npq/\St w0 b W' { r with re:=t,u:={ r.u with bo:=bo } } ps)
theorem yc(w0 W:World)(b:Nat)(r:Rd)(ps:List ByteArray)(hS:St w0 b W r ps)(hs:r.re.size<=100000):Calls prog 50 #[.pointer (some ⟨b,0,none⟩)] W fun e W'=>SD w0 b r ps e W':=by
 obtain⟨a,t,ha,ht,HTK⟩:=gC fqm r.re (by omega);rw[GJ]at ha ht;have hasz:a.size<=100000:=by rw[<-aa,ha];exact le_trans (twl _) (by rw[aa];exact hs)
 have HA:=hid ha;have HT:=hid ht;have HTT:=hid HTK;have HS:=hid hS;obtain⟨F17,_⟩:=hS.cell 17 (.bool r.u.op) rfl;have HEN:=hid (fun W=>E.bM a 0 W (by omega) (by decide));clear ha ht HTK hS;rcases(show r.u.op=false\/r.u.op=true by cases r.u.op <;> simp) with ho | ho
 ·rw[ho]at F17;have HO:=hid ho;clear ho HTT HEN;go_enter func50,ntmps50;go_wp2;go_ret;exact⟨rfl,.inl ⟨HO.out,HS.out⟩⟩
 ·rw[ho]at F17;have HO:=hid ho;clear ho;go_enter func50,ntmps50;go_wp2_with fail;refine(dz _ _).mono ?_;rintro e w1 ⟨⟨k,rfl,hk⟩,B1⟩;have HTC:=hid (HTT.out w0 w1 b r ps k rfl (HS.out.below B1) hk);clear HS HTT hk B1 F17;go_wp2_with fail;refine HTC.out.mono ?_;rintro e w2 ⟨rfl,S2,_⟩;have HS2:=hid S2;clear S2 HTC;go_wp2_with fail;refine(HEN.out _).mono ?_;rintro e w3 ⟨⟨bo,rfl,hbo⟩,B3⟩;have S3:=HS2.out.below B3;obtain⟨F19,Z19⟩:=S3.cell 19 (.string r.u.bo) rfl;have HEND:=hid (S3.put 19 (.string bo) { r with re:=t,u:={ r.u with bo:=bo } } rfl rfl);have HBO:=hid hbo;clear B3 S3 HS2 hbo;go_wp2;go_ret;exact⟨rfl,.inr ⟨HO.out,bo,t,(show bn bo=E.en 0 (U.dec (bn a)) from HBO.out).trans (by rw[HA.out]),HT.out,HEND.out⟩⟩
def SB(w0:World)(b:Nat)(r:Rd)(ps:List ByteArray)(e:Ending)(W':World):Prop :=
 e=.returned (.int .i64 0)/\((bn r.re).head? ≠ some 63/\St w0 b W' { r with u:={ r.u with hq:=false } } ps\/(bn r.re).head? = some 63/\∃ q t,bn q=E.en (if r.sp=true then 3 else 2) (U.dec (((bn r.re).drop 1).takeWhile kD))/\bn t=((bn r.re).drop 1).dropWhile kD/\St w0 b W' { r with re:=t,u:={ r.u with hq:=true,qu:=q } } ps)
theorem Bt(w0 W:World)(b:Nat)(r:Rd)(ps:List ByteArray)(hS:St w0 b W r ps)(hs:r.re.size<=100000):Calls prog 51 #[.pointer (some ⟨b,0,none⟩)] W fun e W'=>SB w0 b r ps e W':=by
 have HCP:=hid (fun W=>qc r.re ⟨#[63]⟩ (by omega) W);have HB1:=hid (yV r.re ⟨#[63]⟩);have HB3:=hid (mX r.re 63);obtain⟨F24,Z24⟩:=hS.cell 24 (.string r.re) rfl;obtain⟨F25,_⟩:=hS.cell 25 (.bool r.sp) rfl;have HS:=hid hS;obtain⟨K,hK⟩:=Ex' ((if r.sp=true then 3 else 2):Nat);have hK5:K<=255:=by rw[<-hK];split <;> decide
 have HKK:=hid hK
 have hsp:(r.sp=false/\K=2)\/(r.sp=true/\K=3):=by
  cases h:r.sp
  ·rw[h]at hK;exact .inl ⟨rfl,hK.symm⟩
  ·rw[h]at hK;exact .inr ⟨rfl,hK.symm⟩
 clear hK;cases hq:hpr r.re ⟨#[63]⟩
 ·have ey:cpx r.re ⟨#[63]⟩=r.re:=by unfold cpx;rw[hq];rfl
  rw[hq]at HB3;rw[hq,ey]at HCP;have HH:Hid ((bn r.re).head? ≠ some 63):=(of_decide_eq_false HB3.out.symm:¬ (bn r.re).head? = some 63);obtain⟨V1,hV1⟩:=Ex' (W.setCell ⟨b,24,none⟩ (.string r.re));have S1:=hS.put 24 (.string r.re) r rfl rfl;rw[hV1]at S1;obtain⟨F20,Z20⟩:=S1.cell 20 (.bool r.u.hq) rfl;obtain⟨V2,hV2⟩:=Ex' (V1.setCell ⟨b,20,none⟩ (.bool false));have S2:=S1.put 20 (.bool false) { r with u:={ r.u with hq:=false } } rfl rfl;rw[hV2]at S2;obtain⟨G20,_⟩:=S2.cell 20 (.bool false) rfl;have HEND:=hid S2;clear hS hq ey S1 S2 HB1 HB3 HS;rcases hsp with⟨h1,h2⟩ | ⟨h1,h2⟩
  all_goals (
    rw[h1]at F25
    clear h1 h2
    go_enter func51,ntmps51
    go_wp2_with(go_at_call 31;refine(HCP.out _).mono ?_;rintro e w3 ⟨rfl,hw⟩;obtain rfl:=hw.symm)
    go_ret
    exact⟨rfl,.inl ⟨HH.out,HEND.out⟩⟩)
 ·obtain⟨y,hy⟩:=Ex' (cpx r.re ⟨#[63]⟩);rw[hq,hy]at HCP;rw[hq,hy]at HB1;rw[hq]at HB3;have HH:Hid ((bn r.re).head? = some 63):=(of_decide_eq_true HB3.out.symm:(bn r.re).head? = some 63);have HBB:Hid (bn y=(bn r.re).drop 1):=HB1.out.trans (if_pos rfl);have hysz:y.size<=100000:=by rw[<-aa,HBB.out,length_drop,aa];omega
  obtain⟨a,t,ha,ht,HTK⟩:=gC f35 y (by omega);rw[n35]at ha ht;have hasz:a.size<=100000:=by rw[<-aa,ha];exact le_trans (twl _) (by rw[aa];exact hysz)
  have HA:=hid ha;have HT:=hid ht;have HTT:=hid HTK;have HEN:=hid (fun W=>E.bM a K W (by omega) hK5);obtain⟨V1,hV1⟩:=Ex' (W.setCell ⟨b,24,none⟩ (.string y));have S1:=hS.put 24 (.string y) { r with re:=y } rfl rfl;rw[hV1]at S1;obtain⟨F20,Z20⟩:=S1.cell 20 (.bool r.u.hq) rfl;obtain⟨V2,hV2⟩:=Ex' (V1.setCell ⟨b,20,none⟩ (.bool true));have S2:=S1.put 20 (.bool true) { r with re:=y,u:={ r.u with hq:=true } } rfl rfl;rw[hV2]at S2;obtain⟨G20,_⟩:=S2.cell 20 (.bool true) rfl;have HS2:=hid S2;clear hS hq hy S1 S2 HB1 HB3 HS ha ht HTK hysz hasz;rcases hsp with⟨h1,rfl⟩ | ⟨h1,rfl⟩
  all_goals (
    rw[h1]at F25
    clear h1
    go_enter func51,ntmps51
    go_wp2_with(go_at_call 31;refine(HCP.out _).mono ?_;rintro e w3 ⟨rfl,hw⟩;obtain rfl:=hw.symm)
    clear hV1 hV2 F24 Z24 F25 F20 Z20 G20
    refine(dz _ _).mono ?_
    rintro e w1 ⟨⟨k,rfl,hk⟩,B1⟩
    have HTC:=hid (HTT.out w0 w1 b _ ps k rfl (HS2.out.below B1) hk)
    clear HS2 HTT hk B1
    go_wp2_with fail
    refine HTC.out.mono ?_
    rintro e w2 ⟨rfl,S2,_⟩
    have HS3:=hid S2
    clear S2 HTC
    go_wp2_with fail
    refine(HEN.out _).mono ?_
    rintro e w4 ⟨⟨q,rfl,hq⟩,B3⟩
    have S3:=HS3.out.below B3
    obtain⟨F21,Z21⟩:=S3.cell 21 (.string r.u.qu) rfl
    have HEND:=hid (S3.put 21 (.string q) { r with re:=t,u:={ r.u with hq:=true,qu:=q } } rfl rfl)
    have HQ:=hid hq
    clear B3 S3 HS3 hq
    go_wp2
    go_ret
    exact⟨rfl,.inr ⟨HH.out,q,t,by rw[HKK.out];exact(show bn q=E.en _ (U.dec (bn a)) from HQ.out).trans (by rw[HA.out,HBB.out]),HT.out.trans (by rw[HBB.out]),HEND.out⟩⟩)
def SE(w0:World)(b:Nat)(r:Rd)(ps:List ByteArray)(e:Ending)(W':World):Prop :=
 e=.returned (.int .i64 0)/\∃ t f,bn t=(if (bn r.re).head? = some 35 then (bn r.re).drop 1 else bn r.re)/\bn f=E.en 1 (U.dec (bn t))/\St w0 b W' { r with re:=t,u:={ r.u with hf:=decide ((bn r.re).head? = some 35),fg:=f } } ps
theorem th(w0 W:World)(b:Nat)(r:Rd)(ps:List ByteArray)(hS:St w0 b W r ps)(hs:r.re.size<=100000):Calls prog 52 #[.pointer (some ⟨b,0,none⟩)] W fun e W'=>SE w0 b r ps e W':=by
 have HCP:=hid (fun W=>qc r.re ⟨#[35]⟩ (by omega) W);have HB1:=hid (yV r.re ⟨#[35]⟩);have HB3:=hid (mX r.re 35);obtain⟨F24,Z24⟩:=hS.cell 24 (.string r.re) rfl;obtain⟨y,hy⟩:=Ex' (cpx r.re ⟨#[35]⟩);obtain⟨z,hz⟩:=Ex' (hpr r.re ⟨#[35]⟩);rw[hy,hz]at HCP;rw[hy,hz]at HB1;rw[hz]at HB3
 have HBB:Hid (bn y=if (bn r.re).head? = some 35 then (bn r.re).drop 1 else bn r.re):=by
  show _=_;have h3:z=decide ((bn r.re).head? = some 35):=HB3.out;rw[HB1.out,h3];by_cases h:(bn r.re).head? = some 35
  ·rw[if_pos h,if_pos (decide_eq_true h)];rfl
  ·rw[if_neg h,if_neg (by intro hh;exact h (of_decide_eq_true hh))]
 have hysz:y.size<=100000:=by
  rw[<-aa,HBB.out];split
  ·rw[length_drop,aa];omega
  ·rw[aa];exact hs
 have HEN:=hid (fun W=>E.bM y 1 W (by omega) (by decide));obtain⟨V1,hV1⟩:=Ex' (W.setCell ⟨b,24,none⟩ (.string y));have S1:=hS.put 24 (.string y) { r with re:=y } rfl rfl;rw[hV1]at S1;obtain⟨F22,Z22⟩:=S1.cell 22 (.bool r.u.hf) rfl;obtain⟨V2,hV2⟩:=Ex' (V1.setCell ⟨b,22,none⟩ (.bool z));have S2:=S1.put 22 (.bool z) { r with re:=y,u:={ r.u with hf:=z } } rfl rfl;rw[hV2]at S2;obtain⟨G24,_⟩:=S2.cell 24 (.string y) rfl;have HS2:=hid S2;clear hS hy hz S1 S2 HB1 hysz;go_enter func52,ntmps52;go_wp2_with(go_at_call 31;refine(HCP.out _).mono ?_;rintro e w3 ⟨rfl,hw⟩;obtain rfl:=hw.symm);clear hV1 hV2 F24 Z24 F22 Z22 G24;refine(HEN.out _).mono ?_;rintro e w4 ⟨⟨f,rfl,hf⟩,B3⟩;have S3:=HS2.out.below B3;obtain⟨F23,Z23⟩:=S3.cell 23 (.string r.u.fg) rfl;have HEND:=hid (S3.put 23 (.string f) { r with re:=y,u:={ r.u with hf:=z,fg:=f } } rfl rfl);have HF:=hid hf;clear B3 S3 HS2 hf;go_wp2;go_ret;exact⟨rfl,y,f,HBB.out,HF.out,by rw[show decide ((bn r.re).head? = some 35)=z from HB3.out.symm];exact HEND.out⟩
theorem St.same{w0 W W1:World}{b:Nat}{r:Rd}{ps:List ByteArray}(h:St w0 b W r ps)(e:W1.heap=W.heap:=by rfl)(o:W1.os=W.os:=by rfl)(t:W1.tape=W.tape:=by rfl)(p:W1.output=W.output:=by rfl):St w0 b W1 r ps :=
 h.below ⟨o,t,p,by rw[e];exact le_refl _,fun k _=>by rw[e]⟩
theorem St.step{w0 W W1 w':World}{b:Nat}{r:Rd}{ps:List ByteArray}(h:St w0 b W r ps)(hb:Below W1.heap.size W1 w')(e:W1.heap=W.heap:=by rfl)(o:W1.os=W.os:=by rfl)(t:W1.tape=W.tape:=by rfl)(p:W1.output=W.output:=by rfl):St w0 b w' r ps:=(h.same e o t p).below hb
theorem St.c26{w0 W:World}{b:Nat}{r:Rd}{ps:List ByteArray}(h:St w0 b W r ps):W.cell? ⟨b,26,none⟩=some (.string r.sl):=(h.cell 26 (.string r.sl) rfl).1
theorem Kk(acc:List (List Int))(x:List Int)(l:Bool):(stp acc x l).length<=acc.length+1:=by
 unfold stp
 (repeat' split) <;> simp <;> omega
def QI(w0:World)(b:Nat)(r:Rd)(e:Ending)(W':World):Prop :=
 e=.returned (.int .i64 0)/\(r.sp=false/\(bn r.re).head? ≠ some 47/\St w0 b W' r []\/(r.sp=true\/(bn r.re).head? = some 47)/\∃ t v qs,bn t=(bn r.re).dropWhile npq/\qs.map bn=nrm [] (spl (Y.sl r.sp) ((((bn r.re).takeWhile npq).dropWhile (fun c=>!Y.sl r.sp c)).drop 1))/\St w0 b W' { r with re:=t,u:={ r.u with pv:=v } } qs)
def Lp(w0:World)(b:Nat)(r:Rd)(t:ByteArray)(M:Nat)(F:List (List Int))(p:ByteArray)(more:Bool)(W:World):Prop :=
 ∃ v qs,St w0 b W { r with re:=t,u:={ r.u with pv:=v } } qs/\p.size<=100000/\qs.length+p.size+(if more=true then 1 else 0)<=M/\(if more=true then nrm (qs.map bn) (spl (Y.sl r.sp) (bn p))=F else qs.map bn=F)
def msr:Value->Value->Nat
 | .string p,.bool m=>p.size+(if m=true then 1 else 0)
 | _,_=>0
theorem Lp.next{w0 W':World}{b:Nat}{r:Rd}{t:ByteArray}{M:Nat}{F:List (List Int)}{p a d:ByteArray}{y:Bool}{v:Value}{qs:List ByteArray}(hps:p.size<=100000)(hM:qs.length+p.size+1<=M)(hN:nrm (qs.map bn) (spl (Y.sl r.sp) (bn p))=F)(ha:bn a=(bn p).takeWhile (fun c=>!Y.sl r.sp c))(hd:bn d=((bn p).dropWhile (fun c=>!Y.sl r.sp c)).drop 1)(hy:y=decide ((bn p).dropWhile (fun c=>!Y.sl r.sp c)≠[])){v':Value}{qs':List ByteArray}(hq:qs'.map bn=stp (qs.map bn) (bn a) (!y))(hS:St w0 b W' { r with re:=t,u:={ r.u with pv:=v' } } qs'):Lp w0 b r t M F d y W'/\msr (.string d) (.bool y)<msr (.string p) (.bool true):=by
 have hal:∀ c∈bn a,Y.sl r.sp c=false:=fun c hc=>by rw[ha]at hc;have:=(gB hc).1;simpa using this
 have hql:qs'.length<=qs.length+1:=by have:=congrArg List.length hq;rw[length_map]at this;rw[this];exact le_trans (Kk _ _ _) (by rw[length_map];exact le_refl _)
 have hpd:bn p=bn a++(bn p).dropWhile (fun c=>!Y.sl r.sp c):=by rw[ha,List.takeWhile_append_dropWhile]
 cases hw:(bn p).dropWhile (fun c=>!Y.sl r.sp c) with
 | nil =>
  rw[hw]at hd hy hpd;have hy':y=false:=hy;subst hy';have hd0:d.size=0:=by rw[<-aa,hd];rfl
  have hap:bn p=bn a:=by rw[hpd,List.append_nil]
  refine⟨⟨v',qs',hS,by omega,by rw[if_neg (by simp)];omega,?_⟩,?_⟩
  ·rw[if_neg (by simp),hq,<-hN,hap,dE hal,Af];rfl
  ·show d.size+_<p.size+_;rw[if_neg (by simp),if_pos rfl];omega
 | cons c l =>
  rw[hw]at hd hy hpd;have hy':y=true:=hy.trans (decide_eq_true (by simp));subst hy'
  have hc:Y.sl r.sp c=true:=by
   have h1:(bn p).dropWhile (fun c=>!Y.sl r.sp c)≠[]:=by rw[hw];simp
   have:=List.head_dropWhile_not (fun c=>!Y.sl r.sp c) h1;simp only[hw,List.head_cons]at this;simpa using this
  have hdl:bn d=l:=hd;have hsz:d.size+1<=p.size:=by have h2:=congrArg List.length hpd;rw[aa,length_append,length_cons]at h2;rw[<-aa,hdl];omega
  refine⟨⟨v',qs',hS,by omega,by rw[if_pos rfl];omega,?_⟩,?_⟩
  ·rw[if_pos rfl,hq,<-hN,hpd,cn hal hc,Af,hdl,decide_eq_false (aV _ _)];rfl
  ·show d.size+_<p.size+_;rw[if_pos rfl];omega
theorem Gg(w0 W:World)(b:Nat)(r:Rd)(hS:St w0 b W r [])(hs:r.re.size<=90000)(hsl:r.sl=ia r.sp)(hG:GU w0):Calls prog 49 #[.pointer (some ⟨b,0,none⟩)] W fun e W'=>QI w0 b r e W':=by
 obtain⟨F24,_⟩:=hS.cell 24 (.string r.re) rfl;obtain⟨F25,_⟩:=hS.cell 25 (.bool r.sp) rfl;obtain⟨F26,_⟩:=hS.cell 26 (.string r.sl) rfl;have HPR:=hid (fun W=>mS r.re ⟨#[47]⟩ W);have HB3:=hid (show hpr r.re ⟨#[47]⟩=decide ((bn r.re).head? = some 47) from mX r.re 47);have HS:=hid hS;have HG:=hid hG;obtain⟨z,hz⟩:=Ex' (hpr r.re ⟨#[47]⟩);rw[hz]at HPR HB3;clear hz hG;by_cases hno:r.sp=false/\z=false
 ·obtain⟨hsp,rfl⟩:=hno;rw[hsp]at F25;have HSP:=hid hsp;have HNH:Hid ((bn r.re).head? ≠ some 47):=(of_decide_eq_false HB3.out.symm:¬ (bn r.re).head? = some 47);clear hsp HB3 hS;go_enter func49,ntmps49;go_wp2_with(go_at_call 91;refine(HPR.out _).mono ?_;rintro e w3 ⟨rfl,hw⟩;obtain rfl:=hw.symm);go_ret;exact⟨rfl,.inl ⟨HSP.out,HNH.out,HS.out⟩⟩
 ·have hyes:r.sp=true\/r.sp=false/\z=true:=by
   cases h:r.sp
   ·cases hz:z
    ·exact absurd ⟨h,hz⟩ hno
    ·exact .inr ⟨rfl,rfl⟩
   ·exact .inl rfl
  have HY:Hid (r.sp=true\/(bn r.re).head? = some 47):=by
   rcases hyes with h | ⟨_,h⟩
   ·exact .inl h
   ·exact .inr (of_decide_eq_true (HB3.out.symm.trans h))
  obtain⟨a,t,ha,ht,HTK⟩:=gC fqm r.re (by omega);rw[GJ]at ha ht;have hasz:a.size<=90000:=by rw[<-aa,ha];exact le_trans (twl _) (by rw[aa];exact hs)
  have hF:=fsl r.sp;rw[<-hsl]at hF;obtain⟨a2,p0,y0,-,hp0,-,HDV⟩:=jg hF a (by omega);have hp0s:p0.size<=90000:=by rw[<-aa,hp0,length_drop];have:=(List.dropWhile_suffix (l:=bn a) (fun c=>!Y.sl r.sp c)).length_le;rw[aa]at this;omega
  have HT:=hid ht;have HTT:=hid HTK;have HDD:=hid HDV;have HP0:Hid (bn p0=(((bn r.re).takeWhile npq).dropWhile (fun c=>!Y.sl r.sp c)).drop 1):=by show _=_;rw[hp0,ha]
  obtain⟨FF,hFF⟩:=Ex' (nrm [] (spl (Y.sl r.sp) (bn p0)));have HFF:=hid hFF;have HDR:=hid (fun(p:ByteArray) (h:p.size<=100000)=>jg hF p (by omega));have HFIN:Hid (∀(p:ByteArray) (V:World),Lp w0 b r t (p0.size+1) FF p false V->QI w0 b r (.returned (.int .i64 0)) V):=fun p V ⟨v,qs,h1,h2,h3,h4⟩=>by rw[if_neg (by simp)]at h4;exact⟨rfl,.inr ⟨HY.out,t,v,qs,HT.out,by rw[h4,<-HFF.out,HP0.out],h1⟩⟩
  clear hno ha ht HTK HDV hp0 hFF hS HB3 hsl
  have go:Calls prog 49 #[.pointer (some ⟨b,0,none⟩)] W fun e W'=>QI w0 b r e W':=by
   rcases hyes with hsp | ⟨hsp,rfl⟩
   all_goals (
     have HSP:=hid hsp
     rw[hsp]at F25
     clear hsp
     have SS:=HS.out
     go_enter func49,ntmps49
     go_wp2_with(go_at_call 91;refine(HPR.out _).mono ?_;rintro e w3 ⟨rfl,hw⟩;obtain rfl:=hw.symm)
     clear F24 F25
     go_region_held3 (fun w'=>w'.cell? ⟨b,26,none⟩=some (.string r.sl))
       (first | assumption | go_keep)
       ((first
         | (go_at_call 87;refine(dz _ _).mono ?_;rintro e w' ⟨⟨k,rfl,hk⟩,hb⟩;have SN:=SS.step hb;clear SS;have SS:=SN;clear SN;have hq:=SS.c26)
         | (go_at_call 92;refine(HTT.out w0 _ b r [] k rfl (SS.same) hk).mono ?_;rintro e w' ⟨rfl,SN,_⟩;clear SS;have SS:=SN;clear SN;have hq:=SS.c26)
         | (go_at_call 86;refine(HDD.out _ k hk).mono ?_;rintro e w' ⟨rfl,hb⟩;have SN:=SS.step hb;clear SS;have SS:=SN;clear SN;have hq:=SS.c26)))
     have HL0:Hid (Lp w0 b r t (p0.size+1) FF p0 true w'):=⟨r.u.pv,[],SS,by omega,by rw[if_pos rfl];simp,by rw[if_pos rfl];exact HFF.out⟩
     clear hk hb hq SS F26 HTT HDD HPR hasz
     go_wp2_with fail
     go_loopw [4,6,7] (fun v4 v6 _ wr=>∃(p:ByteArray) (more:Bool),v4=.string p/\v6=.bool more/\Hid (Lp w0 b r t (p0.size+1) FF p more wr)) (fun v4 v6 _ _=>msr v4 v6)
     case atStart=>exact⟨p0,true,rfl,rfl,HL0.out⟩
     case round =>
       obtain⟨p,more,rfl,rfl,HL⟩:=hrel
       cases more
       · have HE:=hid (HFIN.out p wr HL.out)
         clear HL HL0 HFIN HDR
         go_wp2
         go_ret
         exact HE.out
       · obtain⟨v,qs,S,hps,hM,hN⟩:=HL.out
         rw[if_pos rfl]at hM hN
         obtain⟨x,d,y,ha,hd,hy,HDV⟩:=HDR.out p hps
         have hxs:x.size<=100000:=by rw[<-aa,ha];exact le_trans (twl _) (by rw[aa];exact hps)
         have G26:=S.c26
         have HNX:=hid (fun(W':World) (v':Value) (qs':List ByteArray)=>Lp.next (w0:=w0) (W':=W') (b:=b) (t:=t) (v:=v) (v':=v') (qs':=qs') hps hM hN ha hd hy)
         have HSS:=hid S
         have HDW:=hid HDV
         have HPC:=hid (fun(W:World) h=>BD x (!y) hxs w0 W b { r with re:=t,u:={ r.u with pv:=v } } qs h (by omega) HG.out)
         clear S hN ha hd hy HDV HL HL0 HFIN HDR hM
         go_wp2_with fail
         refine(dz _ _).mono ?_
         rintro e w1 ⟨⟨k,rfl,hk⟩,B1⟩
         have HS1:=hid (HSS.out.below B1)
         have HDC:=hid (HDW.out w1 k hk)
         clear hk B1 HSS HDW G26
         go_wp2_with fail
         refine HDC.out.mono ?_
         rintro e w2 ⟨rfl,B2⟩
         have HPD:=hid (HPC.out w2 (HS1.out.below B2))
         clear B2 HS1 HPC HDC
         go_wp2_with fail
         refine HPD.out.mono ?_
         rintro e w3 ⟨rfl,v',qs',hq',S'⟩
         have HN2:=hid (HNX.out w3 v' qs' hq' S')
         clear hq' S' HNX HPD
         go_wp2
         go_roundw
         case rel=>exact⟨d,y,rfl,rfl,HN2.out.1⟩
         case measure=>exact HN2.out.2)
  exact go
open F (bn aa)
def utl(a:Us)(ps:List ByteArray):Ur:=⟨bn a.sc,bn a.us,bn a.pa,a.hh,(a.k,bn a.nm,a.f,[a.x0,a.x1,a.x2,a.x3,a.x4,a.x5,a.x6,a.x7]),a.hp,a.pr,a.op,ps.map bn,bn a.bo,a.hq,bn a.qu,a.hf,bn a.fg⟩
def em:ByteArray:=⟨#[]⟩
def zs:Us:=⟨em,em,em,false,0,em,0,0,0,0,0,0,0,0,0,false,0,false,.slice none 0 0,em,false,em,false,em⟩
def HQ(l:List Int)(h:H.Hst):Prop:=∀ x sp,hqy l=some (x,sp)->H.HP H.IA x sp h
def Bad(l:List Int)(er:Int):Prop:=∃ h,HQ l h/\rdc l h=(zu,er)
def Rest(r:Rd):Prop:=r.u.bo=em/\r.u.hq=false/\r.u.qu=em/\r.u.hf=false/\r.u.fg=em
def On(w0:World)(l:List Int)(P:World->Prop)(e:Ending)(W':World):Prop :=
 (e=.returned (.int .i64 0)/\P W')\/∃ er:Int,er≠0/\e=.returned (.int .i64 er)/\Bad l er/\Below w0.heap.size w0 W'
def S0(w0:World)(b:Nat)(l:List Int)(W:World):Prop:=∃ t,bn t=l/\t.size<=80000/\St w0 b W ⟨zs,t,false,em,em⟩ []
def S1(w0:World)(b:Nat)(l:List Int)(W:World):Prop:=∃ m t,sch l=some (bn m,bn t)/\bn m≠di/\t.size<=80000/\St w0 b W ⟨{ zs with sc:=m },t,(own (bn m)).isSome,ia (own (bn m)).isSome,em⟩ []
def S2(w0:World)(b:Nat)(l:List Int)(W:World):Prop:=∃(m t:ByteArray) (rr:List Int) (hh op:Bool),sch l=some (bn m,rr)/\bn m≠di/\t.size<=80000/\(aus (bn m) rr=some (bn t)/\hh=true/\op=false\/aus (bn m) rr=none/\own (bn m)=none/\bn t=rr/\hh=false/\op=decide (rr.head? ≠ some 47))/\St w0 b W ⟨{ zs with sc:=m,hh:=hh,op:=op },t,(own (bn m)).isSome,ia (own (bn m)).isSome,em⟩ []
structure Pi(r:Rd)(has:Bool):Prop where
 op1:r.u.op=true->has=false/\(bn r.re).head? ≠ some 47/\r.sp=false
 op0:r.u.op=false->has=true\/(bn r.re).head? = some 47
 hd:has=true->bn r.re=[]\/∃ c t,bn r.re=c::t/\nau r.sp c=false
 sp:r.sp=true->has=true
def noq(a:Us):Ur:={ utl a []with opq:=false }
def S3(w0:World)(b:Nat)(l:List Int)(W:World):Prop:=∃(r:Rd) (h:H.Hst) (has:Bool) (po:Option (List Int)),St w0 b W r []/\HQ l h/\r.re.size<=80000/\r.po.size<=80000/\r.sp=(own (bn r.u.sc)).isSome/\r.sl=ia r.sp/\r.u.hp=false/\r.u.pr=0/\Rest r/\Pi r has/\bn r.po=po.getD []/\(∀ q:Bool×Nat,por (own (bn r.u.sc)) po=some q->rdc l h=(tl r.sp has (noq { r.u with hp:=q.1,pr:=q.2 }) (bn r.re),0))/\(por (own (bn r.u.sc)) po=none->rdc l h=(zu,131))
theorem kL{l:List Int}(h:hqy l=none)(x:H.Hst):HQ l x:=fun y sp e=>by rw[h]at e;cases e
theorem Rb(w0 W:World)(b:Nat)(l:List Int)(h:S0 w0 b l W):Calls prog 45 #[.pointer (some ⟨b,0,none⟩)] W fun e W'=>On w0 l (S1 w0 b l) e W':=by
 obtain⟨t,rfl,hs,hS⟩:=h;refine(xR w0 W b _ [] hS (by show t.size<=_;omega)).mono ?_;rintro e W' (⟨rfl,h1,hB⟩ | ⟨m,t2,rfl,h1,h2,hS2⟩)
 ·refine .inr ⟨130,by decide,rfl,⟨H.non 0,kL ?_ _,?_⟩,hB⟩
  ·rcases h1 with h1 | ⟨t3,h1⟩
   ·have h1':sch (bn t)=none:=h1;unfold hqy;rw[h1']
   ·have h1':sch (bn t)=some (di,t3):=h1;unfold hqy;rw[h1'];rfl
  ·rcases h1 with h1 | ⟨t3,h1⟩
   ·have h1':sch (bn t)=none:=h1;unfold rdc;rw[h1']
   ·have h1':sch (bn t)=some (di,t3):=h1;unfold rdc;rw[h1'];rfl
 ·refine .inl ⟨rfl,m,t2,h1,h2,?_,hS2⟩;have h1':sch (bn t)=some (bn m,bn t2):=h1;obtain⟨_,p,hp⟩:=Oz h1';have:=congrArg List.length hp;rw[length_append,length_cons,aa,aa]at this;omega
theorem step1(w0 W:World)(b:Nat)(l:List Int)(h:S1 w0 b l W):Calls prog 46 #[.pointer (some ⟨b,0,none⟩)] W fun e W'=>On w0 l (S2 w0 b l) e W':=by
 obtain⟨m,t,h1,h2,hs,hS⟩:=h;refine(uD w0 W b _ [] hS (by show t.size<=_;omega) rfl rfl rfl).mono ?_;rintro e W' ⟨rfl,hq⟩;refine .inl ⟨rfl,?_⟩;rcases hq with⟨g1,t2,g2,g3⟩ | ⟨g1,g0,t2,g2,g3⟩ | ⟨g1,g0,g3⟩
 ·have g1':(own (bn m)).isSome=true:=g1;have g2':bn t2=(bn t).dropWhile (Y.sl true):=g2;refine⟨m,t2,bn t,true,false,h1,h2,?_,.inl ⟨?_,rfl,rfl⟩,g3⟩
  ·rw[<-aa,g2'];exact le_trans (iM _) (by rw[aa];omega)
  ·unfold aus;rw[if_pos g1',g2']
 ·have g1':(own (bn m)).isSome=false:=g1;have g2':bn t2=(bn t).drop 2:=g2;have g0':(bn t).take 2=[47,47]:=g0;refine⟨m,t2,bn t,true,false,h1,h2,?_,.inl ⟨?_,rfl,rfl⟩,g3⟩
  ·rw[<-aa,g2',length_drop,aa];omega
  ·unfold aus;rw[if_neg (by rw[g1'];simp),if_pos g0',g2']
 ·have g1':(own (bn m)).isSome=false:=g1;have g0':(bn t).take 2≠[47,47]:=g0;refine⟨m,t,bn t,false,decide ((bn t).head? ≠ some 47),h1,h2,hs,.inr ⟨?_,?_,rfl,rfl,rfl⟩,g3⟩
  ·unfold aus;rw[if_neg (by rw[g1'];simp),if_neg g0']
  ·cases ho:own (bn m) with
   | none=>rfl
   | some _=>rw[ho]at g1';cases g1'
theorem GK{h:H.Hst}(x:H.HP H.IA [] true h):h.2.2.2.2=70:=by unfold H.HP at x;rw[if_neg (by decide),if_neg (by decide),if_neg (by decide)]at x;obtain⟨d,q,h1,rfl⟩:=x;obtain⟨rfl,rfl⟩:=H.asc.one h1 (H.asc.num (t:=[]) (by simp));rfl
theorem Gn{m:List Int}(h:own m=none):(own m).isSome=false:=by rw[h];rfl
theorem tu{f:Int->Bool}(l:List Int):l.dropWhile f=[]\/∃ c t,l.dropWhile f=c::t/\f c=false:=by
 cases h:l.dropWhile f with
 | nil=>exact .inl rfl
 | cons c t =>
  refine .inr ⟨c,t,rfl,?_⟩;have h1:l.dropWhile f≠[]:=by rw[h];simp
  have:=List.head_dropWhile_not f h1;simp only[h,List.head_cons]at this;exact this
theorem step2(w0 W:World)(b:Nat)(l:List Int)(h:S2 w0 b l W)(hG:GU w0):Calls prog 47 #[.pointer (some ⟨b,0,none⟩)] W fun e W'=>On w0 l (S3 w0 b l) e W':=by
 obtain⟨m,t,rr,hh,op,h1,h2,hs,hc,hS⟩:=h;rcases hc with⟨ha,rfl,rfl⟩ | ⟨ha,ho,ht,rfl,rfl⟩
 ·refine(fT w0 W b _ [] hS (by show t.size<=_;omega) rfl rfl hG).mono ?_;rintro e W' ⟨A,hA,hq⟩;have hA':A=(bn t).takeWhile (nau (own (bn m)).isSome):=hA;have hhq:hqy l=(ask (own (bn m)).isSome A).map (fun x=>(x,(own (bn m)).isSome)):=by unfold hqy;rw[h1];show(if bn m=di then none else match aus (bn m) rr with | none=>none | some b=>_)=_;rw[if_neg h2,ha,hA']
  have hrd:∀ h,rdc l h=if (ath (bn m) A h).2≠0 then (zu,(ath (bn m) A h).2) else (tl (own (bn m)).isSome true (ath (bn m) A h).1 ((bn t).dropWhile (nau (own (bn m)).isSome)),0):=fun h=>by unfold rdc;rw[h1];show(if bn m=di then _ else match aus (bn m) rr with | none=>_ | some b=>_)=_;rw[if_neg h2,ha,hA']
  rcases hq with⟨hbad,rfl,hB⟩ | ⟨hn1,hn2,h,n,po,us,pa,t2,a0,a1,a2,a3,a4,a5,a6,a7,g1,rfl,g2,g3,g4,g5,g6,g7⟩
  ·have hask:ask (own (bn m)).isSome A=none:=by
    unfold ask;rcases hbad with hb | ⟨hb1,hb2⟩
    ·rw[if_pos hb]
    ·by_cases hx:64∈A/\beh A=[]
     ·rw[if_pos hx]
     ·rw[if_neg hx,if_pos ⟨hb1,.inl hb2⟩]
   refine .inr ⟨70,by decide,rfl,⟨H.non 0,kL (by rw[hhq,hask];rfl) _,?_⟩,hB⟩;rw[hrd];have:ath (bn m) A (H.non 0)=(zu,70):=by unfold ath;rw[if_pos hask]
   rw[this];rfl
  ·by_cases hask:ask (own (bn m)).isSome A=none
   ·have hsp:(hcut false (beh A)).1=[]/\(own (bn m)).isSome=true:=by
     unfold ask at hask;rw[if_neg hn1]at hask;split at hask
     ·rename_i hx;exact⟨hx.1,hx.2.resolve_left (fun hy=>hn2 ⟨hx.1,hy⟩)⟩
     ·cases hask
    have g1':H.HP H.IA (hcut false (beh A)).1 (own (bn m)).isSome h:=g1;rw[hsp.1,hsp.2]at g1';have he:=GK g1';rw[he];refine .inr ⟨70,by decide,rfl,⟨h,kL (by rw[hhq,hask];rfl) _,?_⟩,g7.lo⟩;rw[hrd];have:ath (bn m) A h=(zu,70):=by unfold ath;rw[if_pos hask]
    rw[this];rfl
   ·have hask2:ask (own (bn m)).isSome A=some (hcut false (beh A)).1:=by
     unfold ask at hask ⊢;rw[if_neg hn1]at hask ⊢;split at hask
     ·exact absurd rfl hask
     ·rename_i hx;rw[if_neg hx]
    have hHQ:HQ l h:=fun x sp e=>by rw[hhq,hask2]at e;have e':((hcut false (beh A)).1,(own (bn m)).isSome)=(x,sp):=Option.some.inj e;obtain⟨rfl,rfl⟩:=Prod.mk.inj e';exact g1
    by_cases he:h.2.2.2.2=0
    ·rw[he];refine .inl ⟨rfl,_,h,true,(hcut false (beh A)).2,g7,hHQ,?_,?_,rfl,rfl,rfl,rfl,⟨rfl,rfl,rfl,rfl,rfl⟩,⟨fun h=>(by cases h),fun _=>.inl rfl,fun _=>?_,fun _=>rfl⟩,g4,?_,?_⟩
     ·show t2.size<=80000;rw[<-aa,g5];exact le_trans (iM _) (by rw[aa];exact hs)
     ·show po.size<=80000;rw[<-aa,g4];rcases mZ (beh A) false with⟨_,q2⟩ | ⟨i,_,_,q3⟩
      ·rw[q2];exact zero_le _
      ·rw[q3];show((beh A).drop (i+1)).length<=_;rw[length_drop];have q4:(beh A).length<=A.length:=by unfold beh;rw[length_reverse];exact le_trans (sa _) (by rw[length_reverse];exact le_refl _)
       have q5:A.length<=t.size:=by rw[hA',<-aa];exact sa _
       omega
     ·show bn t2=[]\/∃ c t,bn t2=c::t/\nau (own (bn m)).isSome c=false;rw[g5];exact tu _
     ·intro q hq;have hq':por (own (bn m)) (hcut false (beh A)).2=some q:=hq;rw[hrd]
      have hath:ath (bn m) A h=(noq { zs with sc:=m,hh:=true,op:=false,us:=us,pa:=pa,k:=h.1,nm:=n,f:=h.2.2.1,x0:=a0,x1:=a1,x2:=a2,x3:=a3,x4:=a4,x5:=a5,x6:=a6,x7:=a7,hp:=q.1,pr:=q.2 },0):=by
       unfold ath;rw[if_neg hask,if_neg (by rw[he];simp),hq']
       have e1:(if 64∈A then E.en 5 (U.dec ((ahd A).takeWhile fL)) else [])=bn us:=by
        split at g6
        ·rename_i hx;rw[if_pos hx];exact g6.1.symm
        ·rename_i hx;rw[if_neg hx,g6.1];rfl
       have e2:(if 64∈A then E.en 5 (U.dec (((ahd A).dropWhile fL).drop 1)) else [])=bn pa:=by
        split at g6
        ·rename_i hx;rw[if_pos hx];exact g6.2.symm
        ·rename_i hx;rw[if_neg hx,g6.2];rfl
       show(({ zu with sch:=bn m,usr:=if 64∈A then _ else [],pas:=if 64∈A then _ else [],hh:=true,hst:=(h.1,h.2.1,h.2.2.1,h.2.2.2.1),hp:=q.1,prt:=q.2 }:Ur),(0:Int))=_;rw[e1,e2,<-g2,g3];rfl
      rw[hath,g5];rfl
     ·intro hq;have hq':por (own (bn m)) (hcut false (beh A)).2=none:=hq;rw[hrd];have hath:ath (bn m) A h=(zu,131):=by unfold ath;rw[if_neg hask,if_neg (by rw[he];simp),hq']
      rw[hath];rfl
    ·refine .inr ⟨h.2.2.2.2,he,rfl,⟨h,hHQ,?_⟩,g7.lo⟩;rw[hrd];have hath:ath (bn m) A h=(zu,h.2.2.2.2):=by unfold ath;rw[if_neg hask,if_pos he]
     rw[hath,if_pos he]
 ·have hrd:∀ h,rdc l h=(tl false false { zu with sch:=bn m } rr,0):=fun h=>by unfold rdc;rw[h1];show(if bn m=di then _ else match aus (bn m) rr with | none=>_ | some b=>_)=_;rw[if_neg h2,ha]
  have hhq:hqy l=none:=by unfold hqy;rw[h1];show(if bn m=di then none else match aus (bn m) rr with | none=>none | some b=>_)=_;rw[if_neg h2,ha]
  refine(ye w0 W b _ [] hS rfl).mono ?_;rintro e W' ⟨rfl,hS'⟩;have hos:=Gn ho;refine .inl ⟨rfl,_,H.non 0,false,none,hS',kL hhq _,hs,by show em.size<=_;decide,rfl,rfl,rfl,rfl,⟨rfl,rfl,rfl,rfl,rfl⟩,⟨fun h=>⟨rfl,?_,hos⟩,fun h=>.inr ?_,fun h=>(by cases h),fun h=>?_⟩,rfl,?_,?_⟩
  ·have h':decide (rr.head? ≠ some 47)=true:=h;show(bn t).head? ≠ some 47;rw[ht];exact of_decide_eq_true h'
  ·have h':decide (rr.head? ≠ some 47)=false:=h;show(bn t).head? = some 47;rw[ht];exact Classical.not_not.1 (of_decide_eq_false h')
  ·have h':(own (bn m)).isSome=true:=h;rw[hos]at h';cases h'
  ·intro q hq;have hq':q=(false,0):=(Option.some.inj hq).symm;subst hq';rw[hrd];show _=(tl (own (bn m)).isSome false _ (bn t),0);rw[hos,ht];rfl
  ·intro hq;cases hq
open F (bn aa bC ten vl)
def S4(w0:World)(b:Nat)(l:List Int)(W:World):Prop:=∃(r:Rd) (h:H.Hst) (has:Bool),St w0 b W r []/\HQ l h/\r.re.size<=80000/\r.sl=ia r.sp/\Rest r/\Pi r has/\rdc l h=(tl r.sp has (noq r.u) (bn r.re),0)
def Hd(l:List Int):Prop:=l=[]\/∃ c t,l=c::t/\qm c=true
def Tz(r:Rd):Prop:=r.u.hq=false/\r.u.qu=em/\r.u.hf=false/\r.u.fg=em
def S5(w0:World)(b:Nat)(l:List Int)(W:World):Prop:=∃(r:Rd) (ps:List ByteArray) (h:H.Hst),St w0 b W r ps/\HQ l h/\r.re.size<=80000/\Tz r/\(r.u.op=false/\rdc l h=(qf r.sp (utl r.u ps) (bn r.re),0)/\Hd (bn r.re)\/r.u.op=true/\rdc l h=(qf r.sp { utl r.u ps with bod:=E.en 0 (U.dec ((bn r.re).takeWhile npq)) } ((bn r.re).dropWhile npq),0))
def S6(w0:World)(b:Nat)(l:List Int)(W:World):Prop:=∃(r:Rd) (ps:List ByteArray) (h:H.Hst),St w0 b W r ps/\HQ l h/\r.re.size<=80000/\Tz r/\rdc l h=(qf r.sp (utl r.u ps) (bn r.re),0)/\Hd (bn r.re)
def S7(w0:World)(b:Nat)(l:List Int)(W:World):Prop:=∃(r:Rd) (ps:List ByteArray) (h:H.Hst),St w0 b W r ps/\HQ l h/\r.re.size<=80000/\r.u.hf=false/\r.u.fg=em/\rdc l h=(fr (utl r.u ps) (bn r.re),0)/\(bn r.re=[]\/(bn r.re).head? = some 35)
def S8(w0:World)(b:Nat)(l:List Int)(W:World):Prop:=∃(r:Rd) (ps:List ByteArray) (h:H.Hst),St w0 b W r ps/\HQ l h/\rdc l h=(utl r.u ps,0)
theorem FC{o:Option Nat}{po:Option (List Int)}{h:Bool}{n:Nat}(hq:if po.getD []=[] then (h,n)=(false,0) else (po.getD []).all ten=true/\vl 10 (po.getD [])<=65535/\(h,n)=if o=some (vl 10 (po.getD [])) then (false,0) else (true,vl 10 (po.getD []))):por o po=some (h,n):=by
 cases po with
 | none =>
  have hq':(h,n)=(false,0):=hq;rw[hq'];rfl
 | some p =>
  have hq':if p=[] then (h,n)=(false,0) else p.all ten=true/\vl 10 p<=65535/\(h,n)=if o=some (vl 10 p) then (false,0) else (true,vl 10 p):=hq;show(if p=[] then some (false,0) else if p.all ten=true/\vl 10 p<=65535 then (if o=some (vl 10 p) then some (false,0) else some (true,vl 10 p)) else none)=_;by_cases hp:p=[]
  ·rw[if_pos hp]at hq' ⊢;rw[hq']
  ·rw[if_neg hp]at hq' ⊢;rw[if_pos ⟨hq'.1,hq'.2.1⟩,hq'.2.2];split <;> rfl
theorem FD{o:Option Nat}{po:Option (List Int)}(h1:po.getD []≠[])(h2:¬ ((po.getD []).all ten=true/\vl 10 (po.getD [])<=65535)):por o po=none:=by
 cases po with
 | none=>exact absurd rfl h1
 | some p =>
  show(if p=[] then some (false,0) else if p.all ten=true/\vl 10 p<=65535 then (if o=some (vl 10 p) then some (false,0) else some (true,vl 10 p)) else none)=_;have h1':p≠[]:=h1;have h2':¬ (p.all ten=true/\vl 10 p<=65535):=h2;rw[if_neg h1',if_neg h2']
theorem Ra(w0 W:World)(b:Nat)(l:List Int)(h:S3 w0 b l W)(hG:GU w0):Calls prog 48 #[.pointer (some ⟨b,0,none⟩)] W fun e W'=>On w0 l (S4 w0 b l) e W':=by
 obtain⟨r,h,has,po,hS,hHQ,g1,g2,g3,g4,g5,g6,g7,g8,g9,g10,g11⟩:=h;refine(Bj w0 W b r [] hS (by omega) g3 g5 g6 hG).mono ?_;rintro e W' (⟨rfl,hp,n,hS',hq⟩ | ⟨rfl,h1,h2,hB⟩)
 ·rw[g9]at hq;exact .inl ⟨rfl,_,h,has,hS',hHQ,g1,g4,g7,⟨g8.op1,g8.op0,g8.hd,g8.sp⟩,g10 (hp,n) (FC hq)⟩
 ·rw[g9]at h1 h2;exact .inr ⟨131,by decide,rfl,⟨h,hHQ,g11 (FD h1 h2)⟩,hB⟩
theorem zz{l:List Int}:(l.takeWhile npq).head? = some 47↔l.head? = some 47:=by
 cases l with
 | nil=>simp
 | cons c t =>
  rw[List.takeWhile_cons];constructor
  ·intro h;split at h
   ·exact h
   ·cases h
  ·intro h;have hc:c=47:=by simpa using h
   subst hc;rfl
theorem QS{f:Int->Bool}{p:List Int}(h:p=[]\/∃ c t,p=c::t/\f c=true):un f p=(p.dropWhile (fun c=>!f c)).drop 1:=by
 rcases h with rfl | ⟨c,t,rfl,hc⟩
 ·rfl
 ·show(if f c=true then t else c::t)=_;rw[if_pos hc,List.dropWhile_cons,if_neg (by rw[hc];simp)];rfl
theorem NW(l:List Int):Hd (l.dropWhile npq):=by
 rcases tu (f:=npq) l with h | ⟨c,t,h,hc⟩
 ·exact .inl h
 ·exact .inr ⟨c,t,h,by unfold npq at hc;simpa using hc⟩
theorem GW{sp:Bool}{c:Int}(h:nau sp c=false):Y.sl sp c=true\/qm c=true:=by
 unfold nau at h;cases h1:Y.sl sp c
 ·right;rw[h1]at h;simpa using h
 ·exact .inl rfl
theorem Oy{sp:Bool}{c:Int}(h:Y.sl sp c=true):npq c=true:=by
 have hc:c=47\/c=92:=by
  unfold Y.sl at h;cases sp <;> simp at h
  ·exact .inl h
  ·exact h
 rcases hc with rfl | rfl <;> decide
theorem QZ(w0 W:World)(b:Nat)(l:List Int)(h:S4 w0 b l W)(hG:GU w0):Calls prog 49 #[.pointer (some ⟨b,0,none⟩)] W fun e W'=>On w0 l (S5 w0 b l) e W':=by
 obtain⟨r,h,has,hS,hHQ,g1,g2,g3,g4,g5⟩:=h;refine(Gg w0 W b r hS (by omega) g2 hG).mono ?_;rintro e W' ⟨rfl,⟨h1,h2,hS'⟩ | ⟨h1,t,v,qs,h2,h3,hS'⟩⟩
 ·refine .inl ⟨rfl,r,[],h,hS',hHQ,g1,⟨g3.2.1,g3.2.2.1,g3.2.2.2.1,g3.2.2.2.2⟩,?_⟩;have hno:¬ (r.sp=true\/((bn r.re).takeWhile npq).head? = some 47):=fun hh=>hh.elim (fun hx=>by rw[h1]at hx;cases hx) (fun hx=>h2 (zz.1 hx));rcases(show r.u.op=false\/r.u.op=true by cases r.u.op <;> simp) with ho | ho
  ·left;have hhas:has=true:=(g4.op0 ho).resolve_right h2
   have hhd:Hd (bn r.re):=by
    rcases g4.hd hhas with hx | ⟨c,t,hx,hc⟩
    ·exact .inl hx
    ·refine .inr ⟨c,t,hx,?_⟩;rcases GW hc with hs | hq
     ·exfalso;rw[h1]at hs;unfold Y.sl at hs;have:c=47:=by simpa using hs
      rw[hx,this]at h2;exact h2 rfl
     ·exact hq
   have hdw:(bn r.re).dropWhile npq=bn r.re:=by
    rcases hhd with hx | ⟨c,t,hx,hc⟩
    ·rw[hx];rfl
    ·rw[hx,List.dropWhile_cons,if_neg (by unfold npq;rw[hc];simp)]
   refine⟨ho,?_,hhd⟩;rw[g5];unfold tl;rw[if_neg hno,if_pos hhas,hdw];have:noq r.u=utl r.u []:=by unfold noq utl;rw[ho]
   rw[this]
  ·right;obtain⟨q1,q2,q3⟩:=g4.op1 ho;refine⟨ho,?_⟩;rw[g5];unfold tl;rw[if_neg hno,if_neg (by rw[q1];simp)];have:({ noq r.u with opq:=true,bod:=E.en 0 (U.dec ((bn r.re).takeWhile npq)) }:Ur)={ utl r.u []with bod:=E.en 0 (U.dec ((bn r.re).takeWhile npq)) }:=by unfold noq utl;rw[ho]
   rw[this]
 ·have ho:r.u.op=false:=by
   rcases(show r.u.op=false\/r.u.op=true by cases r.u.op <;> simp) with ho | ho
   ·exact ho
   ·obtain⟨_,q2,q3⟩:=g4.op1 ho;rcases h1 with hx | hx
    ·rw[q3]at hx;cases hx
    ·exact absurd hx q2
  refine .inl ⟨rfl,_,qs,h,hS',hHQ,?_,⟨g3.2.1,g3.2.2.1,g3.2.2.2.1,g3.2.2.2.2⟩,.inl ⟨ho,?_,?_⟩⟩
  ·show t.size<=80000;rw[<-aa,h2];exact le_trans (iM _) (by rw[aa];exact g1)
  ·rw[g5];show(tl r.sp has (noq r.u) (bn r.re),(0:Int))=(qf r.sp (utl { r.u with pv:=v } qs) (bn t),0);unfold tl;rw[if_pos (h1.elim .inl (fun hx=>.inr (zz.2 hx))),h2]
   have hun:lst r.sp ((bn r.re).takeWhile npq)=qs.map bn:=by
    unfold lst;rw[h3,QS];rcases h1 with hx | hx
    ·rcases g4.hd (g4.sp hx) with hy | ⟨c,t,hy,hc⟩
     ·rw[hy];exact .inl rfl
     ·rw[hy,List.takeWhile_cons];rcases GW hc with hs | hq
      ·rw[if_pos (Oy hs)];exact .inr ⟨c,_,rfl,hs⟩
      ·rw[if_neg (by unfold npq;rw[hq];simp)];exact .inl rfl
    ·cases hr:bn r.re with
     | nil=>exact .inl rfl
     | cons c t =>
      rw[hr]at hx;have hc:c=47:=by simpa using hx
      subst hc;rw[List.takeWhile_cons,if_pos (by decide)];exact .inr ⟨47,_,rfl,by cases r.sp <;> decide⟩
   have:({ noq r.u with pth:=lst r.sp ((bn r.re).takeWhile npq) }:Ur)=utl { r.u with pv:=v } qs:=by rw[hun];unfold noq utl;rw[ho]
   rw[this]
  ·show Hd (bn t);rw[h2];exact NW _
theorem QY(w0 W:World)(b:Nat)(l:List Int)(h:S5 w0 b l W):Calls prog 50 #[.pointer (some ⟨b,0,none⟩)] W fun e W'=>On w0 l (S6 w0 b l) e W':=by
 obtain⟨r,ps,h,hS,hHQ,g1,g2,g3⟩:=h;refine(yc w0 W b r ps hS (by omega)).mono ?_;rintro e W' ⟨rfl,⟨h1,hS'⟩ | ⟨h1,bo,t,h2,h3,hS'⟩⟩
 ·rcases g3 with⟨_,q1,q2⟩ | ⟨q0,_⟩
  ·exact .inl ⟨rfl,r,ps,h,hS',hHQ,g1,g2,q1,q2⟩
  ·rw[h1]at q0;cases q0
 ·rcases g3 with⟨q0,_⟩ | ⟨_,q1⟩
  ·rw[h1]at q0;cases q0
  ·refine .inl ⟨rfl,_,ps,h,hS',hHQ,?_,g2,?_,?_⟩
   ·show t.size<=80000;rw[<-aa,h3];exact le_trans (iM _) (by rw[aa];exact g1)
   ·rw[q1];show _=(qf r.sp (utl { r.u with bo:=bo } ps) (bn t),0);rw[h3,<-h2];rfl
   ·show Hd (bn t);rw[h3];exact NW _
theorem QX(w0 W:World)(b:Nat)(l:List Int)(h:S6 w0 b l W):Calls prog 51 #[.pointer (some ⟨b,0,none⟩)] W fun e W'=>On w0 l (S7 w0 b l) e W':=by
 obtain⟨r,ps,h,hS,hHQ,g1,g2,g3,g4⟩:=h;refine(Bt w0 W b r ps hS (by omega)).mono ?_;rintro e W' ⟨rfl,⟨h1,hS'⟩ | ⟨h1,q,t,h2,h3,hS'⟩⟩
 ·have hu:utl { r.u with hq:=false } ps=utl r.u ps:=by unfold utl;rw[g2.1]
  refine .inl ⟨rfl,_,ps,h,hS',hHQ,g1,g2.2.2.1,g2.2.2.2,?_,?_⟩
  ·rw[g3];show(qf r.sp (utl r.u ps) (bn r.re),(0:Int))=(fr (utl { r.u with hq:=false } ps) (bn r.re),0);rw[hu];cases hr:bn r.re with
   | nil=>rfl
   | cons c t =>
    show((if c=63 then _ else fr (utl r.u ps) (c::t)),(0:Int))=_;rw[if_neg (fun e=>h1 (by rw[hr,e];rfl))]
  ·show bn r.re=[]\/(bn r.re).head? = some 35;rcases g4 with hx | ⟨c,t,hx,hc⟩
   ·exact .inl hx
   ·right;rw[hx]at h1 ⊢;unfold qm at hc;have:c=63\/c=35:=by simpa using hc
    rcases this with rfl | rfl
    ·exact absurd rfl h1
    ·rfl
 ·refine .inl ⟨rfl,_,ps,h,hS',hHQ,?_,g2.2.2.1,g2.2.2.2,?_,?_⟩
  ·show t.size<=80000;rw[<-aa,h3];refine le_trans (iM _) ?_;rw[length_drop,aa];omega
  ·rw[g3];show _=(fr (utl { r.u with hq:=true,qu:=q } ps) (bn t),0);cases hr:bn r.re with
   | nil=>rw[hr]at h1;cases h1
   | cons c l2 =>
    rw[hr]at h1 h2 h3;have hc:c=63:=by simpa using h1
    subst hc;have hqf:qf r.sp (utl r.u ps) (63::l2)=fr { utl r.u ps with hq:=true,qry:=E.en (if r.sp=true then 3 else 2) (U.dec (l2.takeWhile kD)) } (l2.dropWhile kD):=rfl;have h3':bn t=l2.dropWhile kD:=h3;rw[hqf,h3'];have h2':bn q=E.en (if r.sp=true then 3 else 2) (U.dec (l2.takeWhile kD)):=h2;rw[<-h2'];rfl
  ·show bn t=[]\/(bn t).head? = some 35;rw[h3];rcases tu (f:=kD) ((bn r.re).drop 1) with hx | ⟨c,t2,hx,hc⟩
   ·exact .inl hx
   ·right;rw[hx];unfold kD at hc;have:c=35:=by simpa using hc
    rw[this];rfl
theorem eC:U.dec []=[]:=rfl
theorem QW(w0 W:World)(b:Nat)(l:List Int)(h:S7 w0 b l W):Calls prog 52 #[.pointer (some ⟨b,0,none⟩)] W fun e W'=>On w0 l (S8 w0 b l) e W':=by
 obtain⟨r,ps,h,hS,hHQ,g1,g2,g3,g4,g5⟩:=h;refine(th w0 W b r ps hS (by omega)).mono ?_;rintro e W' ⟨rfl,t,f,h1,h2,hS'⟩;refine .inl ⟨rfl,_,ps,h,hS',hHQ,?_⟩;rw[g4];show _=(utl { r.u with hf:=decide ((bn r.re).head? = some 35),fg:=f } ps,(0:Int));rcases g5 with hx | hx
 ·rw[hx]at h1 ⊢;have ht:bn t=[]:=h1;rw[ht,eC]at h2;have hf:f=em:=bC h2;subst hf;show(utl r.u ps,(0:Int))=(utl { r.u with hf:=false,fg:=em } ps,0);unfold utl;rw[g2,g3]
 ·cases hr:bn r.re with
  | nil=>rw[hr]at hx;cases hx
  | cons c t2 =>
   rw[hr]at hx h1;have hc:c=35:=by simpa using hx
   subst hc;have ht:bn t=t2:=h1;rw[ht]at h2;show({ utl r.u ps with hf:=true,frg:=E.en 1 (U.dec t2) },(0:Int))=(utl { r.u with hf:=true,fg:=f } ps,0);rw[<-h2];rfl
def fno:Nat->Nat
 | 0=>45
 | 1=>46
 | 2=>47
 | 3=>48
 | 4=>49
 | 5=>50
 | 6=>51
 | _=>52
theorem Ba(b:Nat)(W:World):Calls prog 25 #[.pointer (some ⟨b,0,none⟩)] W fun e W'=>e=.returned (.slice (some ⟨W.heap.size,0,none⟩) 8 8)/\(∃ T,W'.heap[W.heap.size]? = some (.cells (fns b) T (0,0)))/\Below W.heap.size W W':=by go_enter func25,ntmps25;go_wp2;go_ret;exact⟨rfl,⟨_,aK W _ _⟩,(Below.refl _ W).alloc (le_refl _) _⟩
theorem Qc(b i:Nat)(hi:i<8):(fns b)[i]? = some (.func (.func (fno i)) #[.pointer (some ⟨b,0,none⟩)] #[]):=by rcases(show i=0\/i=1\/i=2\/i=3\/i=4\/i=5\/i=6\/i=7 by omega) with rfl | rfl | rfl | rfl | rfl | rfl | rfl | rfl <;> rfl
theorem yF(i:Nat)(hi:i<8):∀ args w,(callFunc (fno i) args).run prog w=.ok (.enter (fno i) args) w:=by
 rcases(show i=0\/i=1\/i=2\/i=3\/i=4\/i=5\/i=6\/i=7 by omega) with rfl | rfl | rfl | rfl | rfl | rfl | rfl | rfl
 ·exact enters_of func45 (by kernel_rfl) rfl
 ·exact enters_of func46 (by kernel_rfl) rfl
 ·exact enters_of func47 (by kernel_rfl) rfl
 ·exact enters_of func48 (by kernel_rfl) rfl
 ·exact enters_of func49 (by kernel_rfl) rfl
 ·exact enters_of func50 (by kernel_rfl) rfl
 ·exact enters_of func51 (by kernel_rfl) rfl
 ·exact enters_of func52 (by kernel_rfl) rfl
def Sq(w0:World)(b:Nat)(l:List Int):Nat->World->Prop
 | 0=>S0 w0 b l
 | 1=>S1 w0 b l
 | 2=>S2 w0 b l
 | 3=>S3 w0 b l
 | 4=>S4 w0 b l
 | 5=>S5 w0 b l
 | 6=>S6 w0 b l
 | 7=>S7 w0 b l
 | _=>S8 w0 b l
theorem EJ(w0 W:World)(b:Nat)(l:List Int)(i:Nat)(hi:i<8)(h:Sq w0 b l i W)(hG:GU w0):Calls prog (fno i) #[.pointer (some ⟨b,0,none⟩)] W fun e W'=>On w0 l (Sq w0 b l (i+1)) e W':=by
 rcases(show i=0\/i=1\/i=2\/i=3\/i=4\/i=5\/i=6\/i=7 by omega) with rfl | rfl | rfl | rfl | rfl | rfl | rfl | rfl
 ·show Calls prog 45 #[.pointer (some ⟨b,0,none⟩)] W fun e W'=>On w0 l (S1 w0 b l) e W';exact Rb w0 W b l h
 ·show Calls prog 46 #[.pointer (some ⟨b,0,none⟩)] W fun e W'=>On w0 l (S2 w0 b l) e W';exact step1 w0 W b l h
 ·show Calls prog 47 #[.pointer (some ⟨b,0,none⟩)] W fun e W'=>On w0 l (S3 w0 b l) e W';exact step2 w0 W b l h hG
 ·show Calls prog 48 #[.pointer (some ⟨b,0,none⟩)] W fun e W'=>On w0 l (S4 w0 b l) e W';exact Ra w0 W b l h hG
 ·show Calls prog 49 #[.pointer (some ⟨b,0,none⟩)] W fun e W'=>On w0 l (S5 w0 b l) e W';exact QZ w0 W b l h hG
 ·show Calls prog 50 #[.pointer (some ⟨b,0,none⟩)] W fun e W'=>On w0 l (S6 w0 b l) e W';exact QY w0 W b l h
 ·show Calls prog 51 #[.pointer (some ⟨b,0,none⟩)] W fun e W'=>On w0 l (S7 w0 b l) e W';exact QX w0 W b l h
 ·show Calls prog 52 #[.pointer (some ⟨b,0,none⟩)] W fun e W'=>On w0 l (S8 w0 b l) e W';exact QW w0 W b l h
theorem Sq.st{w0 W:World}{b:Nat}{l:List Int}(i:Nat)(h:Sq w0 b l i W):∃ r ps,St w0 b W r ps:=by
 match i,h with
 | 0,⟨_,_,_,h⟩=>exact⟨_,_,h⟩
 | 1,⟨_,_,_,_,_,h⟩=>exact⟨_,_,h⟩
 | 2,⟨_,_,_,_,_,_,_,_,_,h⟩=>exact⟨_,_,h⟩
 | 3,⟨_,_,_,_,h,_⟩=>exact⟨_,_,h⟩
 | 4,⟨_,_,_,h,_⟩=>exact⟨_,_,h⟩
 | 5,⟨_,_,_,h,_⟩=>exact⟨_,_,h⟩
 | 6,⟨_,_,_,h,_⟩=>exact⟨_,_,h⟩
 | 7,⟨_,_,_,h,_⟩=>exact⟨_,_,h⟩
 | i+8,h =>
  obtain⟨r,ps,_,h,_⟩:=(h:S8 w0 b l W);exact⟨r,ps,h⟩
theorem dS{fn:Func}{p u:Tmp}{ty:TypeId}(h:fn.results=#[.cell p ty,.tmp u])(tmps:Array Value)(w:World)(g:Nat)(t:TypeId)(cs:Array Value)(fr:Nat×Nat)(fs:Array Field)
  (hp:tmps.getD p undef=.pointer (some ⟨g,0,none⟩)) (hg:w.heap[g]? = some (.cells cs t fr))
  (hu:prog.underlying ty=some (.struct fs)) (hi:(prog.info? ty).map (·.size)=some cs.size) :
  (results fn tmps).run prog w=.ok (.tuple #[.agg cs,tmps.getD u undef]) w:=by
 rw[results_cell_tmp h];have hp':tmps[p]?.getD undef=.pointer (some ⟨g,0,none⟩):=by simpa using hp
 simp[hp',asAddr,run_loadVar_row w g t ty cs fr (.struct fs) hg hu rfl hi]
def JM(l:List Int)(w:World)(e:Ending)(W':World):Prop :=
 (∃(a:Us) (u:Ur) (er:Int),UP H.IA l (u,er)/\At W' a u/\e=.returned (.tuple #[.agg (Us.cs a),.int .i64 er]))/\Below w.heap.size w W'
theorem Oa(w:World):At w zs zu:=⟨rfl,rfl,rfl,rfl,rfl,rfl,rfl,rfl,rfl,rfl,rfl,rfl,rfl,[],rfl,.inl ⟨rfl,rfl⟩⟩
theorem QE{w:World}{a:Us}{ps:List ByteArray}(h:Strs w a.pv ps):At w a (utl a ps):=⟨rfl,rfl,rfl,rfl,rfl,rfl,rfl,rfl,rfl,rfl,rfl,rfl,rfl,ps,rfl,h⟩
def z24:Array Value:=#[.string ⟨#[]⟩,.string ⟨#[]⟩,.string ⟨#[]⟩,.bool false,.int .u8 0,.string ⟨#[]⟩,.int .u32 0,.int .u16 0,.int .u16 0,.int .u16 0,.int .u16 0,.int .u16 0,.int .u16 0,.int .u16 0,.int .u16 0,.bool false,.int .u16 0,.bool false,.slice none 0 0,.string ⟨#[]⟩,.bool false,.string ⟨#[]⟩,.bool false,.string ⟨#[]⟩]
theorem NL:Us.cs zs=z24:=by kernel_rfl
theorem xY(s:ByteArray)(hs:4096<s.size)(hz:s.size<=400000000)(w:World):Calls prog 11 #[.string s] w fun e W'=>JM (bn s) w e W':=by
 have hsz:(4096:Int)<(s.size:Int):=by omega
 have HU:Hid (UP H.IA (bn s) (zu,4)):=by show UP _ _ _;unfold UP;rw[if_pos (by rw[aa];exact hs)]
 obtain⟨V0,hV0⟩:=Ex' (w.alloc (.cells zc 42));have A0:V0.heap[w.heap.size]? = some (.cells z24 42 (0,0)):=by rw[<-hV0];exact aK w _ _
 have B0:Below w.heap.size w V0:=by rw[<-hV0];exact(Below.refl _ w).alloc (le_refl _) _
 have HA0:=hid A0;have HB0:=hid B0;have HI:Hid ((prog.info? 42).map (·.size)=some z24.size):=by show _=_;kernel_rfl
 have HO:Hid (z24.all (·.oneCell')=true):=by show _=_;kernel_rfl
 have HSZ:Hid (z24.size=24):=by show _=_;rfl
 clear A0 B0 hs;go_enter func11,ntmps11;go_wp2_with(refine wpList_store_row rfl 42 (.tmp 2) (.tmp 11) rfl w.heap.size z24 rfl rfl 42 z24 HA0.out HI.out rfl HO.out ?_);exact bodyPost_ret (dS results11 _ _ w.heap.size 42 z24 (0,0) _ rfl (setRow_heap V0 w.heap.size _ z24 42 _ HA0.out) underlying42 HI.out) rfl ⟨⟨zs,zu,4,HU.out,Oa _,by rw[NL];rfl⟩,dC HB0.out (le_refl _) _⟩
theorem Ol{w0 W:World}{b:Nat}{r:Rd}{ps:List ByteArray}(h:St w0 b W r ps):W.rangeAt b 0 (Us.cs r.u).toList:=fun j v hv=>by rw[Nat.zero_add,cell_of_row _ _ j _ _ _ h.row];have hj:=(List.getElem?_eq_some_iff.1 hv).1;have hj24:j<24:=hj;rw[<-Array.getElem?_toList,<-hv];show(Rd.cs r).toList[j]? = (Us.cs r.u).toList[j]?;have e:(Rd.cs r).toList=(Us.cs r.u).toList++[.string r.re,.bool r.sp,.string r.sl,.string r.po]:=rfl;rw[e,List.getElem?_append_left hj]
theorem uU(s:ByteArray)(hs:s.size<=4096)(w:World)(hG:GU w):Calls prog 11 #[.string s] w fun e W'=>JM (bn s) w e W':=by
 have hsz:¬ (4096:Int)<(s.size:Int):=by omega
 have hl4:¬ 4096<(bn s).length:=by rw[aa];omega
 obtain⟨l,hl⟩:=Ex' (cln (bn s));have HUP:Hid (∀(h:H.Hst) (u:Ur) (er:Int),HQ l h->rdc l h=(u,er)->UP H.IA (bn s) (u,er)):=fun h u er h1 h2=>by show UP _ _ _;unfold UP;rw[if_neg hl4,hl];exact⟨h,h1,h2.symm⟩
 obtain⟨V0,hV0⟩:=Ex' (w.alloc (.cells zc 42));have A0:V0.heap[w.heap.size]? = some (.cells z24 42 (0,0)):=by rw[<-hV0];exact aK w _ _
 have B0:Below w.heap.size w V0:=by rw[<-hV0];exact(Below.refl _ w).alloc (le_refl _) _
 have HA0:=hid A0;have HB0:=hid B0;have HG:=hid hG;have HTD:=hid (Ev s (by omega) V0 (hG.2.below B0));rw[hl]at HTD
 have HLS:Hid (∀ t:ByteArray,bn t=l->t.size<=80000):=fun t ht=>by
  rw[<-aa,ht,<-hl];unfold cln;have h1:=U.dQ ((strip (U.dec (bn s))).filter (fun c=>!tab c));have h2:=List.length_filter_le (fun c=>!tab c) (strip (U.dec (bn s)));have h3:(strip (U.dec (bn s))).length<=(U.dec (bn s)).length:=by unfold strip;rw[length_reverse];refine le_trans (iM _) ?_;rw[length_reverse];exact iM _
  have h4:=U.dK (U.bn s).length (U.bn s) (le_refl _) (U.aL s);rw[U.aa]at h4;have h5:(U.dec (bn s)).length<=s.size:=h4;omega
 have HI:Hid ((prog.info? 42).map (·.size)=some z24.size):=by show _=_;kernel_rfl
 have HO:Hid (z24.all (·.oneCell')=true):=by show _=_;kernel_rfl
 clear A0 B0 hs hG hl hl4;go_enter func11,ntmps11;go_wp2_with fail;clear hV0;refine HTD.out.mono ?_;rintro e w1 ⟨⟨t,rfl,ht⟩,B1⟩;have HT:=hid ht;have HB1:=Bt' HB0 B1;have HA1:Hid (w1.heap[w.heap.size]? = some (.cells z24 42 (0,0))):=(B1.block _ (Array.getElem?_eq_some_iff.1 HA0.out).1).trans HA0.out;obtain⟨w2,hw2⟩:=Ex' (w1.alloc (.cells #[.string ⟨#[]⟩,.string ⟨#[]⟩,.string ⟨#[]⟩,.bool false,.int .u8 0,.string ⟨#[]⟩,.int .u32 0,.int .u16 0,.int .u16 0,.int .u16 0,.int .u16 0,.int .u16 0,.int .u16 0,.int .u16 0,.int .u16 0,.bool false,.int .u16 0,.bool false,.slice none 0 0,.string ⟨#[]⟩,.bool false,.string ⟨#[]⟩,.bool false,.string ⟨#[]⟩,.string t,.bool false,.string ⟨#[]⟩,.string ⟨#[]⟩] 63));have A2:w2.heap[w1.heap.size]? = some (.cells (Rd.cs ⟨zs,t,false,em,em⟩) 63 (0,0)):=by rw[<-hw2];exact aK w1 _ _
 have B2:Below w1.heap.size w1 w2:=by rw[<-hw2];exact(Below.refl _ w1).alloc (le_refl _) _
 have Z2:w2.heap.size=w1.heap.size+1:=by rw[<-hw2];simp
 obtain⟨b,hb⟩:=Ex' w1.heap.size;have HSTP:=hid (Ba b w2);have HX:Hid (∀(V:World),(∃ T,V.heap[b+1]? = some (.cells (fns b) T (0,0)))->Below (b+1) w2 V->Sq w1 b l 0 V):=fun V hk hB=>by refine⟨t,HT.out,HLS.out t HT.out,?_,B2.trans (hB.mono (by omega)),by omega,hk,World.ownsRow_nil _ _ _ _⟩;rw[hB.block b (by omega),<-hb];exact A2
 rw[Z2,hb]at HSTP;have HLO:=hid hb;have HZ2:=hid Z2;clear ht B1 HA0 HB0 HTD HLS A2 B2 Z2;go_wp2_with fail;clear hw2 hb;refine HSTP.out.mono ?_;rintro e w3 ⟨rfl,hk,B3⟩;have HS0:=hid (HX.out w3 hk B3);have HGB:Hid (GU w1):=HG.out.below HB1.out
 -- what is said at the end
 have HERR:Hid (∀(V:World) (er:Int),Bad l er->Below w1.heap.size w1 V->∀ V',V'=V.setRow w.heap.size z24->V'.heap[w.heap.size]? = some (.cells z24 42 (0,0))/\JM (bn s) w (.returned (.tuple #[.agg z24,.int .i64 er])) V'):=fun V er ⟨h,h1,h2⟩ hB V' e=>by subst e;have hr:V.heap[w.heap.size]? = some (.cells z24 42 (0,0)):=(hB.block _ (Array.getElem?_eq_some_iff.1 HA1.out).1).trans HA1.out;have hBw:Below w.heap.size w V:=HB1.out.trans (hB.mono HB1.out.size);exact⟨setRow_heap V w.heap.size _ z24 42 _ hr,⟨zs,zu,er,HUP.out h zu er h1 h2,Oa _,by rw[NL]⟩,dC hBw (le_refl _) _⟩
 have HROW:Hid (∀ V:World,Below w1.heap.size w1 V->V.heap[w.heap.size]? = some (.cells z24 42 (0,0))):=fun V hB=>(hB.block _ (Array.getElem?_eq_some_iff.1 HA1.out).1).trans HA1.out
 have HOK:Hid (∀(V:World) (r:Rd) (ps:List ByteArray) (h:H.Hst),St w1 b V r ps->HQ l h->rdc l h=(utl r.u ps,0)->(V.setRow w.heap.size (Us.cs r.u)).heap[w.heap.size]? = some (.cells (Us.cs r.u) 42 (0,0))/\JM (bn s) w (.returned (.tuple #[.agg (Us.cs r.u),.int .i64 0])) (V.setRow w.heap.size (Us.cs r.u))):=fun V r ps h hS h1 h2=>by
  have hr:=HROW.out V hS.lo;have hBw:Below w.heap.size w V:=HB1.out.trans (hS.lo.mono HB1.out.size);have hlt:w.heap.size<b:=by have h3:=(Array.getElem?_eq_some_iff.1 HA1.out).1;have h4:=HLO.out;omega
  have hst:Strs (V.setRow w.heap.size (Us.cs r.u)) r.u.pv ps:=xJ (W:=V.setRow w.heap.size (Us.cs r.u)) hS.ow (fun k hk=>setRow_other V w.heap.size k _ (by omega));exact⟨setRow_heap V w.heap.size _ _ 42 _ hr,⟨r.u,utl r.u ps,0,HUP.out h _ 0 h1 h2,QE hst,rfl⟩,dC hBw (le_refl _) _⟩
 clear HSTP HX hk B3 HT HA1 HB1 HG HUP HLO HZ2;go_wp2_with fail
 go_loopw [6,7,19] (fun _ _ v19 wr=>∃ i:Nat,i<=8/\v19=.int .i64 i/\Hid (Sq w1 b l i wr)) (fun _ _ v19 _=>8 - (intOf v19).toNat)
 case atStart=>exact⟨0,by omega,rfl,HS0.out⟩
 case round =>
  obtain⟨i,hi,rfl,HR⟩:=hrel;clear HS0;by_cases hlt:i<8
  ·have hltz:(i:Int)<8:=by omega
   obtain⟨r,ps,hS⟩:=Sq.st i HR.out;obtain⟨T,hT⟩:=hS.ks;have hcell:wr.cell? ⟨b+1,i,none⟩=some (.func (.func (fno i)) #[.pointer (some ⟨b,0,none⟩)] #[]):=(cell_of_row _ _ i _ _ _ hT).trans (Qc b i hlt);have eg:=yF i hlt;have HD:=hid (EJ w1 wr b l i hlt HR.out HGB.out);obtain⟨g,hg⟩:=Ex' (fno i);rw[hg]at hcell eg HD;clear hS hT HR hg;go_wp2_with fail;refine HD.out.mono ?_;clear HD hcell eg;rintro e w4 (⟨rfl,hN⟩ | ⟨er,hne,rfl,hbad,hB⟩)
   ·have HN:=hid hN;clear hN;go_wp2
    go_roundw
    case rel=>exact⟨i+1,by omega,by go_num,HN.out⟩
    case measure=>simp[intOf];omega
   ·have hneb:(er==0)=false:=beq_eq_false_iff_ne.2 hne;have HA4:=hid (HROW.out w4 hB);obtain⟨q1,q2⟩:=HERR.out w4 er hbad hB _ rfl;have HQ1:=hid q1;have HQ2:=hid q2;clear hne hbad hB q1 q2 HERR HROW HOK;go_wp2_with(refine wpList_store_row rfl 42 (.tmp 2) (.tmp 27) rfl w.heap.size z24 rfl rfl 42 z24 HA4.out HI.out rfl HO.out ?_);exact bodyPost_ret (dS results11 _ _ w.heap.size 42 z24 (0,0) _ rfl HQ1.out underlying42 HI.out) rfl HQ2.out
  ·obtain rfl:i=8:=by omega
   obtain⟨r,ps,h,hS,h1,h2⟩:=(HR.out:S8 w1 b l wr);have HA4:=hid (HROW.out wr hS.lo);obtain⟨q1,q2⟩:=HOK.out wr r ps h hS h1 h2;have HQ1:=hid q1;have HQ2:=hid q2;have HRG:=hid (Ol hS);obtain⟨ad,c,hpv⟩:∃ ad c,r.u.pv=.slice ad ps.length c:=kB hS.ow;have HON:Hid ((Us.cs r.u).all (·.oneCell')=true):=by show _=_;have:=QR r.u ad ps.length c;rw[<-hpv]at this;exact this
   have HIU:=hid (ug r.u);have HIL:Hid ((prog.info? 42).map (·.size)=some (Us.cs r.u).toList.length):=by show _=_;rw[length_toList];exact HIU.out
   obtain⟨cs,hcs⟩:=Ex' (Us.cs r.u);have HSZ:Hid (cs.size=24):=by show _=_;rw[<-hcs];rfl
   rw[hcs]at HQ1 HQ2 HRG HON HIU HIL;clear hS h1 h2 q1 q2 hpv hcs HERR HROW HOK HR
   go_wp2_with(first
     | (refine wpList_load_mid rfl 42 (.tmp 32) rfl b 0 rfl cs.toList _ HRG.out underlying42 rfl HIL.out ?_)
     | (refine wpList_store_row rfl 42 (.tmp 2) (.tmp 33) rfl w.heap.size cs rfl rfl 42 z24 HA4.out HIU.out (by rw[HSZ.out];rfl) HON.out ?_))
   exact bodyPost_ret (dS results11 _ _ w.heap.size 42 cs (0,0) _ rfl HQ1.out underlying42 HIU.out) rfl HQ2.out
theorem xZ(s:ByteArray)(hs:s.size<=100000)(w:World)(hG:GU w):Calls prog 11 #[.string s] w fun e W'=>JM (bn s) w e W':=by
 by_cases h:4096<s.size
 ·exact xY s h (by omega) w
 ·exact uU s (by omega) w hG
def Sz(u:Ur):Prop:=u.sch.length<=400000000/\u.usr.length<=400000000/\u.pas.length<=400000000/\u.hst.2.1.length<=400000000/\(H.txt (u.hst.1,u.hst.2.1,u.hst.2.2.1,u.hst.2.2.2,0)).length<=400000000/\(u.pth.flatMap (fun p=>47::p)).length<=400000000/\u.bod.length<=400000000/\u.qry.length<=400000000/\u.frg.length<=400000000
def Lim(u:Ur):Prop:=u.hst.1<256/\u.hst.2.2.1<4294967296/\u.hst.2.2.2.length=8/\X.Small u.hst.2.2.2/\u.prt<65536/\Sz u/\u.pth.length<=1000000
theorem Fj{w:World}{a:Us}{u:Ur}(h:At w a u):∃ ad n c,a={ a with pv:=.slice ad n c }:=by obtain⟨ps,_,hs⟩:=h.pv;obtain⟨ad,c,e,_⟩:=hs.form;exact⟨ad,ps.length,c,by rw[<-e]⟩
theorem JY{w:World}{a:Us}{u:Ur}(h:At w a u):(Us.cs a).all (·.oneCell')=true:=by obtain⟨ad,n,c,e⟩:=Fj h;rw[e];exact QR a ad n c
theorem eM(W:World)(a:Us):((W.alloc (.cells zc 42)).setRow W.heap.size (Us.cs a)).heap[W.heap.size]? = some (.cells (Us.cs a) 42 (0,0))/\Below W.heap.size W ((W.alloc (.cells zc 42)).setRow W.heap.size (Us.cs a)) :=
 ⟨setRow_heap _ _ _ _ _ _ (aK W _ _),dC ((Below.refl _ W).alloc (le_refl _) _) (le_refl _) _⟩
theorem gM:Lim zu:=⟨by decide,by decide,rfl,by unfold X.Small;decide,by decide,by unfold Sz;decide +kernel,by decide⟩
def B2(l:List Int):Prop:=U.Bytes l/\l.length<=20000
theorem B2.sub{l x:List Int}(h:B2 l)(hs:x.Sublist l):B2 x:=⟨fun b hb=>h.1 b (hs.subset hb),le_trans hs.length_le h.2⟩
theorem en1{k:Nat}{x:List Int}(h:U.Bytes x):(E.en k (U.dec x)).length<=12 * x.length:=by have h1:=E.yJ k (U.dec x);have h2:=U.dK x.length x (le_refl _) h;omega
theorem en2{k:Nat}{x:List Int}(h:B2 x):(E.en k (U.dec x)).length<=400000000:=by have h1:=en1 (k:=k) h.1;have h2:=h.2;omega
theorem Iu{u:Ur}{l:List Int}(h:Lim u)(hl:B2 l):Lim (fr u l):=by
 cases l with
 | nil=>exact h
 | cons c r =>
  obtain⟨a,b,c',d,e,⟨s1,s2,s3,s4,s5,s6,s7,s8,s9⟩,g⟩:=h;exact⟨a,b,c',d,e,⟨s1,s2,s3,s4,s5,s6,s7,s8,en2 (hl.sub (sublist_cons_self _ _))⟩,g⟩
theorem OH{sp:Bool}{u:Ur}{l:List Int}(h:Lim u)(hl:B2 l):Lim (qf sp u l):=by
 cases l with
 | nil=>exact h
 | cons c r =>
  have hr:B2 r:=hl.sub (sublist_cons_self _ _);rw[qf];split
  ·refine Iu ?_ (hr.sub (dropWhile_sublist _));obtain⟨a,b,c',d,e,⟨s1,s2,s3,s4,s5,s6,s7,s8,s9⟩,g⟩:=h;exact⟨a,b,c',d,e,⟨s1,s2,s3,s4,s5,s6,s7,en2 (hr.sub (takeWhile_sublist _)),s9⟩,g⟩
  ·exact Iu h hl
def mm(xs:List (List Int)):Nat:=(xs.flatMap (fun p=>(47:Int)::p)).length
theorem sU(a b:List (List Int)):mm (a++b)=mm a+mm b:=by unfold mm;rw[List.flatMap_append,length_append]
theorem iZ(x:List Int)(t:List (List Int)):mm (x::t)=x.length+1+mm t:=by show((47::x)++t.flatMap _).length=_;rw[length_append];rfl
theorem Ha:∀ xs:List (List Int),xs.length<=mm xs
 | []=>zero_le _
 | x::t=>by have:=Ha t;rw[iZ];show t.length+1<=_;omega
theorem LW(xs:List (List Int)):mm xs.dropLast<=mm xs:=by
 by_cases h:xs=[]
 ·rw[h];exact le_refl _
 ·have e:=List.dropLast_concat_getLast h;have:=sU xs.dropLast [xs.getLast h];rw[e]at this;omega
theorem ET(f:Int->Bool):∀ l:List Int,mm (spl f l)=l.length+1
 | []=>rfl
 | c::t=>by
  have ih:=ET f t;rw[spl];split
  ·rw[iZ,ih];simp;omega
  ·cases hs:spl f t with
   | nil=>exact absurd hs (aV f t)
   | cons a r =>
    rw[hs,iZ]at ih;rw[iZ];show(a.length+1)+1+mm r=(t.length+1)+1;omega
theorem PC(x:List Int):mm [x]=x.length+1:=by rw[iZ];rfl
theorem sP:∀(xs acc:List (List Int)),(∀ x∈xs,U.Bytes x)->mm (nrm acc xs)<=mm acc+12 * mm xs
 | [],acc,_=>by rw[nrm];exact Nat.le_add_right _ _
 | x::t,acc,h=>by
  have ht:∀ y∈t,U.Bytes y:=fun y hy=>h y (List.mem_cons_of_mem _ hy);have h1:mm [([]:List Int)]=1:=rfl;have h2:=LW acc;have h3:=iZ x t;rw[nrm];split
  ·have ih:=sP t (if t=[] then acc++[[]] else acc) ht;split at ih
   ·rw[sU,h1]at ih;rename_i ht0;rw[if_pos ht0];omega
   ·rename_i ht0;rw[if_neg ht0];omega
  split
  ·have ih:=sP t (if t=[] then acc.dropLast++[[]] else acc.dropLast) ht;split at ih
   ·rw[sU,h1]at ih;rename_i ht0;rw[if_pos ht0];omega
   ·rename_i ht0;rw[if_neg ht0];omega
  ·have ih:=sP t (acc++[E.en 4 (U.dec x)]) ht;rw[sU,PC]at ih;have:=en1 (k:=4) (h x List.mem_cons_self);omega
theorem Om(f:Int->Bool):∀ l:List Int,(un f l).Sublist l
 | []=>List.Sublist.refl _
 | c::t=>by
  rw[un];split
  ·exact sublist_cons_self _ _
  ·exact List.Sublist.refl _
theorem PF{sp:Bool}{p:List Int}(h:B2 p):mm (lst sp p)<=300000:=by have hu:=h.sub (Om (sl sp) p);have:=sP (spl (sl sp) (un (sl sp) p)) [] (fun x hx c hc=>hu.1 c (kn hx c hc).2);rw[ET]at this;have h0:mm ([]:List (List Int))=0:=rfl;have h1:=hu.2;unfold lst;omega
theorem Eo{sp has:Bool}{u:Ur}{l:List Int}(h:Lim u)(hl:B2 l):Lim (tl sp has u l):=by
 unfold tl;refine OH ?_ (hl.sub (dropWhile_sublist _));have ht:B2 (l.takeWhile npq):=hl.sub (takeWhile_sublist _);obtain⟨a,b,c',d,e,⟨s1,s2,s3,s4,s5,s6,s7,s8,s9⟩,g⟩:=h;split
 ·have h1:=PF (sp:=sp) ht;have h2:=Ha (lst sp (l.takeWhile npq));exact⟨a,b,c',d,e,⟨s1,s2,s3,s4,s5,le_trans h1 (by decide),s7,s8,s9⟩,by show(lst sp (l.takeWhile npq)).length<=_;omega⟩
 split
 ·exact⟨a,b,c',d,e,⟨s1,s2,s3,s4,s5,s6,s7,s8,s9⟩,g⟩
 ·exact⟨a,b,c',d,e,⟨s1,s2,s3,s4,s5,s6,en2 ht,s8,s9⟩,g⟩
theorem wv:∀(l:List Int) (b:Bool),(hcut b l).1.Sublist l
 | [],_=>List.Sublist.refl _
 | c::t,b=>by
  rw[hcut];split
  ·exact List.nil_sublist _
  ·exact(wv t _).cons_cons c
theorem Nt(a:List Int):(beh a).Sublist a:=by have h:=(takeWhile_sublist (l:=a.reverse) oP).reverse;rw[List.reverse_reverse]at h;exact h
theorem NF(a:List Int):(ahd a).Sublist a:=by have h:=(((drop_sublist 1 _).trans (dropWhile_sublist (l:=a.reverse) oP))).reverse;rw[List.reverse_reverse]at h;exact h
theorem OW{o:Option Nat}{p:Option (List Int)}{q:Bool×Nat}(h:por o p=some q):q.2<65536:=by
 unfold por at h;split at h
 ·cases h;decide
 split at h
 ·cases h;decide
 split at h
 ·rename_i h1;split at h
  ·cases h;decide
  ·cases h;show F.vl 10 _<65536;have:=h1.2;omega
 ·cases h
theorem Mv{h:H.Hst}(hf:H.DL h)(hn:h.2.1.length<=400000000):(H.txt (h.1,h.2.1,h.2.2.1,h.2.2.2.1,0)).length<=400000000:=by
 have h4:=H.kf hf.f;have h6:=X.iT hf.a;unfold H.txt;split
 ·exact hn
 split
 ·show(F.txt h.2.2.1).length<=_;omega
 split
 ·show(91::(X.txt h.2.2.2.1++[93])).length<=_;simp;omega
 ·simp
theorem Sd{m:List Int}(hm:m.length<=20000):Lim { zu with sch:=m }:=by obtain⟨a,b,c',d,e,⟨s1,s2,s3,s4,s5,s6,s7,s8,s9⟩,g⟩:=gM;exact⟨a,b,c',d,e,⟨by show m.length<=_;omega,s2,s3,s4,s5,s6,s7,s8,s9⟩,g⟩
theorem Nv{A:List Int->List Int->Int->Prop}(hA:H.Asc A){m a:List Int}{h:H.Hst}(hm:m.length<=20000)(ha:B2 a)(hq:∀ x,ask (own m).isSome a=some x->H.HP A x (own m).isSome h):Lim (ath m a h).1:=by
 unfold ath;split
 ·exact gM
 split
 ·exact gM
 rename_i hn _;cases hk:ask (own m).isSome a with
 | none=>exact absurd hk hn
 | some x =>
  have hp:=hq x hk
  have hx:x=(hcut false (beh a)).1:=by
   unfold ask at hk;split at hk
   ·cases hk
   ·split at hk
    ·cases hk
    ·exact(Option.some.inj hk).symm
  have hxb:B2 x:=by rw[hx];exact ha.sub ((wv _ _).trans (Nt a))
  have hnl:=H.HP.nlen hA hxb.1 hp;have hf:=H.HP.fine hp;split
  ·exact gM
  ·rename_i q hq';have hah:=ha.sub (NF a);obtain⟨a0,b,c',d,e,⟨s1,s2,s3,s4,s5,s6,s7,s8,s9⟩,g⟩:=gM;refine⟨?_,hf.f,hf.a,hf.s,OW hq',⟨by show m.length<=_;omega,?_,?_,hnl,Mv hf hnl,s6,s7,s8,s9⟩,g⟩
   ·have:=hf.k;show h.1<256;omega
   ·show(if 64∈a then _ else _:List Int).length<=_;split
    ·exact en2 (hah.sub (takeWhile_sublist _))
    ·simp
   ·show(if 64∈a then _ else _:List Int).length<=_;split
    ·exact en2 (hah.sub ((drop_sublist 1 _).trans (dropWhile_sublist _)))
    ·simp
theorem KG{l m r:List Int}(h:sch l=some (m,r)):m.length<=l.length/\r.Sublist l:=by
 cases l with
 | nil=>cases h
 | cons c t =>
  rw[sch]at h;split at h
  ·split at h
   ·rename_i d q hd;split at h
    ·cases h;refine⟨?_,?_⟩
     ·have:=(takeWhile_sublist (l:=t) sgs).length_le;simp;omega
     ·refine List.Sublist.trans ?_ (sublist_cons_self _ _);refine List.Sublist.trans ?_ (dropWhile_sublist (l:=t) sgs);rw[hd];exact sublist_cons_self _ _
    ·cases h
   ·cases h
  ·cases h
theorem Nu{m r b:List Int}(h:aus m r=some b):b.Sublist r:=by
 unfold aus at h;split at h
 ·cases h;exact dropWhile_sublist _
 ·split at h
  ·cases h;exact drop_sublist _ _
  ·cases h
theorem Qu{s:List Int}(hs:U.Bytes s)(hl:s.length<=4096):B2 (cln s):=by
 refine⟨Dq hs,?_⟩;have h1:=U.dQ ((strip (U.dec s)).filter (fun c=>!tab c));have h2:=(List.filter_sublist (l:=strip (U.dec s)) (p:=fun c=>!tab c)).length_le;have h3:(strip (U.dec s)).length<=(U.dec s).length:=by unfold strip;rw[length_reverse];refine le_trans (dropWhile_sublist _).length_le ?_;rw[length_reverse];exact(dropWhile_sublist _).length_le
 have h4:=U.dK s.length s (le_refl _) hs;unfold cln;omega
theorem UP.lim{A:List Int->List Int->Int->Prop}(hA:H.Asc A){s:List Int}{u:Ur}{er:Int}(hs:U.Bytes s)(x:UP A s (u,er)):Lim u:=by
 unfold UP at x;split at x
 ·have:u=zu:=congrArg Prod.fst x;rw[this];exact gM
 rename_i hlen;obtain⟨h,hq,hr⟩:=x;have hB:=Qu hs (by omega);have hu:u=(rdc (cln s) h).1:=congrArg Prod.fst hr;rw[hu];clear hu hr;generalize cln s=l at *;unfold rdc;unfold hqy at hq;cases hsc:sch l with
 | none=>exact gM
 | some mr =>
  obtain⟨m,r⟩:=mr;obtain⟨hm,hrs⟩:=KG hsc;have hm2:m.length<=20000:=le_trans hm hB.2;have hrb:=hB.sub hrs;rw[hsc]at hq;simp only at hq ⊢;by_cases hnf:m=di
  ·rw[if_pos hnf];exact gM
  rw[if_neg hnf]at hq ⊢;cases hau:aus m r with
  | none=>exact Eo (Sd hm2) hrb
  | some b =>
   have hbb:=hrb.sub (Nu hau);rw[hau]at hq;simp only at hq ⊢;split
   ·exact gM
   ·refine Eo (Nv hA hm2 (hbb.sub (takeWhile_sublist _)) (fun x hx=>hq x _ ?_)) (hbb.sub (dropWhile_sublist _));rw[hx];rfl
end Y
namespace Cn
open F (bn aa hid ay aC)
open H (Hst non)
open Y (Us Ur At UP aN bG own GU)
def ut(a:Us):Tg:=⟨a.k,a.nm,a.f,a.x0,a.x1,a.x2,a.x3,a.x4,a.x5,a.x6,a.x7,a.pr⟩
theorem QQ{w:World}{a:Us}{u:Ur}(h:At w a u):Tv (ut a) (uh u) a.pr:=by
 have e:=h.ho;rcases hx:u.hst with⟨k,n,f,x⟩
 rw[hx]at e;simp only[Prod.mk.injEq]at e;obtain⟨e1,e2,e3,e4⟩:=e;unfold uh;rw[hx];exact⟨e1,e2,e3,e4,rfl⟩
theorem NM{w:World}{a:Us}{u:Ur}(h:At w a u)(l:Y.Lim u):Lm (ut a):=by
 obtain⟨l1,l2,l3,l4,l5,⟨s1,s2,s3,s4,s5,s6,s7,s8,s9⟩,l7⟩:=l;have e:=h.ho;have ep:=h.pr;rcases hx:u.hst with⟨k,n,f,x⟩
 rw[hx]at e l1 l2 l3 l4 s4;simp only[Prod.mk.injEq]at e;obtain⟨e1,e2,e3,e4⟩:=e;refine⟨?_,?_,?_,?_,?_⟩
 ·show a.nm.size<=_;rw[<-aa,e2];exact s4
 ·show a.pr<=_;rw[ep];omega
 ·show a.k<_;rw[e1];exact l1
 ·show a.f<_;rw[e3];exact l2
 ·show X.Small [a.x0,a.x1,a.x2,a.x3,a.x4,a.x5,a.x6,a.x7];rw[e4];exact l4
theorem Pd(m:List Int):(own m).getD 0<=65535:=by
 unfold Y.own;repeat' split
 all_goals first | decide | simp
theorem DZ{W:World}{g:Nat}{a:Us}(h:W.heap[g]? = some (.cells (Us.cs a) 42 (0,0))):W.rangeAt g 4 (Tg.hs (ut a)).toList:=by have:=World.rangeAt_of_block h 4 11;exact this
theorem Lm.set{b:Tg}(h:Lm b){q:Nat}(hq:q<=65535):Lm { b with p:=q }:=⟨h.1,hq,h.2.2.1,h.2.2.2.1,h.2.2.2.2⟩
theorem Tv.set{b:Tg}{r:Hst}{p:Nat}(h:Tv b r p)(q:Nat):Tv { b with p:=q } r q:=⟨h.k,h.n,h.f,h.x,rfl⟩
theorem tgR.out{R:Ending->World->Prop}{B:World->Prop}{b:Tg}{q:Nat}{er:Int}{e:Ending}(ht:tgR b q er e)(h:∀ W,B W->(q=0->R (.returned (.tuple #[.agg (Tg.cs zg),.int .i64 er])) W)/\(q≠0->R (.returned (.tuple #[.agg (Tg.cs { b with p:=q }),.int .i64 0])) W)):∃(Y:Tg) (E:Int),e=.returned (.tuple #[.agg (Tg.cs Y),.int .i64 E])/\Hid (∀ W,B W->R (.returned (.tuple #[.agg (Tg.cs Y),.int .i64 E])) W):=by
 unfold tgR at ht;by_cases h0:q=0
 ·rw[if_pos h0]at ht;exact⟨_,_,ht,fun W hb=>(h W hb).1 h0⟩
 ·rw[if_neg h0]at ht;exact⟨_,_,ht,fun W hb=>(h W hb).2 h0⟩
theorem tT(s:ByteArray)(hs:s.size<=100000)(w:World)(hG:GU w):Calls prog 6 #[.string s] w fun e W'=>TgR (AB H.IA (bn s)) w e W':=by
 have HMK:Hid (∀(a:Tg) (h:Hst) (p:Nat) (W':World),AB H.IA (bn s) (h,p)->Tv a h p->Lm a->Below w.heap.size w W'->TgR (AB H.IA (bn s)) w (.returned (.tuple #[.agg (Tg.cs a),.int .i64 h.2.2.2.2])) W'):=fun a h p W' h1 h2 h3 h4=>⟨⟨a,h,p,h1,h2,h3,rfl⟩,h4⟩;obtain⟨V,hV⟩:=Ex' (w.alloc (.cells zt 29));have R0:Hid (V.heap[w.heap.size]? = some (.cells zt 29 (0,0))):=by show _=_;rw[<-hV];exact aK w _ _
 have HB:Hid (Below w.heap.size w V):=by show Below _ _ _;rw[<-hV];exact(Below.refl _ w).alloc (le_refl _) _
 have HGG:Hid (∀ W,Below w.heap.size w W->GU W):=fun W h=>hG.below h;have HPA:=hid (Y.xZ s hs V (HGG.out V HB.out));have HBY:=hid (H.aL s);obtain⟨R,hR⟩:=Ex' (TgR (AB H.IA (bn s)) w);have HAB:Hid (∀(u:Ur) (er:Int) (r:Hst×Nat),UP H.IA (bn s) (u,er)->(if er≠0 then r=(non er,0) else if u.sch≠aN/\u.sch≠bG then r=(non 130,0) else if u.usr≠[]\/u.pas≠[] then r=(non 140,0) else ∃ h,CH H.IA (uh u) h/\r=fin h (if u.hp=true then u.prt else (own u.sch).getD 0) 131)->AB H.IA (bn s) r):=fun u er r h1 h2=>⟨u,er,h1,h2⟩;obtain⟨AA,hAA⟩:=Ex' (AB H.IA (bn s));rw[hR,hAA]at HMK;rw[hAA]at HAB;rw[hR];clear hR hAA hG;go_enter func6,ntmps6;go_wp2_with fail;clear hV;refine HPA.out.mono ?_;rintro e w1 ⟨⟨a,u,er,hx,ha,rfl⟩,B⟩;have HLI:=hid (hx.lim H.asc HBY.out);have HX:=hid (fun r h=>HAB.out u er r hx h);have HA:=hid ha;replace R0:=hid (kept R0.out B);replace HB:=Bt' HB B;have X1:=hid (aK w1 Y.zc 42);obtain⟨pk,pb⟩:=Y.eM w1 a;have R1:=hid pk;have ho:=hid (Y.JY ha);replace R0:=hid (kept R0.out pb);replace HB:=Bt' HB pb;clear B HPA hx ha pk pb HAB;obtain⟨w2,hw2⟩:=Ex' ((w1.alloc (.cells Y.zc 42)).setRow w1.heap.size (Us.cs a));rw[hw2]at R1 R0 HB;have C0:w2.cell? ⟨w1.heap.size,0,none⟩=some (.string a.sc):=cell_of_row _ _ 0 _ _ _ R1.out;have C1:w2.cell? ⟨w1.heap.size,1,none⟩=some (.string a.us):=cell_of_row _ _ 1 _ _ _ R1.out;have C2:w2.cell? ⟨w1.heap.size,2,none⟩=some (.string a.pa):=cell_of_row _ _ 2 _ _ _ R1.out;have q1:(a.sc.toList==[104,116,116,112])=decide (u.sch=aN):=by rw[Y.fM,<-HA.out.sc];rfl
 have q3:(a.sc.toList==[104,116,116,112,115])=decide (u.sch=bG):=by rw[Y.fM,<-HA.out.sc];rfl
 have hem:∀ t:ByteArray,t.toList.isEmpty=decide (bn t=[]):=fun t=>by
  by_cases h:t.size=0
  ·rw[aC t h,decide_eq_true (List.length_eq_zero_iff.1 ((aa t).trans h))]
  ·rw[ay t (Nat.pos_of_ne_zero h),decide_eq_false (fun e=>h (by rw[<-aa,e];rfl))]
 have q4:=hem a.us;have q5:=hem a.pa;rw[HA.out.us]at q4;rw[HA.out.pa]at q5;clear hem;by_cases he:er=0;rotate_left
 ·have hen:(er != 0)=true:=by simpa using he
  have HR:=hid (HX.out (non er,0) (by rw[if_pos he]));clear he C0 C1 C2 q1 q3 q4 q5 HLI HX HGG;go_wp2_with(first | (refine wpList_store_row rfl 42 (.tmp 4) (.tmp 12) rfl w1.heap.size (Us.cs a) rfl rfl 42 Y.zc X1.out (Y.ug a) rfl ho.out ?_) | (refine wpList_store_row rfl 29 (.tmp 2) (.tmp 17) rfl w.heap.size (Tg.cs zg) rfl rfl 29 zt R0.out (aG zg) rfl (cT zg) ?_));exact bodyPost_ret (H.ag results6 _ _ w.heap.size 29 (Tg.cs zg) (0,0) _ rfl (X.aA R0.out) underlying29 (aG _)) rfl (HMK.out zg (non er) 0 _ HR.out (gZ er) fh (X.ai HB.out (le_refl _) _))
 subst he;have HX2:Hid (∀ r:Hst×Nat,(if u.sch≠aN/\u.sch≠bG then r=(non 130,0) else if u.usr≠[]\/u.pas≠[] then r=(non 140,0) else ∃ h,CH H.IA (uh u) h/\r=fin h (if u.hp=true then u.prt else (own u.sch).getD 0) 131)->AA r):=fun r h=>HX.out r (by rw[if_neg (fun h=>h rfl)];exact h);clear HX;by_cases hm:u.sch≠aN/\u.sch≠bG
 ·have HR:=hid (HX2.out (non 130,0) (by rw[if_pos hm]));rw[decide_eq_false hm.1]at q1;rw[decide_eq_false hm.2]at q3;clear hm C1 C2 q4 q5 HLI HX2 HGG;go_wp2_with(first | (refine wpList_store_row rfl 42 (.tmp 4) (.tmp 12) rfl w1.heap.size (Us.cs a) rfl rfl 42 Y.zc X1.out (Y.ug a) rfl ho.out ?_) | (refine wpList_store_row rfl 29 (.tmp 2) (.tmp 28) rfl w.heap.size (Tg.cs zg) rfl rfl 29 zt R0.out (aG zg) rfl (cT zg) ?_));exact bodyPost_ret (H.ag results6 _ _ w.heap.size 29 (Tg.cs zg) (0,0) _ rfl (X.aA R0.out) underlying29 (aG _)) rfl (HMK.out zg (non 130) 0 _ HR.out (gZ 130) fh (X.ai HB.out (le_refl _) _))
 have HX3:Hid (∀ r:Hst×Nat,(if u.usr≠[]\/u.pas≠[] then r=(non 140,0) else ∃ h,CH H.IA (uh u) h/\r=fin h (if u.hp=true then u.prt else (own u.sch).getD 0) 131)->AA r):=fun r h=>HX2.out r (by rw[if_neg hm];exact h);clear HX2
 obtain⟨m1,m3,hm1,hm3,hm13⟩:∃ m1 m3:Bool,decide (u.sch=aN)=m1/\decide (u.sch=bG)=m3/\(m1=true\/m1=false/\m3=true):=by
  refine⟨_,_,rfl,rfl,?_⟩;by_cases h1:u.sch=aN
  ·exact .inl (decide_eq_true h1)
  ·by_cases h3:u.sch=bG
   ·exact .inr ⟨decide_eq_false h1,decide_eq_true h3⟩
   ·exact absurd ⟨h1,h3⟩ hm
 rw[hm1]at q1;rw[hm3]at q3;clear hm hm1 hm3;by_cases hu:u.usr≠[]\/u.pas≠[]
 ·have HR:=hid (HX3.out (non 140,0) (by rw[if_pos hu]))
  have hu2:decide (u.usr=[])=false\/decide (u.usr=[])=true/\decide (u.pas=[])=false:=by
   by_cases h1:u.usr=[]
   ·refine .inr ⟨decide_eq_true h1,decide_eq_false (fun h2=>?_)⟩;exact hu.elim (fun h=>h h1) (fun h=>h h2)
   ·exact .inl (decide_eq_false h1)
  generalize decide (u.usr=[])=d1 at q4 hu2;generalize decide (u.pas=[])=d2 at q5 hu2;clear hu HLI HX3 HGG HA;rcases hm13 with rfl | ⟨rfl,rfl⟩ <;> rcases hu2 with rfl | ⟨rfl,rfl⟩
  all_goals
   go_wp2_with(first | (refine wpList_store_row rfl 42 (.tmp 4) (.tmp 12) rfl w1.heap.size (Us.cs a) rfl rfl 42 Y.zc X1.out (Y.ug a) rfl ho.out ?_) | (refine wpList_store_row rfl 29 (.tmp 2) (.tmp 38) rfl w.heap.size (Tg.cs zg) rfl rfl 29 zt R0.out (aG zg) rfl (cT zg) ?_));exact bodyPost_ret (H.ag results6 _ _ w.heap.size 29 (Tg.cs zg) (0,0) _ rfl (X.aA R0.out) underlying29 (aG _)) rfl (HMK.out zg (non 140) 0 _ HR.out (gZ 140) fh (X.ai HB.out (le_refl _) _))
 have HX4:Hid (∀ h,CH H.IA (uh u) h->AA (fin h (if u.hp=true then u.prt else (own u.sch).getD 0) 131)):=fun h hc=>HX3.out _ (by rw[if_neg hu];exact⟨h,hc,rfl⟩);have hu1:decide (u.usr=[])=true:=decide_eq_true (Classical.byContradiction fun h=>hu (.inl h));have hu2:decide (u.pas=[])=true:=decide_eq_true (Classical.byContradiction fun h=>hu (.inr h));rw[hu1]at q4;rw[hu2]at q5;clear hu hu1 hu2 HX3;have HHO:=hid (eV (ut a) (uh u) a.pr w2 (QQ HA.out) (NM HA.out HLI.out) (HGG.out w2 HB.out).1);have M1:=hid (DZ R1.out);have HHI:Hid ((prog.info? 27).map (·.size)=some (Tg.hs (ut a)).toList.length):=by show _=_;rw[length_toList];exact aD (ut a)
 have HPO:=hid (fun W=>Y.oB a.sc W);rw[HA.out.sc]at HPO;have HQ:Hid ((own u.sch).getD 0<=65535):=Pd u.sch;have HQ2:Hid (a.pr<=65535):=(NM HA.out HLI.out).2.1;have HHP:Hid ((if u.hp=true then u.prt else (own u.sch).getD 0)=if a.hp=true then a.pr else (own u.sch).getD 0):=by show _=_;rw[HA.out.hp,HA.out.pr]
 obtain⟨ow,how⟩:=Ex' ((own u.sch).getD 0);obtain⟨is,his⟩:=Ex' ((own u.sch).isSome);rw[how,his]at HPO;rw[how]at HQ HHP HX4;rw[HHP.out]at HX4;clear how his HHP HLI;rcases hm13 with rfl | ⟨rfl,rfl⟩
 all_goals
  go_wp2_with(first | (refine wpList_store_row rfl 42 (.tmp 4) (.tmp 12) rfl w1.heap.size (Us.cs a) rfl rfl 42 Y.zc X1.out (Y.ug a) rfl ho.out ?_) | (refine wpList_load_mid rfl 27 (.tmp 40) rfl w1.heap.size 4 rfl (Tg.hs (ut a)).toList _ M1.out underlying27 rfl HHI.out ?_));refine HHO.out.mono ?_;rintro e w3 ⟨⟨b,r,hc,hb,hlb,rfl⟩,B⟩;have HF:=hid (HX4.out r hc);have HBT:=hid hb;have HBL:=hid hlb;replace R0:=hid (kept R0.out B);replace R1:=hid (kept R1.out B);replace HB:=Bt' HB B;have X3:=hid (aK w3 zh 27);obtain⟨pk,pb⟩:=eM w3 zh (Tg.hs b) 27;have R2:=hid pk;replace R0:=hid (kept R0.out pb);replace R1:=hid (kept R1.out pb);replace HB:=Bt' HB pb;clear B hc hb hlb pk pb HHO HX4 C0 C1 C2;obtain⟨w4,hw4⟩:=Ex' ((w3.alloc (.cells zh 27)).setRow w3.heap.size (Tg.hs b));rw[hw4]at R0 R1 R2 HB;have C0:w4.cell? ⟨w1.heap.size,0,none⟩=some (.string a.sc):=cell_of_row _ _ 0 _ _ _ R1.out;have C15:w4.cell? ⟨w1.heap.size,15,none⟩=some (.bool a.hp):=cell_of_row _ _ 15 _ _ _ R1.out;have C16:w4.cell? ⟨w1.heap.size,16,none⟩=some (.int .u16 (a.pr:Nat)):=cell_of_row _ _ 16 _ _ _ R1.out;by_cases he:r.2.2.2.2=0;rotate_left
  ·have hen:(r.2.2.2.2 != 0)=true:=by simpa using he
   have HR:Hid (AA (non r.2.2.2.2,0)):=by have h:=HF.out;unfold fin at h;rw[if_pos he]at h;exact h
   clear he C0 C15 C16 HPO HF HBT HBL;go_wp2_with(first | (refine wpList_store_row rfl 27 (.tmp 6) (.tmp 43) rfl w3.heap.size (Tg.hs b) rfl rfl 27 zh X3.out (aD b) rfl (bW b) ?_) | (refine wpList_store_row rfl 29 (.tmp 2) (.tmp 47) rfl w.heap.size (Tg.cs zg) rfl rfl 29 zt R0.out (aG zg) rfl (cT zg) ?_));exact bodyPost_ret (H.ag results6 _ _ w.heap.size 29 (Tg.cs zg) (0,0) _ rfl (X.aA R0.out) underlying29 (aG _)) rfl (HMK.out zg (non r.2.2.2.2) 0 _ HR.out (gZ _) fh (X.ai HB.out (le_refl _) _))
  have hen:(r.2.2.2.2 != 0)=false:=by rw[he];rfl
  obtain⟨q,hq⟩:=Ex' ((if a.hp=true then a.pr else ow))
  have hqz:q<=65535:=by
   rw[<-hq];split
   ·exact HQ2.out
   ·exact HQ.out
  have HTG:=hid (jG b q 131 w4)
  have HFN:Hid (∀ W',Below w.heap.size w W'->(q=0->R (.returned (.tuple #[.agg (Tg.cs zg),.int .i64 131])) W')/\(q≠0->R (.returned (.tuple #[.agg (Tg.cs { b with p:=q }),.int .i64 0])) W')):=fun W' hW=>by
   have h:=HF.out;rw[hq]at h;unfold fin at h;rw[if_neg (fun h=>h he)]at h;refine⟨fun h0=>?_,fun h0=>?_⟩
   ·rw[if_pos h0]at h;exact HMK.out zg (non 131) 0 W' h (gZ 131) fh hW
   ·rw[if_neg h0]at h;have h2:=HMK.out { b with p:=q } r q W' h (HBT.out.set q) (HBL.out.set hqz) hW;rw[he]at h2;exact h2
  clear HF HBT HBL he HMK HQ HQ2 hqz;have HHQ:=hid hq;clear hq;have hD:a.hp=true/\a.pr=q\/a.hp=false/\ow=q:=by have hq:=HHQ.out;cases hhp:a.hp <;> rw[hhp]at hq <;> simpa using hq
  clear HHQ;rcases hD with⟨hhp,rfl⟩ | ⟨hhp,rfl⟩
  all_goals
   rw[hhp]at C15;clear hhp;go_wp2_with(first | (refine wpList_store_row rfl 27 (.tmp 6) (.tmp 43) rfl w3.heap.size (Tg.hs b) rfl rfl 27 zh X3.out (aD b) rfl (bW b) ?_) | (go_at_call 13;refine(HPO.out _).mono ?_;rintro e w5 ⟨rfl,h5⟩;obtain rfl:=h5.symm) | (refine wpList_load_row rfl 27 (.tmp 6) rfl w3.heap.size rfl 27 (Tg.hs b) (0,0) _ R2.out underlying27 rfl (aD b) ?_));refine HTG.out.mono ?_;rintro e w5 ⟨ht,B⟩;obtain⟨Y,E,rfl,HF3⟩:=ht.out HFN.out;replace R0:=hid (kept R0.out B);replace HB:=Bt' HB B;clear B HTG HFN ht;go_wp2_with(refine wpList_store_row rfl 29 (.tmp 2) (.tmp 62) rfl w.heap.size (Tg.cs Y) rfl rfl 29 zt R0.out (aG _) rfl (cT _) ?_);exact bodyPost_ret (H.ag results6 _ _ w.heap.size 29 _ (0,0) _ rfl (X.aA R0.out) underlying29 (aG _)) rfl (HF3.out _ (X.ai HB.out (le_refl _) _))
open F (bn aa hid aw)
open H (Hst non hvl HP)
open Y (GU)
set_option linter.unusedSimpArgs false
theorem EK{P:Program}{ops:Array Oper}{o:Oper}{a:Act}{W:World}{K:Act->World->Prop}{Q:Exit->Act->World->Prop}{E:Prop}(hg:o.guard=none)(t:TypeId)(x y:Operand)(ho:o.op=.store t x y)(g:Nat)(cells:Array Value)(hx:a.eval x=.pointer (some ⟨g,0,none⟩))(hy:a.eval y=.agg cells)
  (old:Array Value) (hr:W.heap[g]? = some (.cells old t (0,0))) (hi:(P.info? t).map (·.size)=some cells.size) (hold:old.size=cells.size) (h1:cells.all (·.oneCell')=true) (hK:K (a.put o.dst undef) (W.setRow g cells)) :
  if Region.wanted o (yielded ops a.tmps)=true then Oper.wp P o a W K Q else E:=by
 have hw:Region.wanted o (yielded ops a.tmps)=true:=by simp[Region.wanted,hg]
 rw[if_pos hw];exact wp_store_row t x y ho g cells hx hy t old hr hi hold h1 hK
theorem Dp(t:ByteArray)(w:World):Calls prog 19 #[.string t] w fun e W'=>e=.returned (.bool (!decide (93∈bn t)))/\W'=w:=by have HC:Hid (Calls prog 17 #[.string t,.string ⟨#[93]⟩] w fun e W'=>e=.returned (.bool (decide (93∈bn t)))/\W'=w):=nj t 93 w;generalize decide (93∈bn t)=v at *;go_enter func19,ntmps19;go_wp2_with(go_at_call 17;refine HC.out.mono ?_;rintro e w1 ⟨rfl,h1⟩;obtain rfl:=h1.symm);go_ret;exact⟨rfl,rfl⟩
theorem Py{l:List Int}(h1:¬ 58∈l)(h2:¬ 93∈l):∀ c∈l,nc c=true:=fun c hc=>by unfold nc;have e1:c≠58:=fun e=>h1 (by rw[<-e];exact hc);have e2:c≠93:=fun e=>h2 (by rw[<-e];exact hc);rw[decide_eq_true e1,decide_eq_true e2];rfl
theorem Jz{a p:List Int}(h1:¬ 58∈p)(h2:¬ 93∈p):dD (a++58::p)=(a,some p):=by
 have hr:(a++58::p).reverse=p.reverse++58::a.reverse:=by simp
 have hall:∀ c∈p.reverse,nc c=true:=fun c hc=>Py h1 h2 c (List.mem_reverse.1 hc);unfold dD;rw[hr,List.dropWhile_append_of_pos hall,List.takeWhile_append_of_pos hall];have e1:(58::a.reverse:List Int).dropWhile nc=58::a.reverse:=rfl;have e2:(58::a.reverse:List Int).takeWhile nc=[]:=rfl;rw[e1,e2];simp
theorem NG{s:List Int}(h:∀ a p,s=a++58::p->¬ 58∈p->93∈p):dD s=(s,none):=by
 unfold dD;refine if_neg (fun he=>?_);have hs:s.reverse=s.reverse.takeWhile nc++s.reverse.dropWhile nc:=(List.takeWhile_append_dropWhile ..).symm;cases e:s.reverse.dropWhile nc with
 | nil=>rw[e]at he;cases he
 | cons y t =>
  rw[e]at he hs;have hy:y=58:=Option.some.inj he;subst hy;have h2:=congrArg List.reverse hs;rw[List.reverse_reverse,List.reverse_append,List.reverse_cons,append_assoc]at h2;have hno:∀ c∈(s.reverse.takeWhile nc).reverse,nc c=true:=fun c hc=>List.all_eq_true.1 (List.all_takeWhile (l:=s.reverse) (p:=nc)) c (List.mem_reverse.1 hc);have hn:∀ c:Int,c=58\/c=93->¬ c∈(s.reverse.takeWhile nc).reverse:=fun c hc hm=>by have:=hno c hm;unfold nc at this;simp at this;omega
  exact hn 93 (.inr rfl) (h t.reverse _ h2 (hn 58 (.inl rfl)))
theorem Dm{s:ByteArray}{e:Ending}(h:tX 58 (fun t=>!decide (93∈bn t)) s e):∃ t d v,bn t=(dD (bn s)).1/\t.size<=s.size/\d.size<=s.size/\(v=false/\(dD (bn s)).2=none\/v=true/\(dD (bn s)).2=some (bn d))/\e=.returned (.tuple #[.string t,.string d,.bool v]):=by
 obtain⟨k,hk,hn,ht,hc⟩:=h;have hb:((58:UInt8).toNat:Int)=58:=rfl;rw[hb]at hn ht;have hx:=aw s k;have hcat:bn s=(bn s).take k++(bn s).drop k:=(List.take_append_drop k _).symm;rcases hc with⟨ho,rfl⟩ | ⟨h1,h2,rfl⟩
 ·have ha:dD (bn s)=(bn s,none):=by
   refine NG (fun a p e hp=>?_);rcases ho with h0 | h0
   ·subst h0;rw[List.drop_zero]at hn;exact absurd (by rw[e];simp) hn
   ·simp only[Bool.not_eq_false',decide_eq_true_iff]at h0;rw[hx]at h0;rcases ht with h0' | ht
    ·subst h0';rw[List.drop_zero]at hn;exact absurd (by rw[e];simp) hn
    ·-- the last colon is the last colon
     have hk1:bn s=(bn s).take (k - 1)++58::(bn s).drop k:=by
      conv=>lhs;rw[hcat,ht]
      rw[append_assoc];rfl
     have hpe:p=(bn s).drop k:=by
      have e2:=congrArg (fun l:List Int=>l.reverse) (hk1.symm.trans e);simp only[List.reverse_append,List.reverse_cons,append_assoc,List.singleton_append]at e2
      have q:∀(x y a b:List Int),¬ 58∈x->¬ 58∈y->x++58::a=y++58::b->x=y:=by
       intro x
       induction x with
       | nil=>intro y a b _ hy h;cases y with
        | nil=>rfl
        | cons c t=>simp only[List.nil_append,cons_append,List.cons.injEq]at h;exact absurd (by rw[<-h.1];simp) hy
       | cons c t ih=>intro y a b hx hy h;cases y with
        | nil=>simp only[List.nil_append,cons_append,List.cons.injEq]at h;exact absurd (by rw[h.1];simp) hx
        | cons c' t' =>
         simp only[cons_append,List.cons.injEq]at h;rw[h.1,ih t' a b (fun h=>hx (List.mem_cons_of_mem _ h)) (fun h=>hy (List.mem_cons_of_mem _ h)) h.2]
      have:=q _ _ _ _ (by simpa using hn) (by simpa using hp) e2;have:=congrArg List.reverse this;simpa using this.symm
     rw[hpe];exact h0
  exact⟨s,⟨#[]⟩,false,by rw[ha],le_refl _,zero_le _,.inl ⟨rfl,by rw[ha]⟩,rfl⟩
 ·have h3:¬ 93∈(bn s).drop k:=by simp only[Bool.not_eq_true',decide_eq_false_iff_not]at h2;rw[hx]at h2;exact h2
  have hk1:bn s=(bn s).take (k - 1)++58::(bn s).drop k:=by
   rcases ht with h0 | ht
   ·omega
   ·conv=>lhs;rw[hcat,ht]
    rw[append_assoc];rfl
  have ha:dD (bn s)=((bn s).take (k - 1),some ((bn s).drop k)):=by
   conv=>lhs;rw[hk1]
   exact Jz hn h3
  refine⟨s.extract 0 (k - 1),s.extract k s.size,true,?_,by simp;omega,by simp,.inr ⟨rfl,?_⟩,rfl⟩
  ·rw[ha,X.qe s (k - 1) (by omega)]
  ·rw[ha,hx]
theorem OZ{A:List Int->List Int->Int->Prop}(hA:H.Asc A){l:List Int}(hb:U.Bytes l){x:Hst}{n:ByteArray}(h:HP A l true x)(hn:bn n=x.2.1):∃ b,Tv b x 0/\Lm b/\hvl x.1 n x.2.2.1 x.2.2.2.1=.agg (Tg.hs b):=by
 have hf:=H.HP.fine h;have hz:=H.HP.nlen hA hb h;obtain⟨k,nm,f,a,er⟩:=x;obtain⟨a0,a1,a2,a3,a4,a5,a6,a7,rfl⟩:=H.eight hf.a;have h4:k<=4:=hf.k;refine⟨⟨k,n,f,a0,a1,a2,a3,a4,a5,a6,a7,0⟩,⟨rfl,hn,rfl,rfl,rfl⟩,⟨?_,zero_le _,?_,hf.f,hf.s⟩,rfl⟩
 ·show n.size<=_;rw[<-aa,hn];exact hz
 ·show k<256;omega
theorem Qv{x:Hst}{b:Bool}(h:(ch x b).2.2.2.2≠0):ch x b=non 70:=by
 unfold ch at h ⊢;split
 ·rfl
 ·rename_i h1;rw[if_neg h1]at h;split
  ·rename_i h2;rw[if_pos h2]at h;exact absurd rfl h
  ·rename_i h2;rw[if_neg h2]at h;split
   ·rename_i h3;rw[if_pos h3]at h;exact absurd rfl h
   ·rfl
theorem zl(s:ByteArray):U.Bytes (dD (bn s)).1:=by
 have hs:=H.aL s;unfold dD;split
 ·intro c hc;have h1:=List.mem_reverse.1 hc;have h2:=(drop_sublist 1 _).subset h1;exact hs c (List.mem_reverse.1 ((dropWhile_sublist _).subset h2))
 ·exact hs
theorem fT(s:ByteArray)(q:Nat)(w:World)(hs:s.size<=100000)(hq:q<=65535)(hG:GU w):Calls prog 8 #[.string s,.int .u16 (q:Nat)] w fun e W'=>TgR (AU H.IA (bn s) q) w e W':=by
 have HMK:Hid (∀(a:Tg) (h:Hst) (p:Nat) (W':World),AU H.IA (bn s) q (h,p)->Tv a h p->Lm a->Below w.heap.size w W'->TgR (AU H.IA (bn s) q) w (.returned (.tuple #[.agg (Tg.cs a),.int .i64 h.2.2.2.2])) W'):=fun a h p W' h1 h2 h3 h4=>⟨⟨a,h,p,h1,h2,h3,rfl⟩,h4⟩;obtain⟨V,hV⟩:=Ex' (w.alloc (.cells zt 29));have R0:Hid (V.heap[w.heap.size]? = some (.cells zt 29 (0,0))):=by show _=_;rw[<-hV];exact aK w _ _
 have HB:Hid (Below w.heap.size w V):=by show Below _ _ _;rw[<-hV];exact(Below.refl _ w).alloc (le_refl _) _
 have HGG:Hid (∀ W,Below w.heap.size w W->GU W):=fun W h=>hG.below h;have HBF:=hid (Jj s (by omega) V);have HAT:Hid (∀ W,Calls prog 17 #[.string s,.string ⟨#[64]⟩] W fun e W'=>e=.returned (.bool (decide (64∈bn s)))/\W'=W):=fun W=>nj s 64 W;have HCU:=hid (fun W=>dp 19 (enters_of func19 (by kernel_rfl) rfl) s 58 (fun t=>!decide (93∈bn t)) (by omega) W (fun t W _=>Dp t W));have HCC:=hid (fun e h=>Dm (s:=s) (e:=e) h);have HAB:=hid (zl s)
 have HAU:Hid (∀ r,(if 4096<(bn s).length then r=(non 4,0) else if (bn s).any bad=true then r=(non 70,0) else if 64∈bn s then r=(non 140,0) else
 ∃ x,HP H.IA (dD (bn s)).1 true x/\(if x.2.2.2.2≠0 then r=(non 70,0) else ∃ h,CH H.IA x h/\(if h.2.2.2.2≠0 then r=(non 70,0) else match (dD (bn s)).2 with | none=>r=fin h q 5 | some p=>r=fin h (pt p) 131)))->AU H.IA (bn s) q r):=fun r h=>h
 obtain⟨R,hR⟩:=Ex' (TgR (AU H.IA (bn s) q) w);obtain⟨AA,hAA⟩:=Ex' (AU H.IA (bn s) q);rw[hR,hAA]at HMK;rw[hAA]at HAU;rw[hR];rw[aa]at HAU;clear hR hAA hG;by_cases h1:4096<s.size
 ·have hz:(4096:Int)<(s.size:Int):=by omega
  have HR:=hid (HAU.out (non 4,0) (by rw[if_pos h1]));clear h1 HAU HBF HAT HCU HCC HGG;go_enter func8,ntmps8;go_wp2_with(refine wpList_store_row rfl 29 (.tmp 4) (.tmp 17) rfl w.heap.size (Tg.cs zg) rfl rfl 29 zt R0.out (aG zg) rfl (cT zg) ?_);exact bodyPost_ret (H.ag results8 _ _ w.heap.size 29 (Tg.cs zg) (0,0) _ rfl (X.aA R0.out) underlying29 (aG _)) rfl (HMK.out zg (non 4) 0 _ HR.out (gZ 4) fh (X.ai HB.out (le_refl _) _))
 have hz:¬ (4096:Int)<(s.size:Int):=by omega
 simp only[if_neg h1]at HAU;go_enter func8,ntmps8;go_wp2_with fail;clear hV;refine HBF.out.mono ?_;rintro e w1 ⟨rfl,B⟩;replace R0:=hid (kept R0.out B);replace HB:=Bt' HB B;clear B HBF;by_cases h2:(bn s).any bad=true
 ·rw[h2];have HR:=hid (HAU.out (non 70,0) (by rw[if_pos h2]));clear h2 HAU HAT HCU HCC HGG;go_wp2_with(refine wpList_store_row rfl 29 (.tmp 4) (.tmp 21) rfl w.heap.size (Tg.cs zg) rfl rfl 29 zt R0.out (aG zg) rfl (cT zg) ?_);exact bodyPost_ret (H.ag results8 _ _ w.heap.size 29 (Tg.cs zg) (0,0) _ rfl (X.aA R0.out) underlying29 (aG _)) rfl (HMK.out zg (non 70) 0 _ HR.out (gZ 70) fh (X.ai HB.out (le_refl _) _))
 simp only[if_neg h2]at HAU;rw[Bool.eq_false_iff.2 h2];by_cases h3:64∈bn s
 ·have HR:=hid (HAU.out (non 140,0) (by rw[if_pos h3]));rw[decide_eq_true h3]at HAT;clear h2 h3 HAU HCU HCC HGG;go_wp2_with(first | (go_at_call 17;refine(HAT.out _).mono ?_;rintro e w2 ⟨rfl,h5⟩;obtain rfl:=h5.symm) | (refine wpList_store_row rfl 29 (.tmp 4) (.tmp 25) rfl w.heap.size (Tg.cs zg) rfl rfl 29 zt R0.out (aG zg) rfl (cT zg) ?_));exact bodyPost_ret (H.ag results8 _ _ w.heap.size 29 (Tg.cs zg) (0,0) _ rfl (X.aA R0.out) underlying29 (aG _)) rfl (HMK.out zg (non 140) 0 _ HR.out (gZ 140) fh (X.ai HB.out (le_refl _) _))
 simp only[if_neg h3]at HAU;rw[decide_eq_false h3]at HAT;clear h2 h3;go_wp2_with(go_at_call 17;refine(HAT.out _).mono ?_;rintro e w2 ⟨rfl,h5⟩;obtain rfl:=h5.symm);refine(HCU.out w1).mono ?_;rintro e w2 ⟨hc,B⟩;obtain⟨t,d,v,ht,hts,hds,hv,rfl⟩:=HCC.out e hc;replace R0:=hid (kept R0.out B);replace HB:=Bt' HB B;have HPA:=hid (H.pz t true (by omega) w2 (HGG.out w2 HB.out).1);have HTT:=hid ht;have HVV:=hid hv;clear B hc ht hv HCC HCU HAT;go_wp2_with fail;refine HPA.out.mono ?_;rintro e w3 ⟨⟨x,n,hx,hn,rfl⟩,B⟩;rw[HTT.out]at hx;obtain⟨b,hb,hlb,ehv⟩:=OZ H.asc HAB.out hx hn;rw[ehv];have HX:=hid hx;replace R0:=hid (kept R0.out B);replace HB:=Bt' HB B;have X3:=hid (aK w3 zh 27);obtain⟨pk,pb⟩:=eM w3 zh (Tg.hs b) 27;have R2:=hid pk;replace R0:=hid (kept R0.out pb);replace HB:=Bt' HB pb;obtain⟨w4,hw4⟩:=Ex' ((w3.alloc (.cells zh 27)).setRow w3.heap.size (Tg.hs b));rw[hw4]at R0 R2 HB;have HHO:=hid (eV b x 0 w4 hb hlb (HGG.out w4 HB.out).1);clear B hx hn hb hlb ehv pk pb HPA;go_wp2_with(first | (refine wpList_store_row rfl 27 (.tmp 9) (.tmp 35) rfl w3.heap.size (Tg.hs b) rfl rfl 27 zh X3.out (aD b) rfl (bW b) ?_) | (refine wpList_load_row rfl 27 (.tmp 9) rfl w3.heap.size rfl 27 (Tg.hs b) (0,0) _ R2.out underlying27 rfl (aD b) ?_));refine HHO.out.mono ?_;rintro e w5 ⟨⟨c,r,hc,htc,hlc,rfl⟩,B⟩;replace R0:=hid (kept R0.out B);replace HB:=Bt' HB B;have X5:=hid (aK w5 zh 27);obtain⟨pk,pb⟩:=eM w5 zh (Tg.hs c) 27;have R4:=hid pk;replace R0:=hid (kept R0.out pb);replace HB:=Bt' HB pb;clear hw4;obtain⟨w6,hw6⟩:=Ex' ((w5.alloc (.cells zh 27)).setRow w5.heap.size (Tg.hs c));rw[hw6]at R0 R4 HB;have HCT:=hid htc;have HCL:=hid hlc;by_cases he:r.2.2.2.2=0;rotate_left
 ·have hen:(r.2.2.2.2 != 0)=true:=by simpa using he
  obtain⟨m,hm,hr⟩:=hc;have hr70:r=non 70:=by rw[hr]at he ⊢;exact Qv he
  have HR:Hid (AA (non 70,0)):=HAU.out _ ⟨x,HX.out,by
    by_cases hxe:x.2.2.2.2=0
    · rw[if_neg (fun h=>h hxe)]
      have hwx:wo x=x:=by obtain⟨k1,k2,k3,k4,k5⟩:=x;simp only at hxe;unfold wo;simp only;rw[hxe]
      rw[hwx]at hm hr
      exact⟨r,⟨m,hm,hr⟩,by rw[if_pos he]⟩
    · rw[if_pos hxe]⟩
  clear he hm hr HAU HX HHO HTT HVV HGG HCT HCL htc hlc;rw[hr70]at hen ⊢;go_wp2_with(first | (refine wpList_store_row rfl 27 (.tmp 11) (.tmp 40) rfl w5.heap.size (Tg.hs c) rfl rfl 27 zh X5.out (aD c) rfl (bW c) ?_) | (refine wpList_store_row rfl 29 (.tmp 4) (.tmp 45) rfl w.heap.size (Tg.cs zg) rfl rfl 29 zt R0.out (aG zg) rfl (cT zg) ?_));exact bodyPost_ret (H.ag results8 _ _ w.heap.size 29 (Tg.cs zg) (0,0) _ rfl (X.aA R0.out) underlying29 (aG _)) rfl (HMK.out zg (non 70) 0 _ HR.out (gZ 70) fh (X.ai HB.out (le_refl _) _))
 have hen:(r.2.2.2.2 != 0)=false:=by rw[he];rfl
 have HXC:Hid ((match (dD (bn s)).2 with | none=>AA (fin r q 5) | some p=>AA (fin r (pt p) 131))):=by
  obtain⟨m,hm,hr⟩:=hc
  have hxe:x.2.2.2.2=0:=Classical.byContradiction fun hxe=>by
   have e:=(H.HP.fine HX.out).e hxe;rw[e]at hm hr;have e2:r=non 70:=by rw[hr];unfold ch;rw[if_pos (.inr (.inl rfl))]
   rw[e2]at he;cases he
  have hwx:wo x=x:=by obtain⟨k1,k2,k3,k4,k5⟩:=x;simp only at hxe;unfold wo;simp only;rw[hxe]
  rw[hwx]at hm hr
  have hgo:∀ z,(match (dD (bn s)).2 with | none=>z=fin r q 5 | some p=>z=fin r (pt p) 131)->AA z:=fun z hz=>HAU.out z ⟨x,HX.out,by
    rw[if_neg (fun h=>h hxe)]
    exact⟨r,⟨m,hm,hr⟩,by rw[if_neg (fun h=>h he)];exact hz⟩⟩
  revert hgo
  cases (dD (bn s)).2 with
  | none=>intro hgo;exact hgo _ rfl
  | some p=>intro hgo;exact hgo _ rfl
 have HER:=hid (HGG.out w6 HB.out).1.2.2.2.1;clear hc HAU HX HHO HTT htc hlc B pk pb
 have HFN:Hid (∀(p:Nat) (z:Int) W',p<=65535->AA (fin r p z)->Below w.heap.size w W'->(p=0->R (.returned (.tuple #[.agg (Tg.cs zg),.int .i64 z])) W')/\(p≠0->R (.returned (.tuple #[.agg (Tg.cs { c with p:=p }),.int .i64 0])) W')):=fun p z W' hp h hW=>by
  unfold fin at h;rw[if_neg (fun h=>h he)]at h;refine⟨fun h0=>?_,fun h0=>?_⟩
  ·rw[if_pos h0]at h;exact HMK.out zg (non z) 0 W' h (gZ z) fh hW
  ·rw[if_neg h0]at h;have h2:=HMK.out { c with p:=p } r p W' h (HCT.out.set p) (HCL.out.set hp) hW;rw[he]at h2;exact h2
 clear HMK HCT HCL;rcases HVV.out with⟨rfl,hv⟩ | ⟨rfl,hv⟩
 ·rw[hv]at HXC;have HTG:=hid (jG c q 5 w6);have HF2:=hid (fun W h=>HFN.out q 5 W hq HXC.out h);clear HVV HFN hv HXC he HER;go_wp2_with(first | (refine wpList_store_row rfl 27 (.tmp 11) (.tmp 40) rfl w5.heap.size (Tg.hs c) rfl rfl 27 zh X5.out (aD c) rfl (bW c) ?_) | (refine wpList_load_row rfl 27 (.tmp 11) rfl w5.heap.size rfl 27 (Tg.hs c) (0,0) _ R4.out underlying27 rfl (aD c) ?_));refine HTG.out.mono ?_;rintro e w7 ⟨ht,B⟩;obtain⟨Y,E,rfl,HF3⟩:=ht.out HF2.out;replace R0:=hid (kept R0.out B);replace HB:=Bt' HB B;clear B HTG HF2 ht;go_wp2_with(refine wpList_store_row rfl 29 (.tmp 4) (.tmp 53) rfl w.heap.size (Tg.cs Y) rfl rfl 29 zt R0.out (aG _) rfl (cT _) ?_);exact bodyPost_ret (H.ag results8 _ _ w.heap.size 29 _ (0,0) _ rfl (X.aA R0.out) underlying29 (aG _)) rfl (HF3.out _ (X.ai HB.out (le_refl _) _))
 ·rw[hv]at HXC;have HNU:=hid (fun W h=>cC d (by omega) W h)
  have hpz:pt (bn d)<=65535:=by
   unfold pt;split
   ·rename_i h;exact h.2.2.2
   ·exact zero_le _
  have HF2:=hid (fun W h=>HFN.out (pt (bn d)) 131 W hpz HXC.out h);have HTG:=hid (fun W=>jG c (pt (bn d)) 131 W);obtain⟨z,hz9⟩:=Ex' (pt (bn d));rw[hz9]at HNU HF2 HTG;clear HVV HFN hv HXC he hpz hz9;go_wp2_with(refine wpList_store_row rfl 27 (.tmp 11) (.tmp 40) rfl w5.heap.size (Tg.hs c) rfl rfl 27 zh X5.out (aD c) rfl (bW c) ?_)
  have hne:w5.heap.size≠w.heap.size:=fun e=>by
   have h:=R4.out;rw[e,R0.out]at h;injection h with h
   injection h with _ h2
   exact absurd h2 (by decide)
  have hBB:Below w.heap.size w w6.drew:=HB.out.drew;have e1:=enters_of func21 (by kernel_rfl) rfl;have e2:=enters_of func14 (by kernel_rfl) rfl;have HE2:Hid (X.Er w6.drew):=(HGG.out _ hBB).1.2.2.2.1;refine wp_region_held_drew (S:=fun W=>W.heap[w5.heap.size]? = some (.cells (Tg.hs c) 27 (0,0))) (by kernel_rfl) R4.out (fun hS=>?_);show wpAnyH _ _ _ _ _ 8 _ _ _;refine wpAnyH_take (i:=0) (v:=.agg (Tg.hs c)) rfl (by kernel_rfl) (by kernel_rfl) (by kernel_rfl) (fun _ _ _ h=>h) (H.tZ rfl 27 (.tmp 11) rfl w5.heap.size rfl 27 _ (0,0) _ (fun W h=>h) underlying27 (aD c)) hS ?_;refine wpAnyH_take (i:=1) (v:=.string d) rfl (by kernel_rfl) (by kernel_rfl) (by kernel_rfl) (fun _ _ _ h=>h) (Or.inl ⟨by rfl,fun w' hSw=>by(try dsimp only at hSw);go_simp⟩) hS ?_;refine wpAnyH_ready (rs:=[2]) (by kernel_rfl) (by simp) (AllReadyH.cons rfl (fun K hK=>?_) AllReadyH.nil);go_simp;go_at_call 21;refine(HNU.out _ HE2.out).mono ?_;rintro e w7 ⟨rfl,hb⟩;replace R0:=hid (kept (W:=w6.drew) R0.out hb);replace hBB:=hBB.trans (hb.mono hBB.size);refine hK.out _ _ (kept (W:=w6.drew) R4.out hb) (fun hS=>?_);refine wpAnyH_ready (rs:=[3]) (by kernel_rfl) (by simp) (AllReadyH.cons rfl (fun K hK=>?_) AllReadyH.nil);go_simp;go_at_call 14;refine(HTG.out _).mono ?_;rintro e w8 ⟨ht,hb2⟩;obtain⟨Y,E,rfl,HF3⟩:=ht.out HF2.out;replace R0:=hid (kept R0.out hb2);replace hBB:=hBB.trans (hb2.mono hBB.size);have hS2:=kept hS hb2;clear HF2 ht;refine hK.out _ _ hS2 (fun hS=>?_);refine wpAnyH_take (i:=4) (v:=.agg (Tg.cs Y)) rfl (by kernel_rfl) (by kernel_rfl) (by kernel_rfl) (fun _ _ _ h=>h) (Or.inl ⟨by rfl,fun w' hSw=>by(try dsimp only at hSw);go_simp⟩) hS ?_;refine wpAnyH_take (i:=5) (v:=.int .i64 E) rfl (by kernel_rfl) (by kernel_rfl) (by kernel_rfl) (fun _ _ _ h=>h) (Or.inl ⟨by rfl,fun w' hSw=>by(try dsimp only at hSw);go_simp⟩) hS ?_;refine wpAnyH_ready (rs:=[6]) (by kernel_rfl) (by simp) (AllReadyH.cons rfl (fun K hK=>?_) AllReadyH.nil);refine EK rfl 29 (.tmp 4) (.tmp 59) rfl w.heap.size (Tg.cs Y) rfl rfl zt R0.out (aG _) rfl (cT _) ?_;refine hK.out _ _ ((setRow_other _ _ _ _ hne).trans hS) (fun hS=>?_);refine wpAnyH_take (i:=7) (v:=.int .i64 E) rfl (by kernel_rfl) (by kernel_rfl) (by kernel_rfl) (fun _ _ _ h=>h) (Or.inl ⟨by rfl,fun w' hSw=>by(try dsimp only at hSw);go_simp⟩) hS ?_;refine wpAnyH_done (by kernel_rfl) ?_ _;go_wp2;exact bodyPost_ret (H.ag results8 _ _ w.heap.size 29 (Tg.cs Y) (0,0) _ rfl (X.aA R0.out) underlying29 (aG _)) rfl (HF3.out _ (X.ai hBB (le_refl _) _))
open F (bn hid)
open H (Hst May hv aR)
def hq(x y:Tg):Bool:=decide ((x.k,bn x.nm,x.f,[x.x0,x.x1,x.x2,x.x3,x.x4,x.x5,x.x6,x.x7])=(y.k,bn y.nm,y.f,[y.x0,y.x1,y.x2,y.x3,y.x4,y.x5,y.x6,y.x7]))
theorem RQ(x y:Tg)(hp:x.p=y.p)(w:World):(Op.equalIn 10000 29 (.agg x.cs) (.agg y.cs)).run prog w=.ok (hq x y) w:=by
 rw[run_equalIn_struct w 9999 29 _ _ (by kernel_rfl) (by kernel_rfl)];have hf:=fields_target;generalize (prog.fieldsOf 29).toList=fs at hf ⊢;match fs,hf with
 | [],hf=>cases hf
 | [_],hf=>simp at hf
 | _::_::_::_,hf=>simp at hf
 | [f0,f1],hf =>
  simp only[map_cons,List.map_nil,List.cons.injEq,Prod.mk.injEq,decide_eq_false_iff_not,and_true]at hf;obtain⟨⟨t0,o0,n0⟩,⟨t1,o1,n1⟩⟩:=hf;have g16:∀ w,(isAgg 22).run prog w=.ok false w:=fun w=>by kernel_rfl
  simp only[Op.eqFields,ne_eq,n0,n1,not_false_eq_true,if_true,t0,t1,o0,o1,Sem.run_bind];rw[eF,Result.andThen_ok,eF,Result.andThen_ok];have e:=H.fa 9996 (x.k:Nat) x.nm (x.f:Nat) (x.x0:Nat) (x.x1:Nat) (x.x2:Nat) (x.x3:Nat) (x.x4:Nat) (x.x5:Nat) (x.x6:Nat) (x.x7:Nat) (y.k:Nat) y.nm (y.f:Nat) (y.x0:Nat) (y.x1:Nat) (y.x2:Nat) (y.x3:Nat) (y.x4:Nat) (y.x5:Nat) (y.x6:Nat) (y.x7:Nat) w;rw[H.tq,show decide ((x.k,bn x.nm,x.f,[x.x0,x.x1,x.x2,x.x3,x.x4,x.x5,x.x6,x.x7])=(y.k,bn y.nm,y.f,[y.x0,y.x1,y.x2,y.x3,y.x4,y.x5,y.x6,y.x7]))=hq x y from rfl]at e;rw[show(.agg x.hs:Value)=hv (x.k:Nat) x.nm (x.f:Nat) (x.x0:Nat) (x.x1:Nat) (x.x2:Nat) (x.x3:Nat) (x.x4:Nat) (x.x5:Nat) (x.x6:Nat) (x.x7:Nat) from rfl,show(.agg y.hs:Value)=hv (y.k:Nat) y.nm (y.f:Nat) (y.x0:Nat) (y.x1:Nat) (y.x2:Nat) (y.x3:Nat) (y.x4:Nat) (y.x5:Nat) (y.x6:Nat) (y.x7:Nat) from rfl,e,Result.andThen_ok];generalize hq x y=v;cases v with
  | false=>simp
  | true =>
   simp only[Bool.not_true,Bool.false_eq_true,if_false,Sem.run_bind];rw[aR _ g16 _ 11 (.int .u16 (x.p:Nat)) rfl,Result.andThen_ok,aR _ g16 _ 11 (.int .u16 (y.p:Nat)) rfl,Result.andThen_ok,run_equalIn_int w 9998 22 .u16 .u16 _ _ underlying22,Result.andThen_ok,hp];simp
theorem Qh(x y:Tg)(hp:x.p=y.p)(w:World):(binOp .eql 29 (.agg x.cs) (.agg y.cs)).run prog w=.ok (.bool (hq x y)) w:=by rw[run_eql_struct,RQ x y hp];rfl
theorem RJ{a c:Tg}{h r:Hst}{p q k:Nat}(ha:Tv a h p)(hc:Tv c r q)(he:r.2.2.2.2=0):hq { c with p:=k } a=decide (r=wo h):=by
 unfold hq;refine decide_eq_decide.2 ?_;have e1:((c.k,bn c.nm,c.f,[c.x0,c.x1,c.x2,c.x3,c.x4,c.x5,c.x6,c.x7]):Nat×List Int×Nat×List Nat)=(r.1,r.2.1,r.2.2.1,r.2.2.2.1):=by rw[hc.k,hc.n,hc.f,hc.x]
 have e2:((a.k,bn a.nm,a.f,[a.x0,a.x1,a.x2,a.x3,a.x4,a.x5,a.x6,a.x7]):Nat×List Int×Nat×List Nat)=(h.1,h.2.1,h.2.2.1,h.2.2.2.1):=by rw[ha.k,ha.n,ha.f,ha.x]
 show(c.k,bn c.nm,c.f,[c.x0,c.x1,c.x2,c.x3,c.x4,c.x5,c.x6,c.x7])=_↔_;rw[e1,e2];obtain⟨r1,r2,r3,r4,r5⟩:=r;simp only at he;subst he;unfold wo;simp
def MyR(h:Hst)(p:Nat)(w:World)(e:Ending)(W':World):Prop:=(∃ b r,CH H.IA (wo h) r/\b=decide (r=wo h/\p≠0)/\e=.returned (.bool b))/\Below w.heap.size w W'
theorem sV(a:Tg)(h:Hst)(p:Nat)(w:World)(ht:Tv a h p)(hl:Lm a)(hG:H.GH w):Calls prog 10 #[.agg (Tg.cs a)] w fun e W'=>MyR h p w e W':=by
 obtain⟨V,hV⟩:=Ex' (w.alloc (.cells (Tg.cs a) 29));have R0:Hid (V.heap[w.heap.size]? = some (.cells (Tg.cs a) 29 (0,0))):=by show _=_;rw[<-hV];exact aK w _ _
 have HB:Hid (Below w.heap.size w V):=by show Below _ _ _;rw[<-hV];exact(Below.refl _ w).alloc (le_refl _) _
 have HHO:=hid (eV a h p V ht hl (hG.below HB.out));have M0:=hid (mY R0.out);have HHI:Hid ((prog.info? 27).map (·.size)=some (Tg.hs a).toList.length):=by show _=_;rw[length_toList];exact aD a
 have HT:=hid ht;have HPP:Hid (a.p=p):=ht.p;clear ht hl hG;go_enter func10,ntmps10;go_wp2_with(refine wpList_load_mid rfl 27 (.tmp 7) rfl w.heap.size 0 rfl (Tg.hs a).toList _ M0.out underlying27 rfl HHI.out ?_);clear hV;refine HHO.out.mono ?_;rintro e w1 ⟨⟨c,r,hc,htc,hlc,rfl⟩,B⟩;have HMK:Hid (∀(b:Bool) W',b=decide (r=wo h/\p≠0)->Below w.heap.size w W'->MyR h p w (.returned (.bool b)) W'):=fun b W' hb hW=>⟨⟨b,r,hc,hb,rfl⟩,hW⟩;replace R0:=hid (kept R0.out B);replace HB:=Bt' HB B;have X1:=hid (aK w1 zh 27);obtain⟨pk,pb⟩:=eM w1 zh (Tg.hs c) 27;have R1:=hid pk;replace R0:=hid (kept R0.out pb);replace HB:=Bt' HB pb;obtain⟨w2,hw2⟩:=Ex' ((w1.alloc (.cells zh 27)).setRow w1.heap.size (Tg.hs c));rw[hw2]at R0 R1 HB;have C11:w2.cell? ⟨w.heap.size,11,none⟩=some (.int .u16 (a.p:Nat)):=cell_of_row _ _ 11 _ _ _ R0.out;have X2:=hid (aK w2 zt 29);obtain⟨pk2,pb2⟩:=eM w2 zt (Tg.cs { c with p:=a.p }) 29;have R2:=hid pk2;have R02:=hid (kept R0.out pb2);have HB2:=Bt' HB pb2;obtain⟨w3,hw3⟩:=Ex' ((w2.alloc (.cells zt 29)).setRow w2.heap.size (Tg.cs { c with p:=a.p }));rw[hw3]at R2 R02 HB2;have D11:w3.cell? ⟨w.heap.size,11,none⟩=some (.int .u16 (a.p:Nat)):=cell_of_row _ _ 11 _ _ _ R02.out;have HTC:=hid htc;have hEQ:=Qh { c with p:=a.p } a rfl;clear B hc htc hlc pk pb pk2 pb2 HHO M0;by_cases he:r.2.2.2.2=0;rotate_left
 ·have hen:(r.2.2.2.2==0)=false:=by simpa using he
  have HR:Hid (false=decide (r=wo h/\p≠0)):=by show _=_;exact(decide_eq_false (fun hh=>he (by rw[hh.1];rfl))).symm
  clear he hEQ;go_wp2_with(first | (refine wpList_store_row rfl 27 (.tmp 3) (.tmp 10) rfl w1.heap.size (Tg.hs c) rfl rfl 27 zh X1.out (aD c) rfl (bW c) ?_) | (refine wpList_load_row rfl 27 (.tmp 3) rfl w1.heap.size rfl 27 (Tg.hs c) (0,0) _ R1.out underlying27 rfl (aD c) ?_) | (refine fC rfl 29 0 1 (.tmp 12) (.tmp 14) rfl (some 15) rfl (.agg (Tg.hs c)) (.int .u16 (a.p:Nat)) rfl rfl (Tg.cs { c with p:=a.p }) (xG c a.p) ?_) | (refine wpList_store_row rfl 29 (.tmp 5) (.tmp 15) rfl w2.heap.size (Tg.cs { c with p:=a.p }) rfl rfl 29 zt X2.out (aG _) rfl (cT _) ?_));go_ret;exact HMK.out _ _ HR.out HB2.out
 have hen:(r.2.2.2.2==0)=true:=by rw[he];rfl
 have HQ:=hid (RJ (k:=a.p) HT.out HTC.out he);rw[HQ.out]at hEQ;have HD:Hid (decide (r=wo h/\p≠0)=(decide (r=wo h)&&(((a.p:Nat):Int) != 0))):=by show _=_;rw[HPP.out];by_cases h1:r=wo h <;> by_cases h2:p=0 <;> simp[h1,h2]
 rw[HD.out]at HMK;generalize decide (r=wo h)=v at *;clear he HQ HD HT HTC;go_wp2_with(first | (refine wpList_store_row rfl 27 (.tmp 3) (.tmp 10) rfl w1.heap.size (Tg.hs c) rfl rfl 27 zh X1.out (aD c) rfl (bW c) ?_) | (refine wpList_load_row rfl 27 (.tmp 3) rfl w1.heap.size rfl 27 (Tg.hs c) (0,0) _ R1.out underlying27 rfl (aD c) ?_) | (refine fC rfl 29 0 1 (.tmp 12) (.tmp 14) rfl (some 15) rfl (.agg (Tg.hs c)) (.int .u16 (a.p:Nat)) rfl rfl (Tg.cs { c with p:=a.p }) (xG c a.p) ?_) | (refine wpList_store_row rfl 29 (.tmp 5) (.tmp 15) rfl w2.heap.size (Tg.cs { c with p:=a.p }) rfl rfl 29 zt X2.out (aG _) rfl (cT _) ?_) | (refine aP (by rfl) ?_;refine wpList_load_row rfl 29 (.tmp 5) rfl w2.heap.size rfl 29 (Tg.cs { c with p:=a.p }) (0,0) _ R2.out underlying29 rfl (aG _) ?_) | (refine aP (by rfl) ?_;refine wpList_load_row rfl 29 (.tmp 1) rfl w.heap.size rfl 29 (Tg.cs a) (0,0) _ R02.out underlying29 rfl (aG a) ?_));all_goals (go_ret;exact HMK.out _ _ (by simp_all) HB2.out)
theorem ctr:Ctr H.IA GU where
 asc:=H.asc
 keep:=fun w w' h hb=>h.below hb
 ca:=fun s w hs hG=>tT s hs w hG
 cu:=fun s q w hs hq hG=>fT s q w hs hq hG
 ch:=fun a h p w ht hl hG=>(eV a h p w ht hl hG.1).mono (fun e W' ⟨⟨b,r,h1,h2,_,h4⟩,hB⟩=>⟨⟨b,r,h1,h2,h4⟩,hB⟩)
 ct:=fun a h p w ht hl hG=>iu a h p w ht hl hG.1
 cm:=fun a h p w ht hl hG=>sV a h p w ht hl hG.1
def ztg:Tg:=⟨0,⟨#[]⟩,0,0,0,0,0,0,0,0,0,0⟩
open H (Hst HP Asc May non)
open Y (UP aN cln hqy rdc)
theorem May.one{A:List Int->List Int->Int->Prop}(hA:Asc A){h:Hst}{b c:Bool}(x:May A h b)(y:May A h c):b=c:=by
 unfold May at x y;split at x
 ·rename_i e;rw[if_pos e]at y;rw[x,y]
 ·rename_i e;rw[if_neg e]at y;split at x
  ·rename_i e;rw[if_pos e]at y;rw[x,y]
  ·rename_i e;rw[if_neg e]at y;obtain⟨u,hu,rfl⟩:=x;obtain⟨v,hv,rfl⟩:=y;rw[HP.one hA hu hv]
theorem CH.one{A:List Int->List Int->Int->Prop}(hA:Asc A){h r q:Hst}(x:CH A h r)(y:CH A h q):r=q:=by obtain⟨b,hb,rfl⟩:=x;obtain⟨c,hc,rfl⟩:=y;rw[May.one hA hb hc]
theorem AB.one{A:List Int->List Int->Int->Prop}(hA:Asc A){s:List Int}{r q:Hst×Nat}(x:AB A s r)(y:AB A s q):r=q:=by
 obtain⟨u,e,x1,x2⟩:=x;obtain⟨v,f,y1,y2⟩:=y;obtain⟨rfl,rfl⟩:=Prod.mk.inj (Y.UP.one hA x1 y1);split at x2
 ·rename_i c;rw[if_pos c]at y2;rw[x2,y2]
 rename_i c;rw[if_neg c]at y2;split at x2
 ·rename_i c;rw[if_pos c]at y2;rw[x2,y2]
 rename_i c;rw[if_neg c]at y2;split at x2
 ·rename_i c;rw[if_pos c]at y2;rw[x2,y2]
 rename_i c;rw[if_neg c]at y2;obtain⟨g,hg,rfl⟩:=x2;obtain⟨k,hk,rfl⟩:=y2;rw[CH.one hA hg hk]
theorem AU.one{A:List Int->List Int->Int->Prop}(hA:Asc A){s:List Int}{p:Nat}{r q:Hst×Nat}(x:AU A s p r)(y:AU A s p q):r=q:=by
 unfold AU at x y;split at x
 ·rename_i c;rw[if_pos c]at y;rw[x,y]
 rename_i c;rw[if_neg c]at y;split at x
 ·rename_i c;rw[if_pos c]at y;rw[x,y]
 rename_i c;rw[if_neg c]at y;split at x
 ·rename_i c;rw[if_pos c]at y;rw[x,y]
 rename_i c;rw[if_neg c]at y;obtain⟨u,hu,x⟩:=x;obtain⟨v,hv,y⟩:=y;have:=HP.one hA hu hv;subst this;split at x
 ·rename_i c;rw[if_pos c]at y;rw[x,y]
 rename_i c;rw[if_neg c]at y;obtain⟨g,hg,x⟩:=x;obtain⟨k,hk,y⟩:=y;have:=CH.one hA hg hk;subst this;split at x
 ·rename_i c;rw[if_pos c]at y;rw[x,y]
 rename_i c;rw[if_neg c]at y;cases hp:(dD s).2 with
 | none=>rw[hp]at x y;rw[x,y]
 | some d=>rw[hp]at x y;rw[x,y]
def exB:List Int:=[69,88,65,77,80,76,69,46,99,111,109,46]
def exS:List Int:=[101,120,97,109,112,108,101,46,99,111,109,46]
def exN:List Int:=[101,120,97,109,112,108,101,46,99,111,109]
def w1:List Int:=[104,116,116,112,58,47,47]++exB++[47,120]
def w2:List Int:=[91,58,58,49,93,58,53]
def w4:List Int:=[104,116,116,112,58,47,47,117,64,97]
def sK:Hst:=(3,[],0,[0,0,0,0,0,0,0,1],0)
def aH:Hst:=(1,[97],0,H.z8,0)
theorem PR{A:List Int->List Int->Int->Prop}(hA:Asc A):HP A exS true (1,exS,0,H.z8,0):=by unfold HP;rw[if_neg (by decide),if_neg (by decide),if_neg (by decide)];exact⟨exS,0,hA.num (t:=exS) (by unfold exS;intro c hc;simp at hc;omega),by decide +kernel⟩
theorem PS{A:List Int->List Int->Int->Prop}(hA:Asc A)(hD:qy A):HP A exB true (1,exS,0,H.z8,0):=by unfold HP;rw[if_neg (by decide),if_neg (by decide),if_neg (by decide)];refine⟨exS,0,?_,by decide +kernel⟩;have h:=hD.add (fun b hb=>by simp at hb;exact⟨by omega,by omega⟩) hA.cap;exact h
theorem lQ{A:List Int->List Int->Int->Prop}{h:Hst}(hx:HP A (H.txt h) (decide (h.1≠4)) h)(h0:h.2.2.2.2=0)(hk:h.1≠0)(hl:(H.txt h).length<=4096):May A h true:=by unfold May;rw[if_neg (fun e=>hk (by rw[e];rfl)),if_neg (by omega)];exact⟨h,hx,(decide_eq_true ⟨h0,rfl,hk⟩).symm⟩
theorem ab1{A:List Int->List Int->Int->Prop}(hA:Asc A)(hD:qy A):AB A w1 ((1,exN,0,H.z8,0),80):=by
 refine⟨(rdc (cln w1) (1,exS,0,H.z8,0)).1,0,?_,?_⟩
 ·unfold UP;rw[if_neg (by decide)];refine⟨(1,exS,0,H.z8,0),fun x sp h=>?_,?_⟩
  ·have e:hqy (cln w1)=some (exB,true):=by decide +kernel
   rw[e]at h;obtain⟨rfl,rfl⟩:=Prod.mk.inj (Option.some.inj h);exact PS hA hD
  ·have e:(rdc (cln w1) (1,exS,0,H.z8,0)).2=0:=by decide +kernel
   exact Prod.ext rfl e.symm
 ·have e1:(rdc (cln w1) (1,exS,0,H.z8,0)).1.sch=aN:=by decide +kernel
  have e2:(rdc (cln w1) (1,exS,0,H.z8,0)).1.usr=[]:=by decide +kernel
  have e3:(rdc (cln w1) (1,exS,0,H.z8,0)).1.pas=[]:=by decide +kernel
  have e4:uh (rdc (cln w1) (1,exS,0,H.z8,0)).1=(1,exS,0,H.z8,0):=by decide +kernel
  have e5:(rdc (cln w1) (1,exS,0,H.z8,0)).1.hp=false:=by decide +kernel
  rw[if_neg (by simp),e1,if_neg (by simp),e2,e3,if_neg (by simp),e4,e5];exact⟨_,⟨true,lQ (PR hA) rfl (by decide) (by decide),rfl⟩,by decide +kernel⟩
theorem au2{A:List Int->List Int->Int->Prop}(hA:Asc A):AU A w2 0 (sK,5):=by
 have hx:HP A [91,58,58,49,93] true sK:=by unfold HP;rw[if_neg (by decide),if_pos (by decide)];decide +kernel
 have ht:H.txt sK=[91,58,58,49,93]:=by decide +kernel
 have hc:dD w2=([91,58,58,49,93],some [53]):=by decide +kernel
 unfold AU;rw[if_neg (by decide),if_neg (by decide +kernel),if_neg (by decide),hc];refine⟨sK,hx,?_⟩;rw[if_neg (by decide)];refine⟨sK,⟨true,lQ (by rw[ht];exact hx) rfl (by decide) (by rw[ht];decide),by decide +kernel⟩,?_⟩;rw[if_neg (by decide)];decide +kernel
theorem PT{A:List Int->List Int->Int->Prop}(hA:Asc A):HP A [97] true aH:=by unfold HP;rw[if_neg (by decide),if_neg (by decide),if_neg (by decide)];exact⟨[97],0,hA.num (t:=[97]) (by intro c hc;simp at hc;omega),by decide +kernel⟩
theorem au3{A:List Int->List Int->Int->Prop}(hA:Asc A):AU A [97] 0 (non 5,0):=by
 have hc:dD [97]=([97],none):=by decide +kernel
 unfold AU;rw[if_neg (by decide),if_neg (by decide +kernel),if_neg (by decide),hc];refine⟨aH,PT hA,?_⟩;rw[if_neg (by decide)];refine⟨aH,⟨true,lQ (PT hA) rfl (by decide) (by decide),by decide +kernel⟩,?_⟩;rw[if_neg (by decide)];decide +kernel
theorem ab4{A:List Int->List Int->Int->Prop}(hA:Asc A):AB A w4 (non 140,0):=by
 refine⟨(rdc (cln w4) aH).1,0,?_,?_⟩
 ·unfold UP;rw[if_neg (by decide)];refine⟨aH,fun x sp h=>?_,?_⟩
  ·have e:hqy (cln w4)=some ([97],true):=by decide +kernel
   rw[e]at h;obtain⟨rfl,rfl⟩:=Prod.mk.inj (Option.some.inj h);exact PT hA
  ·have e:(rdc (cln w4) aH).2=0:=by decide +kernel
   exact Prod.ext rfl e.symm
 ·have e1:(rdc (cln w4) aH).1.sch=aN:=by decide +kernel
  have e2:(rdc (cln w4) aH).1.usr≠[]:=by decide +kernel
  rw[if_neg (by simp),e1,if_neg (by simp),if_pos (.inl e2)]
open F (bn bC hid)
open H (Hst HP Asc non)
def tg1:Tg:=⟨1,⟨#[101,120,97,109,112,108,101,46,99,111,109]⟩,0,0,0,0,0,0,0,0,0,80⟩
def tg2:Tg:=⟨3,⟨#[]⟩,0,0,0,0,0,0,0,0,1,5⟩
theorem tv1:Tv tg1 (1,exN,0,H.z8,0) 80:=⟨rfl,by decide +kernel,rfl,rfl,rfl⟩
theorem tv2:Tv tg2 sK 5:=⟨rfl,by decide +kernel,rfl,rfl,rfl⟩
theorem lm1:Lm tg1:=⟨by decide +kernel,by decide,by decide,by decide,by unfold X.Small;decide⟩
theorem lm2:Lm tg2:=⟨by decide +kernel,by decide,by decide,by decide,by unfold X.Small;decide⟩
theorem tvz(e:Int):Tv ztg (non e) 0:=⟨rfl,rfl,rfl,rfl,rfl⟩
theorem tx1{t:ByteArray}(h:bn t=ttx (1,exN,0,H.z8,0) 80):t=⟨#[101,120,97,109,112,108,101,46,99,111,109,58,56,48]⟩:=by
 have e:ttx (1,exN,0,H.z8,0) 80=bn ⟨#[101,120,97,109,112,108,101,46,99,111,109,58,56,48]⟩:=by decide +kernel
 exact bC (h.trans e)
theorem tx2{t:ByteArray}(h:bn t=ttx sK 5):t=⟨#[91,58,58,49,93,58,53]⟩:=by
 have e:ttx sK 5=bn ⟨#[91,58,58,49,93,58,53]⟩:=by decide +kernel
 exact bC (h.trans e)
theorem Sl{A:List Int->List Int->Int->Prop}(hA:Asc A){r:Hst}(h:CH A (wo (1,exN,0,H.z8,0)) r):decide (r=wo (1,exN,0,H.z8,0)/\80≠0)=true:=by
 have hx:HP A exN true (1,exN,0,H.z8,0):=by unfold HP;rw[if_neg (by decide),if_neg (by decide),if_neg (by decide)];exact⟨exN,0,hA.num (t:=exN) (by unfold exN;intro c hc;simp at hc;omega),by decide +kernel⟩
 have hc:CH A (1,exN,0,H.z8,0) (1,exN,0,H.z8,0):=⟨true,lQ hx rfl (by decide) (by decide),by decide +kernel⟩;have e:wo (1,exN,0,H.z8,0)=(1,exN,0,H.z8,0):=rfl;rw[e]at h ⊢;rw[CH.one hA h hc];exact decide_eq_true ⟨rfl,by decide⟩
theorem AM{A:List Int->List Int->Int->Prop}{G:World->Prop}(C:Ctr A G)(hD:qy A)(w:World)(hG:G w):Calls prog 5 #[] w fun e W'=>e=.returned (.bool true)/\Below w.heap.size w W':=by
 have HK:Hid (∀ W,Below w.heap.size w W->G W):=fun W h=>C.keep w W hG h;have HB:Hid (Below w.heap.size w w):=Below.refl _ _;have HC:=hid C
 have HA1:Hid (∀ r,AB A (bn ⟨#[104,116,116,112,58,47,47,69,88,65,77,80,76,69,46,99,111,109,46,47,120]⟩) r->r=((1,exN,0,H.z8,0),80)):=fun r x=>by
  have e:bn ⟨#[104,116,116,112,58,47,47,69,88,65,77,80,76,69,46,99,111,109,46,47,120]⟩=w1:=by decide +kernel
  rw[e]at x;exact AB.one C.asc x (ab1 C.asc hD)
 have HA2:Hid (∀ r,AU A (bn ⟨#[91,58,58,49,93,58,53]⟩) 0 r->r=(sK,5)):=fun r x=>by
  have e:bn ⟨#[91,58,58,49,93,58,53]⟩=w2:=by decide +kernel
  rw[e]at x;exact AU.one C.asc x (au2 C.asc)
 have HA3:Hid (∀ r,AU A (bn ⟨#[97]⟩) 0 r->r=(non 5,0)):=fun r x=>by
  have e:bn ⟨#[97]⟩=[97]:=by decide +kernel
  rw[e]at x;exact AU.one C.asc x (au3 C.asc)
 have HA4:Hid (∀ r,AB A (bn ⟨#[104,116,116,112,58,47,47,117,64,97]⟩) r->r=(non 140,0)):=fun r x=>by
  have e:bn ⟨#[104,116,116,112,58,47,47,117,64,97]⟩=w4:=by decide +kernel
  rw[e]at x;exact AB.one C.asc x (ab4 C.asc)
 have HP1:=hid (C.ca ⟨#[104,116,116,112,58,47,47,69,88,65,77,80,76,69,46,99,111,109,46,47,120]⟩ w (by decide +kernel) hG);clear C hG hD;go_enter func5,ntmps5;go_wp2_with fail;refine HP1.out.mono ?_;rintro e v1 ⟨⟨a,h,p,hP,ha,hla,rfl⟩,B⟩;obtain⟨rfl,rfl⟩:=Prod.mk.inj (HA1.out _ hP);obtain rfl:a=tg1:=Tv.one ha (tv1);replace HB:=Bt' HB B;have X1:=hid (aK v1 zt 29);obtain⟨pk,pb⟩:=eM v1 zt (Tg.cs tg1) 29;have R1:=hid pk;replace HB:=Bt' HB pb;have HP2:=hid (HC.out.cu ⟨#[91,58,58,49,93,58,53]⟩ 0 _ (by decide +kernel) (by decide) (HK.out _ HB.out));clear B pk pb HP1 HA1 ha hla hP;go_wp2_with(first | (refine wpList_store_row rfl 29 (.tmp 1) (.tmp 11) rfl v1.heap.size (Tg.cs tg1) rfl rfl 29 zt X1.out (aG tg1) rfl (cT tg1) ?_));refine HP2.out.mono ?_;rintro e v2 ⟨⟨a,h,p,hP,ha,hla,rfl⟩,B⟩;obtain⟨rfl,rfl⟩:=Prod.mk.inj (HA2.out _ hP);obtain rfl:a=tg2:=Tv.one ha (tv2);replace R1:=hid (kept R1.out B);replace HB:=Bt' HB B;have X2:=hid (aK v2 zt 29);obtain⟨pk,pb⟩:=eM v2 zt (Tg.cs tg2) 29;have R2:=hid pk;replace R1:=hid (kept R1.out pb);replace HB:=Bt' HB pb;have HP3:=hid (HC.out.cu ⟨#[97]⟩ 0 _ (by decide +kernel) (by decide) (HK.out _ HB.out));clear B pk pb HP2 HA2 ha hla hP;go_wp2_with(first | (refine wpList_store_row rfl 29 (.tmp 3) (.tmp 15) rfl v2.heap.size (Tg.cs tg2) rfl rfl 29 zt X2.out (aG tg2) rfl (cT tg2) ?_));refine HP3.out.mono ?_;rintro e v3 ⟨⟨a,h,p,hP,ha,hla,rfl⟩,B⟩;obtain⟨rfl,rfl⟩:=Prod.mk.inj (HA3.out _ hP);obtain rfl:a=ztg:=Tv.one ha (tvz 5);replace R1:=hid (kept R1.out B);replace R2:=hid (kept R2.out B);replace HB:=Bt' HB B;have X3:=hid (aK v3 zt 29);obtain⟨pk,pb⟩:=eM v3 zt (Tg.cs ztg) 29;replace R1:=hid (kept R1.out pb);replace R2:=hid (kept R2.out pb);replace HB:=Bt' HB pb;have HP4:=hid (HC.out.ca ⟨#[104,116,116,112,58,47,47,117,64,97]⟩ _ (by decide +kernel) (HK.out _ HB.out));clear B pk pb HP3 HA3 ha hla hP;go_wp2_with(first | (refine wpList_store_row rfl 29 (.tmp 5) (.tmp 19) rfl v3.heap.size (Tg.cs ztg) rfl rfl 29 zt X3.out (aG ztg) rfl (cT ztg) ?_));refine HP4.out.mono ?_;rintro e v4 ⟨⟨a,h,p,hP,ha,hla,rfl⟩,B⟩;obtain⟨rfl,rfl⟩:=Prod.mk.inj (HA4.out _ hP);obtain rfl:a=ztg:=Tv.one ha (tvz 140);replace R1:=hid (kept R1.out B);replace R2:=hid (kept R2.out B);replace HB:=Bt' HB B;have X4:=hid (aK v4 zt 29);obtain⟨pk,pb⟩:=eM v4 zt (Tg.cs ztg) 29;replace R1:=hid (kept R1.out pb);replace R2:=hid (kept R2.out pb);replace HB:=Bt' HB pb;have HP5:=hid (HC.out.ct tg1 _ _ _ tv1 lm1 (HK.out _ HB.out));clear B pk pb HP4 HA4 ha hla hP;go_wp2_with(first | (refine wpList_store_row rfl 29 (.tmp 7) (.tmp 23) rfl v4.heap.size (Tg.cs ztg) rfl rfl 29 zt X4.out (aG ztg) rfl (cT ztg) ?_) | (refine aP (by rfl) ?_;refine wpList_load_row rfl 29 (.tmp 1) rfl v1.heap.size rfl 29 (Tg.cs tg1) (0,0) _ R1.out underlying29 rfl (aG tg1) ?_));refine HP5.out.mono ?_;rintro e v5 ⟨⟨t,rfl,ht⟩,B⟩;obtain rfl:=tx1 ht;replace R1:=hid (kept R1.out B);replace R2:=hid (kept R2.out B);replace HB:=Bt' HB B;have HP6:=hid (HC.out.cm tg1 _ _ _ tv1 lm1 (HK.out _ HB.out));clear B HP5 ht;go_wp2_with(refine aP (by rfl) ?_;refine wpList_load_row rfl 29 (.tmp 1) rfl v1.heap.size rfl 29 (Tg.cs tg1) (0,0) _ R1.out underlying29 rfl (aG tg1) ?_);refine HP6.out.mono ?_;rintro e v6 ⟨⟨b,r,hr,hb,rfl⟩,B⟩;rw[Sl HC.out.asc hr]at hb;subst hb;replace R2:=hid (kept R2.out B);replace HB:=Bt' HB B;have HP7:=hid (HC.out.ct tg2 _ _ _ tv2 lm2 (HK.out _ HB.out));clear B HP6 hr;go_wp2_with(refine aP (by rfl) ?_;refine wpList_load_row rfl 29 (.tmp 3) rfl v2.heap.size rfl 29 (Tg.cs tg2) (0,0) _ R2.out underlying29 rfl (aG tg2) ?_);refine HP7.out.mono ?_;rintro e v7 ⟨⟨t,rfl,ht⟩,B⟩;obtain rfl:=tx2 ht;replace HB:=Bt' HB B;clear B HP7 ht HC HK;go_wp2;go_ret;exact⟨rfl,HB.out⟩
end Cn
namespace I
theorem zX(X:List Int)(hy:Bool):prc (X++[46]) hy=prc X hy++[([],0)]:=by
 have e1:spl (X++[46])=spl X++[[]]:=kj X [];have h1:one [] hy=([],0):=by cases hy <;> decide +kernel
 have h2:L.kR []=false:=by decide +kernel
 have h3:dV ([],0)=([],0):=by decide +kernel
 unfold prc;rw[e1,map_append,map_singleton,h1];have e2:il ((spl X).map (fun l=>one l hy)++[([],0)])=il ((spl X).map fun l=>one l hy):=by unfold il;rw[List.any_append];simp[h2]
 rw[e2];split
 ·rw[map_append,map_singleton,h3]
 ·rfl
theorem oW:∀ ls:List (List Int),ls≠[]->join (ls++[[]])=join ls++[46]
 | [],h=>absurd rfl h
 | [a],_=>rfl
 | a::b::l,_=>by have:=oW (b::l) (by simp);rw[cons_append,cons_append,join,join,append_assoc,cons_append,<-this];rfl
theorem uS:Part [] []:=.inl ⟨rfl,rfl⟩
theorem Fu(X:List Int)(hy:Bool):prc X hy≠[]:=by obtain⟨a,t,h⟩:=aV X;unfold prc;rw[h];split <;> simp
theorem BG{xs:List (List Int×Int)}{ts:List ByteArray}(h:bS (xs++[([],0)]) ts):∃ us:List ByteArray,bS xs us/\ts.map U.bn=us.map U.bn++[[]]:=by
 have hl:=h.1;rw[length_append,List.length_singleton]at hl
 obtain⟨us,t,rfl⟩:∃ us t,ts=us++[t]:=by
  have hne:ts≠[]:=fun e=>by rw[e]at hl;simp at hl
  exact⟨ts.dropLast,ts.getLast hne,(List.dropLast_concat_getLast hne).symm⟩
 have hul:us.length=xs.length:=by simpa using hl
 refine⟨us,⟨hul,fun i hi=>?_⟩,?_⟩
 ·have:=h.2 i (by simp;omega);rw[List.getElem?_append_left hi,List.getElem?_append_left (by omega)]at this;exact this
 ·have:=(h.2 xs.length (by simp)).2;rw[List.getElem?_append_right (le_refl _),List.getElem?_append_right (by omega),hul,Nat.sub_self]at this;have hp:=gJ this uS;rw[map_append,map_singleton];exact congrArg (fun z=>us.map U.bn++[z]) hp
end I
namespace H
theorem wX{s:List Int}(hs:U.Bytes s):I.Mp (U.dec (s++[46]))=I.Mp (U.dec s)++[46]:=by rw[I.ng 46 [] (by decide) (by decide) (fun b hb=>by cases hb) s.length s (le_refl _) hs];exact I.QJ (U.dec s) []
theorem IA.dot{s t:List Int}(hs:U.Bytes s)(h:IA s t 0):IA (s++[46]) (t++[46]) 0:=by
 obtain⟨T,rfl,h⟩:=h;rcases h with⟨_,_,h⟩ | ⟨ts,hp,⟨_,_,_,h⟩ | ⟨_,hj,_⟩⟩
 ·cases h
 ·cases h
 ·have hb:U.Bytes (U.bn T++[46]):=fun b hb=>by
   rcases List.mem_append.1 hb with hb | hb
   ·exact U.aL T b hb
   ·rw[List.mem_singleton.1 hb];decide
  obtain⟨V,hV⟩:=I.wJ _ hb;refine⟨V,hV,.inr ⟨ts++[⟨#[]⟩],?_,.inr ⟨fun h=>(by cases h.1),?_,rfl⟩⟩⟩
  ·rw[wX hs,I.zX];exact hp.snoc rfl I.uS
  ·rw[hV,hj,map_append,map_singleton];have hne:ts.map U.bn≠[]:=fun e=>by have h1:=hp.1;rw[List.map_eq_nil_iff.1 e]at h1;exact I.Fu _ _ (List.length_eq_zero_iff.1 h1.symm)
   exact(I.oW _ hne).symm
theorem IA.cut{t:List Int}(ht:U.Bytes t)(h:IA (t++[46]) (t++[46]) 0):IA t t 0:=by
 obtain⟨T,hT,h⟩:=h;rcases h with⟨_,_,h⟩ | ⟨ts,hp,⟨_,_,_,h⟩ | ⟨_,hj,_⟩⟩
 ·cases h
 ·cases h
 ·rw[wX ht,I.zX]at hp;obtain⟨us,hu,e⟩:=I.BG hp;have hne:us.map U.bn≠[]:=fun e=>by have h1:=hu.1;rw[List.map_eq_nil_iff.1 e]at h1;exact I.Fu _ _ (List.length_eq_zero_iff.1 h1.symm)
  rw[hT,e,I.oW _ hne]at hj;obtain⟨V,hV⟩:=I.wJ t ht;exact⟨V,hV,.inr ⟨us,hu,.inr ⟨fun h=>(by cases h.1),by rw[hV];exact List.append_cancel_right hj,rfl⟩⟩⟩
end H
namespace Y
end Y
namespace Cn
open H (IA)
theorem MT:qy IA:=⟨fun h x=>H.IA.cut h x,fun h x=>H.IA.dot h x⟩
open Y (GU)
theorem works_at(w:World)(hG:GU w):Calls prog 5 #[] w fun e W'=>e=.returned (.bool true)/\Below w.heap.size w W':=AM ctr MT w hG
end Cn
end Go.Proofs.YtmkompnhefhngaaGreatDoor
namespace Go.Proofs
open Go.Shelf Go.RowKit
shelf_lay LaysM.n147 Nm 147 at Tryz as Tryz.laysSplM
end Go.Proofs
namespace Go.Proofs.YtmkompnhefhngaaGreatDoor
open Go.Proofs.Tryz Go.RowKit
open Go.ChangeShapes Go.WideShapes Go.ChangeAt Go.RowKit
set_option maxRecDepth 100000
theorem ownK:ownKnob prog.godebug=none:=by kernel_rfl
theorem laidOut:laidOutB prog=true:=by kernel_rfl
abbrev laidL:List (String×DataW Unit):=Rows.canonRestsRow.laid
abbrev nmT:String:=((Rows.canonRestsRow.laid.map (·.1)).drop 1).headD default
abbrev nmP:String:=((Rows.canonRestsRow.laid.map (·.1)).drop 2).headD default
theorem mW{P:Program}{w:World}{n:String}{d:DataW Unit}:∀ {l:List (String×DataW Unit)} {ps:List MemPlace},DataW.LaidVars P w l ps->(n,d)∈l->∃ g t cs fuel p,P.globalNamed n=some g/\(P.globals[g]?).map (·.type)=some t/\w.var? P n=some cs/\DataW.trod (fun _=>()) P w 0 (fun _=>true) false fuel t cs.toList=some (d,p)
 | [],_,_,h=>by cases h
 | (m,e)::r,ps,hL,h=>by
  obtain⟨g,t,cs,fuel,p,q,h1,h2,h3,h4,h5,_⟩:=hL;rcases List.mem_cons.1 h with h | h
  ·cases h;exact⟨g,t,cs,fuel,p,h1,h2,h3,h4⟩
  ·exact mW h5 h
theorem Pn{W:World}(h:laidMetH prog laidL W):F.Pow W:=by
 rw[MakeChecks.laidMetH_plain _ _ _ (by kernel_rfl)]at h;obtain⟨ps,hL,_,_⟩:=h;obtain⟨g2,t2,cs2,f2,p2,hg2,ht2,hv2,hd2⟩:=mW (n:=nmP) (d:=Rows.laid_internal_strconv_uint64pow10) hL (mem_of_getElem? (i:=2) rfl);have gP:prog.globalNamed nmP=some 3:=by kernel_rfl
 obtain rfl:=Option.some.inj (gP.symm.trans hg2);obtain rfl:=Option.some.inj ((show(prog.globals[3]?).map (·.type)=some 202 by kernel_rfl).symm.trans ht2);have hT:Lib.TabIs prog W nmP .u64 Lib.pow10Tab:=by unfold Lib.TabIs;refine hv2.trans ?_;rw[<-Lib.cells_of_tab (zs:=Lib.pow10Tab) underlying202 underlying73 (by kernel_rfl) (by kernel_rfl) hd2]
 unfold Lib.TabIs World.var? at hT;rw[gP]at hT;exact hT
theorem Pl{W:World}(h:laidMetH prog laidL W):X.Tab W:=by
 rw[MakeChecks.laidMetH_plain _ _ _ (by kernel_rfl)]at h;obtain⟨ps,hL,_,_⟩:=h;obtain⟨g,t,cs,fuel,p,h1,h2,h3,h4⟩:=mW (n:=nmT) (d:=Rows.laid_math_bits_deBruijn64tab) hL (mem_of_getElem? (i:=1) rfl);obtain rfl:=Option.some.inj ((show prog.globalNamed nmT=some 8 by kernel_rfl).symm.trans h1);obtain rfl:=Option.some.inj ((show(prog.globals[8]?).map (·.type)=some 258 by kernel_rfl).symm.trans h2);obtain⟨xs,m,_,ex,_,hl,hel⟩:=DataW.trod_array underlying258 h4;have c5:prog.cellsOf 5=1:=by kernel_rfl
 have hE:=hel 15 (by decide);rw[c5,Nat.mul_one,List.getElem?_eq_getElem (by omega)]at hE;obtain⟨z,e1,e2,_⟩:=DataW.trod_int underlying5 hE;have e3:xs.map (·.1)=_:=(DataW.agg.inj (Prod.mk.inj ex).1).symm;have e4:(xs.map (·.1))[15]? = some (.lit (.int .u8 4)):=by rw[e3];rfl
 rw[List.getElem?_map,List.getElem?_eq_getElem (by omega:15<xs.length)]at e4;have hz:z=4:=by have e5:xs[15].1=DataW.lit (.int .u8 4):=Option.some.inj e4;rw[congrArg Prod.fst e2]at e5;simpa using e5
 unfold X.Tab;rw[World.var?_cell h1 h3 15];have:((cs.toList.drop 15).take 1)[0]? = some (.int .u8 z):=by rw[e1];rfl
 rw[hz]at this;simpa using this
abbrev nmR:String:=((Rows.canonRestsRow.laid.map (·.1)).drop 4).headD default
abbrev nmS:String:=((Rows.canonRestsRow.laid.map (·.1)).drop 5).headD default
theorem Po{W:World}(h:laidMetH prog laidL W):X.Er W:=by
 rw[MakeChecks.laidMetH_plain _ _ _ (by kernel_rfl)]at h;obtain⟨ps,hL,_,_⟩:=h
 have one:∀(n:String) (gg:Nat) (nm:String) (d:DataW Unit),(n,DataW.iface nm d)∈laidL->prog.globalNamed n=some gg->(prog.globals[gg]?).map (·.type)=some 75->∃ ev,W.cell? ⟨gg,0,none⟩=some ev/\X.QM ev:=by
  intro n gg nm d hm hn ht;obtain⟨g,t,cs,fuel,p,h1,h2,h3,h4⟩:=mW hL hm;obtain rfl:=Option.some.inj (hn.symm.trans h1);obtain rfl:=Option.some.inj (ht.symm.trans h2);obtain⟨_,u,v,hc,_⟩:=iface_of_trod underlying75 h4;refine⟨.iface u v,?_,.inr ⟨u,v,rfl⟩⟩;rw[World.var?_cell h1 h3 0];have:cs.toList[0]? = some (.iface u v):=by rw[hc];rfl
  simpa using this
 exact⟨one nmS 1 _ _ (mem_of_getElem? (i:=5) rfl) (by kernel_rfl) (by kernel_rfl),one nmR 2 _ _ (mem_of_getElem? (i:=4) rfl) (by kernel_rfl) (by kernel_rfl)⟩
theorem door_met(os:Os)(args:Array Value):laidMetH prog laidL ((World.laidAll prog os laidL).forCall (fun _ _=>0) ⟨#[],args,[]⟩).memory:=by rw[MakeChecks.laidMetH_plain _ _ _ (by kernel_rfl)];exact laidMet_laidAll _ (by kernel_rfl) (by kernel_rfl)
theorem door_shaped(os:Os)(args:Array Value):((World.laidAll prog os laidL).forCall (fun _ _=>0) ⟨#[],args,[]⟩).Shaped prog:=World.shaped_of_ZipB (by kernel_rfl) (by kernel_rfl)
theorem vA{W:World}(h:W.ShapedOpen prog):F.Max W:=by
 obtain⟨m,hm⟩:=Tryz.laysSplM.s1_3 W h;have hg:Tryz.laysSplM_ren.g 1=0:=by kernel_rfl
 rw[hg]at hm;exact⟨m,hm⟩
theorem Pm{W:World}(h:laidMetH prog laidL W)(hS:W.ShapedOpen prog):X.GX W:=⟨Pl h,Po h,vA hS⟩
theorem Pk{W:World}(h:laidMetH prog laidL W):Y.Tbs W:=by
 rw[MakeChecks.laidMetH_plain _ _ _ (by kernel_rfl)]at h;obtain⟨ps,hL,_,_⟩:=h;have r:=Lib.LaidVars_reads hL;have hx:U8Extra prog Tryz.laysTrF_ren:=⟨by kernel_rfl,by kernel_rfl,by kernel_rfl,by kernel_rfl,by kernel_rfl,by kernel_rfl,by kernel_rfl⟩;have hl:U8Types prog Tryz.laysTrF_ren:=⟨by kernel_rfl,by kernel_rfl,by kernel_rfl,by kernel_rfl⟩;have t:=utf8Tabs_of_readsT hl hx (r _ _ (mem_of_getElem? (i:=7) (by kernel_rfl))) (r _ _ (mem_of_getElem? (i:=3) (by kernel_rfl)));have e3:Tryz.laysTrF_ren.g 3=4:=by kernel_rfl
 have e4:Tryz.laysTrF_ren.g 4=5:=by kernel_rfl
 rw[e3,e4]at t;exact t
theorem of_url{W:World}(h:laidMetH prog laidL W)(hS:W.ShapedOpen prog):H.GH W/\Y.Tbs W:=⟨⟨Pn h,vA hS,Pm h hS⟩,Pk h⟩
theorem returns_shaped{H:Type}{enc:TypeId×Value->H}{os:Os}{f:FuncId}{fn:Func}{s:ChangeSpec}(started:os.Started)(noInit:Tryz.checked.prog.inits.idxOf? f=none)(hfn:Tryz.checked.prog.funcs[f]? = some fn){X:World->Array Value->Prop}
  (hX:∀(w w':World) (args:Array Value),w.heap=w'.heap->X w args->X w' args)
  (wit:∃(w:World) (tape:Tape) (i:Input),w.os=os/\(w.forCall tape i).Shaped Tryz.checked.prog/\i.vars=[]/\Input.okWide Tryz.checked.prog (w.forCall tape i) .any w.heap.size f i /\
    ((s.pre enc Tryz.checked.prog fn [] false (w.forCall tape i).memory i.args/\X (w.forCall tape i).memory i.args)/\sizedMet enc Tryz.checked.prog fn (OpenSpec.ofChange s) false (w.forCall tape i).memory i.args)/\Assume.holds {} Tryz.checked.prog (lone (Frame.enter Tryz.checked.prog f i.args .normal) [] (w.forCall tape i)))
  (con:∀(W:World) (base:Nat) (args:Array Value) (ds gs:List (DataW H)) (before:List MemPlace),
    (∀(j:Nat) t v,fn.params[j]? = some t->args[j]? = some v->Value.okWide Tryz.checked.prog W .any base t v) ->
    DataW.Whole enc Tryz.checked.prog fn.params.toList s.vars false W args.toList ds gs before->X W args->W.ShapedOpen Tryz.checked.prog ->
    Calls Tryz.checked.prog f args W fun e W'=>∃ v,e=.returned v/\s.post enc Tryz.checked.prog fn false true false false W args v W') :
  ReturnsInHanded {} Tryz.checked os f .any (fun w args=>(s.pre enc Tryz.checked.prog fn [] false w args/\X w args)/\sizedMet enc Tryz.checked.prog fn (OpenSpec.ofChange s) false w args) (s.post enc Tryz.checked.prog fn false true false false):=by
 refine returnsInHanded_of_calls ownK started noInit wit (fun w tape i _ sh _ ok pre _=>?_);obtain⟨_,_,_,fn2,e2,_,_,_,_,cP⟩:=ok;cases Option.some.inj (e2.symm.trans hfn);obtain⟨⟨⟨ds,gs,bf,whole,_⟩,x⟩,_⟩:=pre;refine(con (w.forCall tape i) w.heap.size i.args ds gs bf cP (DataW.Whole.of_heap (w:=(w.forCall tape i).memory) (w':=w.forCall tape i) (by rfl) whole) (hX (w.forCall tape i).memory (w.forCall tape i) _ (by rfl) x) sh).mono ?_;rintro e W' ⟨v,rfl,post⟩;exact ChangeSpec.post_blind post
end Go.Proofs.YtmkompnhefhngaaGreatDoor
