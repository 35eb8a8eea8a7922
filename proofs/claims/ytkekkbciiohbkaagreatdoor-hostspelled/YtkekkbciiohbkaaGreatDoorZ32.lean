/- Texts one behind the other: FV WB WC. -/
import Derived.Test.YtkekkbciiohbkaaGreatDoorZ31
import Derived.Test.YtkekkbciiohbkaaGreatDoorZ3
import Derived.Test.YtkekkbciiohbkaaGreatDoorProg
import Derived.Test.YtkekkbciiohbkaaGreatDoorChecked
import Derived.Shelf.Lay
import Derived.Shelf.Pu.ParseUintPublic10
import Derived.Ground.MpProg
import Derived.Laws.BitsAllLaws
import Derived.Lib.ConvBytes
import Derived.RegionTactic
import Derived.Lib.IfaceEq
import Derived.BigQuiet
set_option maxRecDepth 100000
set_option maxHeartbeats 16000000
set_option linter.unusedVariables false
set_option linter.unnecessarySimpa false
namespace Go.Proofs.YtkekkbciiohbkaaGreatDoor.F
open Go.RowKit
theorem CS{t j:Nat}{xs:List (Nat×Int)}(h:j+1<xs.length):sm j (xs.drop j)=(xs[j]?.getD (0,0)).1 * 256 ^ (3 - j)+sm (j+1) (xs.drop (j+1))∧lg t (xs.drop j)=(decide ((xs[j]?.getD (0,0)).2=4)||decide (255<(xs[j]?.getD (0,0)).1)||lg t (xs.drop (j+1))):=by
 rw[List.drop_eq_getElem_cons (by omega:j<xs.length),List.drop_eq_getElem_cons h,List.getElem?_eq_getElem (by omega:j<xs.length)];exact⟨rfl,rfl⟩
theorem CT{t j:Nat}{xs:List (Nat×Int)}(h:j+1=xs.length):sm j (xs.drop j)=(xs[j]?.getD (0,0)).1∧lg t (xs.drop j)=(decide ((xs[j]?.getD (0,0)).2=4)||decide (256 ^ (5 - t)≤(xs[j]?.getD (0,0)).1)):=by
 rw[List.drop_eq_getElem_cons (by omega:j<xs.length),h,List.drop_length,List.getElem?_eq_getElem (by omega:j<xs.length)];exact⟨rfl,rfl⟩
theorem j5(s:ByteArray)(w:World)(hs:s.size≤400000000)(hM:Max w):
  Calls Tryz.prog 123 #[.string s] w fun e W'=>ib (bn s) w e W':=by
 have HUD:=hid (fun W=>dK s W hs);have hus:=nL s;have HPD:Hid (prt (bn s)=spl (bn (kI s))):=by show _=_;rw[yA,tN]
 obtain⟨U,hU⟩:∃ U,kI s=U:=⟨_,rfl⟩;rw[hU]at HUD hus HPD;clear hU;have HSP:=hid (fJ U w (by omega) hM);rw[←HPD.out]at HSP;clear HPD hM;have HRT:Hid (∀(x:Nat) (y:Int) e W,prs (bn s)=(x,y)→e=.returned (.tuple #[.int .u32 x,.int .i64 y])→Below w.heap.size w W→ib (bn s) w e W):=fun x y e W h he hB=>by unfold ib;rw[h];exact⟨he,hB⟩
 go_enter Tryz.func123,Tryz.ntmps123
 go_wp2_with(first
   | (go_at_call 119;refine(HUD.out _).mono ?_;rintro e w2 ⟨rfl,hw2⟩;obtain rfl:=hw2.symm))
 refine HSP.out.mono ?_;rintro e w1 ⟨⟨b,c,qs,rfl,hcb,hor⟩,B1⟩
 have HB1:=hid B1;clear B1 HSP HUD;rcases hor with⟨h4,hqs⟩ | ⟨h5,h6⟩
 ·have HLN:Hid (((prt (bn s)).map num).length=qs.length):=by show _=_;rw[List.length_map,←hqs,List.length_map]
  have HNM:Hid (∀ i,i<qs.length→((prt (bn s)).map num)[i]?.getD (0,0)=num (bn (qs[i]?.getD ⟨#[]⟩))):=fun i hi=>by
   rw[←hqs,List.getElem?_map,List.getElem?_map,List.getElem?_eq_getElem hi];rfl
  have HSZ:Hid (∀ i,i<qs.length→(qs[i]?.getD ⟨#[]⟩).size≤400000000):=fun i hi=>by
   have h1:qs[i]?.getD ⟨#[]⟩∈qs:=by rw[List.getElem?_eq_getElem hi];exact List.getElem_mem _
   exact Nat.le_trans (eo hqs h1) hs
  have hl:(prt (bn s)).length=qs.length:=by rw[←hqs,List.length_map]
  have HPR:Hid (prs (bn s)=if AW ((prt (bn s)).map num)=true then (0,8) else if lg qs.length ((prt (bn s)).map num)=true then (0,4) else (sm 0 ((prt (bn s)).map num),0)):=by
   show _=_
   unfold prs adr;rw[if_neg (by omega),hl];rfl
  have hq1:0<qs.length:=by
   rw[←hl];unfold prt;have h1:=List.length_pos_iff.2 (bL (bn s));split
   ·rw[List.length_dropLast];omega
   ·exact h1
  rw[hl]at h4;have HCB:=hid hcb;obtain⟨xs,hxs⟩:∃ xs,(prt (bn s)).map num=xs:=⟨_,rfl⟩;rw[hxs]at HLN HNM HPR;obtain⟨t,ht⟩:∃ t,qs.length=t:=⟨_,rfl⟩;rw[ht]at HLN HNM HPR HSZ HCB hq1 h4 ⊢;clear hxs ht hqs hcb hl;have h4z:¬ (4:Int)<(t:Int):=by omega
  have HSM:Hid (lg t xs=false→sm 0 xs<4294967296):=fun h=>by
   rw[mr]at h;rw[sJ];refine nQ (by rw[List.length_map,HLN.out];exact hq1) (by rw[List.length_map,HLN.out];exact h4) ?_;rw[List.length_map,HLN.out];exact(Bool.or_eq_false_iff.1 h).2
  go_wp2_with fail
  go_loopw [5,6,20] (fun v5 v6 v20 wr=>∃(j acc:Nat) (g:Bool),j≤t∧acc≤j * 72057594037927936∧v5=.int .u64 (acc:Int)∧v6=.bool g∧v20=.int .i64 (j:Int)∧Hid (AW (xs.take j)=false)∧Hid (lg t xs=(g||lg t (xs.drop j)))∧Hid (sm 0 xs=acc+sm j (xs.drop j))∧Hid (Below w1.heap.size w1 wr)) (fun _ _ v20 _=>t - (intOf v20).toNat)
  case atStart=>exact⟨0,0,false,Nat.zero_le _,by omega,rfl,rfl,rfl,rfl,by show _=_;rw[List.drop_zero];rfl,by show _=_;rw[List.drop_zero,Nat.zero_add],Below.refl _ _⟩
  case round =>
   obtain⟨j,acc,g,hj,hac,rfl,rfl,rfl,H8,HL,HA,HB⟩:=hrel;have zj:=HB.out.size;by_cases hlt:j<t
   ·have hcw:=HCB.out j hlt
    have hcr:wr.cell? ⟨b,j,none⟩=some (.string (qs[j]?.getD ⟨#[]⟩)):=(HB.out.cell (p:=⟨b,j,none⟩) (jw hcw)).trans hcw;have HNU:Hid (Calls Tryz.prog 121 #[.string (qs[j]?.getD ⟨#[]⟩)] wr fun e W'=>e=.returned (.tuple #[.int .u64 ((num (bn (qs[j]?.getD ⟨#[]⟩))).1:Nat),.int .i64 (num (bn (qs[j]?.getD ⟨#[]⟩))).2])∧Below wr.heap.size wr W'):=di _ wr (HSZ.out j hlt);have hxi:j<xs.length:=by rw[HLN.out];exact hlt
    have HS8:=hid (AU (p:=fun x=>decide (x.2=8)) xs j hxi)
    have HAL:Hid ((xs[j]?.getD (0,0)).2=8→AW xs=true):=fun h=>by
     refine List.any_eq_true.2 ⟨xs[j],List.getElem_mem hxi,?_⟩;rw[List.getElem?_eq_getElem hxi]at h;exact decide_eq_true h
    have HMO:=hid (fun h=>CS (t:=t) (xs:=xs) (j:=j) h);have HLS:=hid (fun h=>CT (t:=t) (xs:=xs) (j:=j) h);rw[HLN.out]at HMO HLS;rw[←HNM.out j hlt]at HNU;have hbd:(xs[j]?.getD (0,0)).1<4294967296:=by rw[HNM.out j hlt];exact FY _
    obtain⟨D,hD⟩:∃ D,qs[j]?.getD ⟨#[]⟩=D:=⟨_,rfl⟩;rw[hD]at hcr HNU;obtain⟨y,hy⟩:∃ y,xs[j]?.getD (0,0)=y:=⟨_,rfl⟩;rw[hy]at HNU HS8 HAL hbd HMO HLS;obtain⟨x,q⟩:=y;simp only at HNU HS8 HAL hbd HMO HLS
    have hltz:(j:Int)<(t:Int):=by omega
    clear hD hy hcw HCB HNM HSZ hxi;by_cases hq8:q=8
    ·have HP:=hid (HPR.out.trans (if_pos (HAL.out hq8)))
     have hqb:(q==8)=true:=by simpa using hq8
     have HQ8:=hid hq8;clear hq8 HAL HPR HMO HLS HS8 HL HA H8 HSM
     go_wp2_with(go_at_call 121;refine HNU.out.mono ?_;rintro e w4 ⟨rfl,B4⟩)
     go_ret2;exact HRT.out _ _ _ _ HP.out (by rw[HQ8.out];rfl) (HB1.out.trans ((HB.out.trans (B4.mono HB.out.size)).mono HB1.out.size))
    ·have hqb:(q==8)=false:=by simpa using hq8
     have H82:Hid (AW (xs.take (j+1))=false):=by
      show _=_
      unfold AW at H8 ⊢
      rw[HS8.out,H8.out];simp[hq8]
     clear HS8 HAL HPR hq8 H8 HSM;by_cases hlast:j+1<t
     ·obtain⟨hs1,hs2⟩:=HMO.out hlast
      have HA2:Hid (sm 0 xs=(acc+x * 256 ^ (3 - j))+sm (j+1) (xs.drop (j+1))):=by show _=_;rw[HA.out,hs1];omega
      have HL2:Hid (lg t xs=((g||(decide (q=4)||decide (255<x)))||lg t (xs.drop (j+1)))):=by show _=_;rw[HL.out,hs2];cases g <;> cases decide (q=4) <;> rfl
      have hne:((j:Int)==(t:Int) - 1)=false:=by simp;omega
      clear hs1 hs2 HMO HLS HA HL;obtain rfl | rfl | rfl:j=0∨j=1∨j=2:=by omega
      ·have hsh:acc+x * 256 ^ (3 - 0)=acc+x * 16777216:=rfl
       rw[hsh]at HA2;clear hsh;have hac2:acc≤0:=by omega
       clear hac;cases g with
       | true =>
        have HL3:Hid (lg t xs=(true||lg t (xs.drop 1))):=HL2.out;clear HL2
        go_wp2_with(go_at_call 121;refine HNU.out.mono ?_;rintro e w4 ⟨rfl,B4⟩)
        go_roundw
        case rel=>exact⟨1,acc+x * 16777216,true,by omega,by omega,by go_num,rfl,by go_num,H82,HL3,HA2,HB.out.trans (B4.mono HB.out.size)⟩
        case measure=>simp[intOf];omega
       | false =>
        by_cases hq4:q=4
        ·have hq4b:(q==4)=true:=by simpa using hq4
         have HL3:Hid (lg t xs=(true||lg t (xs.drop 1))):=by show _=_;rw[HL2.out,decide_eq_true hq4];rfl
         clear HL2 hq4
         go_wp2_with(go_at_call 121;refine HNU.out.mono ?_;rintro e w4 ⟨rfl,B4⟩)
         go_roundw
         case rel=>exact⟨1,acc+x * 16777216,true,by omega,by omega,by go_num,rfl,by go_num,H82,HL3,HA2,HB.out.trans (B4.mono HB.out.size)⟩
         case measure=>simp[intOf];omega
        ·have hq4b:(q==4)=false:=by simpa using hq4
         have hdd:decide (255<x)=decide ((0:Int)<(x:Int) / 256):=decide_eq_decide.2 ⟨fun h=>by omega,fun h=>by omega⟩;have HL3:Hid (lg t xs=(decide ((0:Int)<(x:Int) / 256)||lg t (xs.drop 1))):=by show _=_;rw[HL2.out,decide_eq_false hq4,hdd];rfl
         clear HL2 hq4 hdd
         go_wp2_with(go_at_call 121;refine HNU.out.mono ?_;rintro e w4 ⟨rfl,B4⟩)
         go_roundw
         case rel=>exact⟨1,acc+x * 16777216,decide ((0:Int)<(x:Int) / 256),by omega,by omega,by go_num,rfl,by go_num,H82,HL3,HA2,HB.out.trans (B4.mono HB.out.size)⟩
         case measure=>simp[intOf];omega
      ·have hsh:acc+x * 256 ^ (3 - 1)=acc+x * 65536:=rfl
       rw[hsh]at HA2;clear hsh;have hac2:acc≤72057594037927936:=by omega
       clear hac;cases g with
       | true =>
        have HL3:Hid (lg t xs=(true||lg t (xs.drop 2))):=HL2.out;clear HL2
        go_wp2_with(go_at_call 121;refine HNU.out.mono ?_;rintro e w4 ⟨rfl,B4⟩)
        go_roundw
        case rel=>exact⟨2,acc+x * 65536,true,by omega,by omega,by go_num,rfl,by go_num,H82,HL3,HA2,HB.out.trans (B4.mono HB.out.size)⟩
        case measure=>simp[intOf];omega
       | false =>
        by_cases hq4:q=4
        ·have hq4b:(q==4)=true:=by simpa using hq4
         have HL3:Hid (lg t xs=(true||lg t (xs.drop 2))):=by show _=_;rw[HL2.out,decide_eq_true hq4];rfl
         clear HL2 hq4
         go_wp2_with(go_at_call 121;refine HNU.out.mono ?_;rintro e w4 ⟨rfl,B4⟩)
         go_roundw
         case rel=>exact⟨2,acc+x * 65536,true,by omega,by omega,by go_num,rfl,by go_num,H82,HL3,HA2,HB.out.trans (B4.mono HB.out.size)⟩
         case measure=>simp[intOf];omega
        ·have hq4b:(q==4)=false:=by simpa using hq4
         have hdd:decide (255<x)=decide ((0:Int)<(x:Int) / 256):=decide_eq_decide.2 ⟨fun h=>by omega,fun h=>by omega⟩;have HL3:Hid (lg t xs=(decide ((0:Int)<(x:Int) / 256)||lg t (xs.drop 2))):=by show _=_;rw[HL2.out,decide_eq_false hq4,hdd];rfl
         clear HL2 hq4 hdd
         go_wp2_with(go_at_call 121;refine HNU.out.mono ?_;rintro e w4 ⟨rfl,B4⟩)
         go_roundw
         case rel=>exact⟨2,acc+x * 65536,decide ((0:Int)<(x:Int) / 256),by omega,by omega,by go_num,rfl,by go_num,H82,HL3,HA2,HB.out.trans (B4.mono HB.out.size)⟩
         case measure=>simp[intOf];omega
      ·have hsh:acc+x * 256 ^ (3 - 2)=acc+x * 256:=rfl
       rw[hsh]at HA2;clear hsh;have hac2:acc≤144115188075855872:=by omega
       clear hac;cases g with
       | true =>
        have HL3:Hid (lg t xs=(true||lg t (xs.drop 3))):=HL2.out;clear HL2
        go_wp2_with(go_at_call 121;refine HNU.out.mono ?_;rintro e w4 ⟨rfl,B4⟩)
        go_roundw
        case rel=>exact⟨3,acc+x * 256,true,by omega,by omega,by go_num,rfl,by go_num,H82,HL3,HA2,HB.out.trans (B4.mono HB.out.size)⟩
        case measure=>simp[intOf];omega
       | false =>
        by_cases hq4:q=4
        ·have hq4b:(q==4)=true:=by simpa using hq4
         have HL3:Hid (lg t xs=(true||lg t (xs.drop 3))):=by show _=_;rw[HL2.out,decide_eq_true hq4];rfl
         clear HL2 hq4
         go_wp2_with(go_at_call 121;refine HNU.out.mono ?_;rintro e w4 ⟨rfl,B4⟩)
         go_roundw
         case rel=>exact⟨3,acc+x * 256,true,by omega,by omega,by go_num,rfl,by go_num,H82,HL3,HA2,HB.out.trans (B4.mono HB.out.size)⟩
         case measure=>simp[intOf];omega
        ·have hq4b:(q==4)=false:=by simpa using hq4
         have hdd:decide (255<x)=decide ((0:Int)<(x:Int) / 256):=decide_eq_decide.2 ⟨fun h=>by omega,fun h=>by omega⟩;have HL3:Hid (lg t xs=(decide ((0:Int)<(x:Int) / 256)||lg t (xs.drop 3))):=by show _=_;rw[HL2.out,decide_eq_false hq4,hdd];rfl
         clear HL2 hq4 hdd
         go_wp2_with(go_at_call 121;refine HNU.out.mono ?_;rintro e w4 ⟨rfl,B4⟩)
         go_roundw
         case rel=>exact⟨3,acc+x * 256,decide ((0:Int)<(x:Int) / 256),by omega,by omega,by go_num,rfl,by go_num,H82,HL3,HA2,HB.out.trans (B4.mono HB.out.size)⟩
         case measure=>simp[intOf];omega
     ·have hjt:j+1=t:=by omega
      obtain⟨hs1,hs2⟩:=HLS.out hjt
      have HA2:Hid (sm 0 xs=(acc+x)+sm (j+1) (xs.drop (j+1))):=by
       show _=_
       have he:xs.drop (j+1)=[]:=List.drop_eq_nil_of_le (by rw[HLN.out];omega);rw[HA.out,hs1,he];rfl
      have HL2:Hid (lg t xs=((g||(decide (q=4)||decide (256 ^ (5 - t)≤x)))||lg t (xs.drop (j+1)))):=by
       show _=_
       have he:xs.drop (j+1)=[]:=List.drop_eq_nil_of_le (by rw[HLN.out];omega);rw[HL.out,hs2,he];show _=(_||false)
       rw[Bool.or_false]
      have he5:5 - t=4 - j:=by omega
      rw[he5]at HL2;have hne:((j:Int)==(t:Int) - 1)=true:=by simp;omega
      clear hs1 hs2 HMO HLS HA HL he5 hjt;obtain rfl | rfl | rfl | rfl:j=0∨j=1∨j=2∨j=3:=by omega
      ·have hsh:acc+x=acc+x:=rfl
       rw[hsh]at HA2;clear hsh;have hac2:acc≤0:=by omega
       clear hac;cases g with
       | true =>
        have HL3:Hid (lg t xs=(true||lg t (xs.drop 1))):=HL2.out;clear HL2
        go_wp2_with(go_at_call 121;refine HNU.out.mono ?_;rintro e w4 ⟨rfl,B4⟩)
        go_roundw
        case rel=>exact⟨1,acc+x,true,by omega,by omega,by go_num,rfl,by go_num,H82,HL3,HA2,HB.out.trans (B4.mono HB.out.size)⟩
        case measure=>simp[intOf];omega
       | false =>
        by_cases hq4:q=4
        ·have hq4b:(q==4)=true:=by simpa using hq4
         have HL3:Hid (lg t xs=(true||lg t (xs.drop 1))):=by show _=_;rw[HL2.out,decide_eq_true hq4];rfl
         clear HL2 hq4
         go_wp2_with(go_at_call 121;refine HNU.out.mono ?_;rintro e w4 ⟨rfl,B4⟩)
         go_roundw
         case rel=>exact⟨1,acc+x,true,by omega,by omega,by go_num,rfl,by go_num,H82,HL3,HA2,HB.out.trans (B4.mono HB.out.size)⟩
         case measure=>simp[intOf];omega
        ·have hq4b:(q==4)=false:=by simpa using hq4
         have hdd:decide (256 ^ (4 - 0)≤x)=decide ((0:Int)<(x:Int) / 4294967296):=decide_eq_decide.2 ⟨fun h=>by omega,fun h=>by omega⟩;have HL3:Hid (lg t xs=(decide ((0:Int)<(x:Int) / 4294967296)||lg t (xs.drop 1))):=by show _=_;rw[HL2.out,decide_eq_false hq4,hdd];rfl
         clear HL2 hq4 hdd
         go_wp2_with(go_at_call 121;refine HNU.out.mono ?_;rintro e w4 ⟨rfl,B4⟩)
         go_roundw
         case rel=>exact⟨1,acc+x,decide ((0:Int)<(x:Int) / 4294967296),by omega,by omega,by go_num,rfl,by go_num,H82,HL3,HA2,HB.out.trans (B4.mono HB.out.size)⟩
         case measure=>simp[intOf];omega
      ·have hsh:acc+x=acc+x:=rfl
       rw[hsh]at HA2;clear hsh;have hac2:acc≤72057594037927936:=by omega
       clear hac;cases g with
       | true =>
        have HL3:Hid (lg t xs=(true||lg t (xs.drop 2))):=HL2.out;clear HL2
        go_wp2_with(go_at_call 121;refine HNU.out.mono ?_;rintro e w4 ⟨rfl,B4⟩)
        go_roundw
        case rel=>exact⟨2,acc+x,true,by omega,by omega,by go_num,rfl,by go_num,H82,HL3,HA2,HB.out.trans (B4.mono HB.out.size)⟩
        case measure=>simp[intOf];omega
       | false =>
        by_cases hq4:q=4
        ·have hq4b:(q==4)=true:=by simpa using hq4
         have HL3:Hid (lg t xs=(true||lg t (xs.drop 2))):=by show _=_;rw[HL2.out,decide_eq_true hq4];rfl
         clear HL2 hq4
         go_wp2_with(go_at_call 121;refine HNU.out.mono ?_;rintro e w4 ⟨rfl,B4⟩)
         go_roundw
         case rel=>exact⟨2,acc+x,true,by omega,by omega,by go_num,rfl,by go_num,H82,HL3,HA2,HB.out.trans (B4.mono HB.out.size)⟩
         case measure=>simp[intOf];omega
        ·have hq4b:(q==4)=false:=by simpa using hq4
         have hdd:decide (256 ^ (4 - 1)≤x)=decide ((0:Int)<(x:Int) / 16777216):=decide_eq_decide.2 ⟨fun h=>by omega,fun h=>by omega⟩;have HL3:Hid (lg t xs=(decide ((0:Int)<(x:Int) / 16777216)||lg t (xs.drop 2))):=by show _=_;rw[HL2.out,decide_eq_false hq4,hdd];rfl
         clear HL2 hq4 hdd
         go_wp2_with(go_at_call 121;refine HNU.out.mono ?_;rintro e w4 ⟨rfl,B4⟩)
         go_roundw
         case rel=>exact⟨2,acc+x,decide ((0:Int)<(x:Int) / 16777216),by omega,by omega,by go_num,rfl,by go_num,H82,HL3,HA2,HB.out.trans (B4.mono HB.out.size)⟩
         case measure=>simp[intOf];omega
      ·have hsh:acc+x=acc+x:=rfl
       rw[hsh]at HA2;clear hsh;have hac2:acc≤144115188075855872:=by omega
       clear hac;cases g with
       | true =>
        have HL3:Hid (lg t xs=(true||lg t (xs.drop 3))):=HL2.out;clear HL2
        go_wp2_with(go_at_call 121;refine HNU.out.mono ?_;rintro e w4 ⟨rfl,B4⟩)
        go_roundw
        case rel=>exact⟨3,acc+x,true,by omega,by omega,by go_num,rfl,by go_num,H82,HL3,HA2,HB.out.trans (B4.mono HB.out.size)⟩
        case measure=>simp[intOf];omega
       | false =>
        by_cases hq4:q=4
        ·have hq4b:(q==4)=true:=by simpa using hq4
         have HL3:Hid (lg t xs=(true||lg t (xs.drop 3))):=by show _=_;rw[HL2.out,decide_eq_true hq4];rfl
         clear HL2 hq4
         go_wp2_with(go_at_call 121;refine HNU.out.mono ?_;rintro e w4 ⟨rfl,B4⟩)
         go_roundw
         case rel=>exact⟨3,acc+x,true,by omega,by omega,by go_num,rfl,by go_num,H82,HL3,HA2,HB.out.trans (B4.mono HB.out.size)⟩
         case measure=>simp[intOf];omega
        ·have hq4b:(q==4)=false:=by simpa using hq4
         have hdd:decide (256 ^ (4 - 2)≤x)=decide ((0:Int)<(x:Int) / 65536):=decide_eq_decide.2 ⟨fun h=>by omega,fun h=>by omega⟩;have HL3:Hid (lg t xs=(decide ((0:Int)<(x:Int) / 65536)||lg t (xs.drop 3))):=by show _=_;rw[HL2.out,decide_eq_false hq4,hdd];rfl
         clear HL2 hq4 hdd
         go_wp2_with(go_at_call 121;refine HNU.out.mono ?_;rintro e w4 ⟨rfl,B4⟩)
         go_roundw
         case rel=>exact⟨3,acc+x,decide ((0:Int)<(x:Int) / 65536),by omega,by omega,by go_num,rfl,by go_num,H82,HL3,HA2,HB.out.trans (B4.mono HB.out.size)⟩
         case measure=>simp[intOf];omega
      ·have hsh:acc+x=acc+x:=rfl
       rw[hsh]at HA2;clear hsh;have hac2:acc≤216172782113783808:=by omega
       clear hac;cases g with
       | true =>
        have HL3:Hid (lg t xs=(true||lg t (xs.drop 4))):=HL2.out;clear HL2
        go_wp2_with(go_at_call 121;refine HNU.out.mono ?_;rintro e w4 ⟨rfl,B4⟩)
        go_roundw
        case rel=>exact⟨4,acc+x,true,by omega,by omega,by go_num,rfl,by go_num,H82,HL3,HA2,HB.out.trans (B4.mono HB.out.size)⟩
        case measure=>simp[intOf];omega
       | false =>
        by_cases hq4:q=4
        ·have hq4b:(q==4)=true:=by simpa using hq4
         have HL3:Hid (lg t xs=(true||lg t (xs.drop 4))):=by show _=_;rw[HL2.out,decide_eq_true hq4];rfl
         clear HL2 hq4
         go_wp2_with(go_at_call 121;refine HNU.out.mono ?_;rintro e w4 ⟨rfl,B4⟩)
         go_roundw
         case rel=>exact⟨4,acc+x,true,by omega,by omega,by go_num,rfl,by go_num,H82,HL3,HA2,HB.out.trans (B4.mono HB.out.size)⟩
         case measure=>simp[intOf];omega
        ·have hq4b:(q==4)=false:=by simpa using hq4
         have hdd:decide (256 ^ (4 - 3)≤x)=decide ((0:Int)<(x:Int) / 256):=decide_eq_decide.2 ⟨fun h=>by omega,fun h=>by omega⟩;have HL3:Hid (lg t xs=(decide ((0:Int)<(x:Int) / 256)||lg t (xs.drop 4))):=by show _=_;rw[HL2.out,decide_eq_false hq4,hdd];rfl
         clear HL2 hq4 hdd
         go_wp2_with(go_at_call 121;refine HNU.out.mono ?_;rintro e w4 ⟨rfl,B4⟩)
         go_roundw
         case rel=>exact⟨4,acc+x,decide ((0:Int)<(x:Int) / 256),by omega,by omega,by go_num,rfl,by go_num,H82,HL3,HA2,HB.out.trans (B4.mono HB.out.size)⟩
         case measure=>simp[intOf];omega
   ·obtain rfl:j=t:=by omega
    have he:xs.drop j=[]:=List.drop_eq_nil_of_le (by rw[HLN.out];exact Nat.le_refl _);have ht:xs.take j=xs:=List.take_of_length_le (by rw[HLN.out];exact Nat.le_refl _);rw[ht]at H8;rw[he]at HL HA;have HL2:Hid (lg j xs=g):=by show _=_;rw[HL.out];exact Bool.or_false _
    have HA2:Hid (sm 0 xs=acc):=by show _=_;rw[HA.out];rfl
    have HP:=hid (HPR.out.trans (if_neg (by rw[H8.out];simp)));rw[HL2.out,HA2.out]at HP;rw[HL2.out,HA2.out]at HSM;have hltz:¬ (j:Int)<(j:Int):=by omega
    clear he ht H8 HL HA HPR HL2 HA2 HCB HNM HSZ HLN;cases g with
    | true =>
     have HP2:=hid (HP.out.trans (if_pos rfl));clear HP HSM;go_wp2
     go_ret2;exact HRT.out _ _ _ _ HP2.out rfl (HB1.out.trans (HB.out.mono HB1.out.size))
    | false =>
     have HP2:=hid (HP.out.trans (if_neg (by simp)));have hsm:=HSM.out rfl;clear HP HSM hac;go_wp2
     go_ret2;exact HRT.out _ _ _ _ HP2.out rfl (HB1.out.trans (HB.out.mono HB1.out.size))
 ·have h4z:(4:Int)<(qs.length:Int):=by omega
  have HP:Hid (prs (bn s)=(0,8)):=by show _=_;unfold prs adr;rw[if_pos h5]
  clear h5 h6 hcb;go_wp2
  go_ret2;exact HRT.out _ _ _ _ HP.out rfl HB1.out
end Go.Proofs.YtkekkbciiohbkaaGreatDoor.F
namespace Go.Proofs
open Go.Shelf Go.RowKit
shelf_lay LaysPu.n14 Mp 14 at Tryz as Tryz.laysPu
end Go.Proofs
namespace Go.Proofs.YtkekkbciiohbkaaGreatDoor.X
open Go.RowKit
open Go.Proofs.YtkekkbciiohbkaaGreatDoor.F (hx bw vl cJ bn aa aC av aq ar hid aj ab ah aR aK)
theorem CR:∀ c:Fin 256,(65≤c.val∧c.val≤70→c.val ||| 32=c.val+32)∧(97≤c.val∧c.val≤102→c.val ||| 32=c.val)∧(97≤c.val ||| 32∧c.val ||| 32≤102→(97≤c.val∧c.val≤102)∨(65≤c.val∧c.val≤70))∧c.val ||| 32≤255:=by decide +kernel
theorem wh(c:Int)(h0:0≤c)(h1:c≤255):∃ d:Int,bits .or .u8 c 32=d∧0≤d∧d≤255∧(65≤c∧c≤70→d=c+32)∧(97≤c∧c≤102→d=c)∧(97≤d∧d≤102→(97≤c∧c≤102)∨(65≤c∧c≤70)):=by
 obtain⟨n,rfl⟩:∃ n:Nat,c=(n:Int):=⟨c.toNat,by omega⟩;have h:=CR ⟨n,by omega⟩;simp only at h
 refine⟨((n ||| 32:Nat):Int),u8_or_nat n 32 (by omega) (by omega),by omega,by omega,fun q=>?_,fun q=>?_,fun q=>?_⟩
 ·have:=h.1 (by omega);omega
 ·have:=h.2.1 (by omega);omega
 ·have:=h.2.2.1 (by omega);omega
theorem pC(c d:Int)(h:bits .or .u8 c 32=d)(w:World):Calls Tryz.prog 237 #[.int .u8 c] w fun e w'=>e=.returned (.int .u8 d)∧w'=w:=by
 subst h;go_enter Tryz.func237,Tryz.ntmps237
 go_wp2;go_ret;exact⟨rfl,rfl⟩
def uT(l:List Int):Value:=if l.all hxd=true then .tuple #[.int .u64 (vl 16 l),.nilIface] else .tuple #[.int .u64 0,.iface 230 (.int .i64 2)]
def sF(k a:Nat):Prop:=(k=0∧a≤0)∨(k=1∧a≤15)∨(k=2∧a≤255)∨(k=3∧a≤4095)∨(k=4∧a≤65535)
theorem vE{k a d:Nat}(h:sF k a)(hk:k<4)(hd:d≤15):sF (k+1) (a * 16+d)∧a≤4095:=by
 unfold sF at *
 omega
theorem nN(l:List Int)(k:Nat)(h:k<l.length):l.take (k+1)=l.take k++[l[k]?.getD 0]:=by
 rw[List.take_add_one,List.getElem?_eq_getElem h];rfl
def jS(l:List Int)(k acc:Nat):Prop:=(l.take k).all hxd=true∧vl 16 (l.take k)=acc
theorem jS.step{l:List Int}{k acc:Nat}{c:Int}(h:jS l k acc)(hk:k<l.length)(hc:l[k]?.getD 0=c)(hx0:0≤hx c):jS l (k+1) (acc * 16+(hx c).toNat):=by
 unfold jS at *
 rw[nN l k hk,hc,cJ,List.all_append,h.1,h.2];refine⟨?_,rfl⟩;simp[hxd,hx0]
theorem jS.bad{l:List Int}{k acc:Nat}{c:Int}(h:jS l k acc)(hk:k<l.length)(hc:l[k]?.getD 0=c)(hx0:¬ 0≤hx c):uT l=.tuple #[.int .u64 0,.iface 230 (.int .i64 2)]:=by
 unfold uT;rw[if_neg];intro ha
 rw[List.all_eq_true]at ha
 have hm:c∈l:=by
  rw[List.getElem?_eq_getElem hk]at hc;exact hc ▸ List.getElem_mem hk
 have:=ha c hm;unfold hxd at this
 exact hx0 (of_decide_eq_true this)
theorem jS.all{l:List Int}{acc:Nat}(h:jS l l.length acc):uT l=.tuple #[.int .u64 acc,.nilIface]:=by
 unfold jS at h
 rw[List.take_length]at h;unfold uT;rw[if_pos h.1,h.2]
theorem zR{c:Int}(h:48≤c∧c≤57):hx c=c - 48:=by unfold hx;rw[if_pos h]
theorem zQ{c:Int}(h:97≤c∧c≤102):hx c=c - 87:=by unfold hx;rw[if_neg (by omega),if_pos h]
theorem s7{c:Int}(h:65≤c∧c≤70):hx c=c - 55:=by unfold hx;rw[if_neg (by omega),if_neg (by omega),if_pos h]
theorem C8{c:Int}(h1:¬ (48≤c∧c≤57))(h2:¬ (97≤c∧c≤102))(h3:¬ (65≤c∧c≤70)):¬ 0≤hx c:=by unfold hx;rw[if_neg h1,if_neg h2,if_neg h3];decide
theorem oc(t:ByteArray)(hne:t.size≠0)(h4:t.size≤4)(w:World):
  Calls Tryz.prog 199 #[.string t,.int .i64 16,.int .i64 16] w fun e w'=>e=.returned (uT (bn t))∧Below w.heap.size w w':=by
 have hemp:=ab t (by omega);have hcv:=Lib.run_convert_string_bytes (P:=Tryz.prog) w 9 36 5 t (u:=.string) Tryz.underlying9 Tryz.underlying36 Tryz.underlying5
 have hB:∀ j,j<t.size→(Lib.bytesWorld w 5 t).cell? ⟨w.heap.size,j,none⟩=some (.int .u8 ((bn t)[j]?.getD 0)):=fun j hj=>by
  rw[Lib.bytesWorld_cell w 5 t j hj,aq t j hj]
  congr 2
  have h5:j<t.data.size:=hj;simp only[List.getD,Array.getElem?_toList,Array.getElem?_eq_getElem h5,Option.getD_some];rfl
 have hBel:Below w.heap.size w (Lib.bytesWorld w 5 t):=⟨rfl,rfl,rfl,by rw[Lib.bytesWorld_size];omega,fun k hk=>Lib.bytesWorld_at_old w 5 t k hk⟩;obtain⟨W1,hW1⟩:∃ W1,W1=Lib.bytesWorld w 5 t:=⟨_,rfl⟩;rw[←hW1]at hcv hB hBel;clear hW1
 have hmv:IntKind.u64.wrap (IntKind.u64.wrap 65536 - 1)=65535:=by
  rw[IntKind.wrap_u64,IntKind.wrap_u64]
  decide
 have hbl:=aa t;have HBL:=hid hBel;have HLN:=hid hbl;clear hBel hbl;go_enter Tryz.func199,Tryz.ntmps199
 go_wp2
 go_loop [12,13,101] (fun vu vn vi=>∃(k acc:Nat) (a:Int),vu=.bool false∧vn=.int .u64 a∧vi=.int .i64 k∧k≤t.size∧Hid (a=(acc:Int)∧sF k acc∧jS (bn t) k acc))
  (fun _ _ vi=>t.size - (intOf vi).toNat)
 case atStart=>exact⟨0,0,0,rfl,rfl,rfl,by omega,rfl,.inl ⟨rfl,by omega⟩,by unfold jS;exact⟨rfl,rfl⟩⟩
 case round =>
  obtain⟨k,acc,a,rfl,rfl,rfl,hk,hh⟩:=hrel;obtain⟨ha,hsz,hdig⟩:=hh.out;clear hh;by_cases hkn:k<t.size
  ·have hc:=hB k hkn
   have hcb:=ar hkn;have hkl:k<(bn t).length:=by rw[HLN.out];exact hkn
   obtain⟨c,hcc⟩:∃ c,(bn t)[k]?.getD 0=c:=⟨_,rfl⟩;rw[hcc]at hc hcb;obtain⟨c0,c1⟩:=hcb;have hst:=fun(d:Nat) (hd:d≤15)=>vE (d:=d) hsz (by omega) hd
   have a1:a≤4095:=by have:=(hst 0 (by omega)).2;omega
   have a0:0≤a:=by omega
   by_cases hd:48≤c∧c≤57
   ·have hxc:=zR hd
    have hN:=hdig.step hkl hcc (by omega);have HN:Hid (a * 16+(c - 48)=((acc * 16+(hx c).toNat:Nat):Int)∧sF (k+1) (acc * 16+(hx c).toNat)∧jS (bn t) (k+1) (acc * 16+(hx c).toNat)):=hid ⟨by omega,(hst _ (by omega)).1,hN⟩;obtain⟨d0,d1⟩:=hd;have iov:a * 16+(c - 48)≤65535:=by omega
    clear hN hxc hst hdig hsz ha hcc hkl hB;go_wp2;refine⟨⟨k+1,_,a * 16+(c - 48),rfl,(by first | rfl | (congr 1;omega)),(by first | rfl | (congr 1;omega)),by omega,HN⟩,by simp[intOf];omega⟩
   ·obtain⟨d,hor,e0,e1,l1,l2,l3⟩:=wh c c0 c1
    by_cases hl:97≤d∧d≤102
    ·have hxc:hx c=d - 87:=by
      rcases l3 hl with q | q
      ·rw[zQ q,l2 q]
      ·rw[s7 q,l1 q];omega
     have hN:=hdig.step hkl hcc (by omega);have HN:Hid (a * 16+(d - 97+10)=((acc * 16+(hx c).toNat:Nat):Int)∧sF (k+1) (acc * 16+(hx c).toNat)∧jS (bn t) (k+1) (acc * 16+(hx c).toNat)):=hid ⟨by omega,(hst _ (by omega)).1,hN⟩;obtain⟨d0,d1⟩:=hl;have iov:a * 16+(d - 97+10)≤65535:=by omega
     have hnu:c≠95:=by
      intro e
      rcases l3 ⟨d0,d1⟩ with q | q <;> omega
     have hnd:c<48∨57<c:=by omega
     have HOR:=hid hor;clear hN hxc hst hdig hsz ha hcc hkl hB l1 l2 l3 hor hd;rcases hnd with hnd | hnd
     all_goals
      go_wp2_with(go_at_call 237;refine(pC c d HOR.out _).mono ?_;rintro e w' ⟨rfl,rfl⟩)
      refine⟨⟨k+1,_,a * 16+(d - 97+10),rfl,(by first | rfl | (congr 1;omega)),(by first | rfl | (congr 1;omega)),by omega,HN⟩,by simp[intOf];omega⟩
    ·have hbad:=hdig.bad hkl hcc (C8 hd (fun q=>hl (by rw[l2 q];exact q)) (fun q=>hl (by rw[l1 q];omega)))
     have HBAD:=hid hbad;have HOR:=hid hor;have hnd:c<48∨57<c:=by omega
     have hnl:d<97∨102<d:=by omega
     clear hbad hst hdig hsz ha hcc hkl hB l1 l2 l3 hor hd hl;by_cases h95:c=95
     ·subst h95
      rcases hnl with hnl | hnl
      all_goals
       go_wp2_with(go_at_call 237;refine(pC 95 d HOR.out _).mono ?_;rintro e w' ⟨rfl,rfl⟩)
       all_goals go_ret2
       all_goals exact⟨by rw[HBAD.out] <;> rfl,HBL.out⟩
     ·rcases hnd with hnd | hnd <;> rcases hnl with hnl | hnl
      all_goals
       go_wp2_with(go_at_call 237;refine(pC c d HOR.out _).mono ?_;rintro e w' ⟨rfl,rfl⟩)
       all_goals go_ret2
       all_goals exact⟨by rw[HBAD.out] <;> rfl,HBL.out⟩
  ·have hkk:k=t.size:=by omega
   subst hkk;have hfin:=jS.all (l:=bn t) (acc:=acc) (by rw[HLN.out];exact hdig);have HFIN:=hid hfin;subst ha;have a1:acc≤65535:=by unfold sF at hsz;omega
   clear hfin hdig hsz hB;go_wp2
   go_ret2;exact⟨by rw[HFIN.out] <;> rfl,HBL.out⟩
theorem ku(w:World):Calls Tryz.prog 199 #[.string ⟨#[]⟩,.int .i64 16,.int .i64 16] w fun e w'=>e=.returned (.tuple #[.int .u64 0,.iface 230 (.int .i64 2)])∧w'=w:=by
 go_enter Tryz.func199,Tryz.ntmps199
 go_wp2
 go_ret2;exact⟨rfl,rfl⟩
def G5(ev:Value):Prop:=ev=.nilIface∨∃ te pe,ev=.iface te pe
def Er(w:World):Prop:=(∃ ev,w.cell? ⟨4,0,none⟩=some ev∧G5 ev)∧(∃ ev,w.cell? ⟨5,0,none⟩=some ev∧G5 ev)
theorem Er.below{w w':World}(h:Er w)(hb:Below w.heap.size w w'):Er w':=by
 obtain⟨⟨a,h1,h2⟩,⟨b,h3,h4⟩⟩:=h;exact⟨⟨a,(hb.cell (p:=⟨4,0,none⟩) (Lib.lt_of_cell h1)).trans h1,h2⟩,⟨b,(hb.cell (p:=⟨5,0,none⟩) (Lib.lt_of_cell h3)).trans h3,h4⟩⟩
theorem nM(t:ByteArray)(hs:t.size≤1000000000)(b c:Int)(w:World)(hE:Er w):Calls Tryz.prog 200 #[.string ⟨#[80,97,114,115,101,85,105,110,116]⟩,.string t,.int .i64 b,.int .i64 c,.iface 230 (.int .i64 2)] w fun e w'=>(∃ T p,e=.returned (.iface T p))∧Below w.heap.size w w':=by
 obtain⟨⟨ev,h1,h2⟩,_⟩:=hE;have heq:∀ W,(binOp .eql 129 (.iface 230 (.int .i64 2)) (.iface 230 (.int .i64 2))).run Tryz.prog W=.ok (.bool true) W:=fun W=>Lib.run_eql_iface_int W 2 2 Tryz.underlying129 (by kernel_rfl) Tryz.underlying230
 have HSX:Hid (Calls Tryz.prog 239 #[.string ⟨#[80,97,114,115,101,85,105,110,116]⟩,.string t] w fun e w'=>(∃ N,e=.returned (.pointer (some ⟨N,0,none⟩)))∧Below w.heap.size w w'):=by
  have hq:=AnyPu.strconv_syntaxError { Tryz.laysPu with } ⟨#[80,97,114,115,101,85,105,110,116]⟩ t ev w (by omega) h1 h2;refine Calls.mono (show Calls Tryz.prog 239 #[.string ⟨#[80,97,114,115,101,85,105,110,116]⟩,.string t] w _ from hq) ?_;rintro e w' ⟨N,rfl,_,_,h⟩
  exact⟨⟨N,rfl⟩,h⟩
 clear h1 h2;go_enter Tryz.func200,Tryz.ntmps200
 go_wp2_with fail;refine HSX.out.mono ?_;rintro e w2 ⟨⟨N,rfl⟩,h3⟩
 go_wp2;go_ret;exact⟨⟨_,_,rfl⟩,h3⟩
theorem ox:∀(l:List Int) (x:Nat),l.foldl (fun n c=>n * 16+(hx c).toNat) x<(x+1) * 16 ^ l.length
 | [],x=>by simp
 | c::l,x=>by
  have ih:=ox l (x * 16+(hx c).toNat);have hc:=bw c;have h1:(x * 16+(hx c).toNat+1) * 16 ^ l.length≤((x+1) * 16) * 16 ^ l.length:=Nat.mul_le_mul_right _ (by omega);have e:(x+1) * 16 ^ (c::l).length=((x+1) * 16) * 16 ^ l.length:=by rw[List.length_cons,Nat.pow_succ,Nat.mul_assoc,Nat.mul_comm 16]
  rw[List.foldl_cons,e];omega
theorem Bv(l:List Int):vl 16 l<16 ^ l.length:=by
 have:=ox l 0;unfold vl;omega
theorem ED{l:List Int}{v:Nat}(h:pc l=some v):uT l=.tuple #[.int .u64 v,.nilIface]∧l≠[]∧l.length≤4∧v<65536:=by
 unfold pc at h
 split at h
 ·rename_i hh
  cases h
  refine⟨by unfold uT;rw[if_pos hh.2.2],fun e=>by rw[e]at hh;simp at hh,hh.2.1,?_⟩;have hb:=Bv;have h2:=hb l;have h3:(16:Nat) ^ l.length≤16 ^ 4:=Nat.pow_le_pow_right (by decide) hh.2.1;have h4:(16:Nat) ^ 4=65536:=rfl;omega
 ·cases h
theorem Hm{l:List Int}(h:pc l=none):l=[]∨4<l.length∨uT l=.tuple #[.int .u64 0,.iface 230 (.int .i64 2)]:=by
 unfold pc at h
 split at h
 ·cases h
 ·rename_i hh
  by_cases h1:l=[]
  ·exact .inl h1
  ·by_cases h2:4<l.length
   ·exact .inr (.inl h2)
   ·right;right
    unfold uT;rw[if_neg];intro h3
    have:=List.length_pos_iff.2 h1;exact hh ⟨by omega,by omega,h3⟩
theorem Cd(t:ByteArray)(v:Nat)(h:pc (bn t)=some v)(w:World):Calls Tryz.prog 149 #[.string t,.int .i64 16,.int .i64 16] w fun e W'=>e=.returned (.tuple #[.int .u64 v,.nilIface])∧Below w.heap.size w W':=by
 obtain⟨h1,h2,h3,_⟩:=ED h;have hl:=aa t;have hne:t.size≠0:=fun e=>h2 (List.eq_nil_of_length_eq_zero (by omega))
 have hI:=oc t hne (by omega) w;rw[h1]at hI;clear h h1 h2 h3 hl;go_enter Tryz.func149,Tryz.ntmps149
 go_wp2_with fail;refine hI.mono ?_;rintro e w1 ⟨rfl,hb⟩
 go_wp2
 go_ret2;exact⟨rfl,hb⟩
theorem Cc(t:ByteArray)(h:pc (bn t)=none)(h4:t.size≤4)(w:World)(hE:Er w):Calls Tryz.prog 149 #[.string t,.int .i64 16,.int .i64 16] w fun e W'=>(∃ T p,e=.returned (.tuple #[.int .u64 0,.iface T p]))∧Below w.heap.size w W':=by
 have hl:=aa t
 have hI:Calls Tryz.prog 199 #[.string t,.int .i64 16,.int .i64 16] w fun e w'=>e=.returned (.tuple #[.int .u64 0,.iface 230 (.int .i64 2)])∧Below w.heap.size w w':=by
  rcases Hm h with h1 | h1 | h1
  ·have:t=⟨#[]⟩:=av (by rw[h1];rfl)
   subst this;exact(ku w).mono (by rintro e w' ⟨rfl,rfl⟩;exact⟨rfl,Below.refl _ _⟩)
  ·omega
  ·by_cases h0:t.size=0
   ·have:t=⟨#[]⟩:=av (by rw[List.eq_nil_of_length_eq_zero (by omega:(bn t).length=0)];rfl)
    subst this;exact(ku w).mono (by rintro e w' ⟨rfl,rfl⟩;exact⟨rfl,Below.refl _ _⟩)
   ·have:=oc t h0 h4 w
    rwa [h1]at this
 clear h hl;go_enter Tryz.func149,Tryz.ntmps149
 go_wp2_with fail;refine hI.mono ?_;rintro e w1 ⟨rfl,hb⟩
 go_wp2_with fail;refine(nM t (by omega) 16 16 w1 (hE.below hb)).mono ?_;rintro e w2 ⟨⟨T,p,rfl⟩,hb2⟩
 have hb3:Below w.heap.size w w2:=hb.trans (hb2.mono hb.size);go_wp2
 go_ret2;exact⟨⟨T,p,rfl⟩,hb3⟩
theorem yO(t:ByteArray)(v:Nat)(h:pc (bn t)=some v)(w:World):Calls Tryz.prog 106 #[.string t] w fun e W'=>e=.returned (.tuple #[.int .u16 v,.bool true])∧Below w.heap.size w W':=by
 obtain⟨_,_,h3,hv⟩:=ED h;have hl:=aa t;have h4:t.size≤4:=by omega
 have hwr:IntKind.u16.wrap (v:Int)=(v:Int):=by simp[IntKind.wrap,IntKind.bits,IntKind.signed];omega
 have hI:=Cd t v h w;clear h h3 hl;go_enter Tryz.func106,Tryz.ntmps106
 go_wp2_with fail;refine hI.mono ?_;rintro e w1 ⟨rfl,hb⟩
 go_wp2_with fail
 go_quiet (fail)
 go_wp2
 go_ret2;exact⟨rfl,⟨hb.os,hb.tape,hb.output,hb.size,hb.block⟩⟩
theorem yN(t:ByteArray)(h:pc (bn t)=none)(hs:t.size≤1000000000)(w:World)(hE:Er w):Calls Tryz.prog 106 #[.string t] w fun e W'=>e=.returned (.tuple #[.int .u16 0,.bool false])∧Below w.heap.size w W':=by
 by_cases h4:t.size≤4
 ·have hI:=Cc t h h4 w hE
  clear h;go_enter Tryz.func106,Tryz.ntmps106
  go_wp2_with fail;refine hI.mono ?_;rintro e w1 ⟨⟨T,p,rfl⟩,hb⟩
  go_wp2_with fail
  go_quiet (fail)
  go_wp2
  go_ret2;exact⟨rfl,⟨hb.os,hb.tape,hb.output,hb.size,hb.block⟩⟩
 ·clear h
  go_enter Tryz.func106,Tryz.ntmps106
  go_wp2
  go_ret2;exact⟨rfl,Below.refl _ _⟩
end Go.Proofs.YtkekkbciiohbkaaGreatDoor.X
