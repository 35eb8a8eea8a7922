/- Contracts and plain facts. -/
import Derived.Test.YtlmflmdmolcfhaaGreatDoorProg
import Derived.Test.YtlmflmdmolcfhaaGreatDoorChecked
import Derived.WalkKit
import Derived.WalkSpells
import Derived.WalkLawsBesides
import Derived.Deep.QuietTactic
import Derived.BigQuiet
import Derived.RegionTactic
import Derived.RangeFuncNested
import Derived.RangeFuncBound
import Derived.RangeFuncCalls
import Derived.RangeFuncLeaves
import Derived.RangeFuncBox
import Derived.Shelf.Abstract
import Derived.OwnWalkIn
import Derived.TacticsInMore
import Derived.LoopNIn
import Derived.LoopIn
import Derived.Maps.AppendAt
import Derived.Lib.IndexBytes
import Derived.OwnWalk
import Derived.Laws.IdiomStrings
import Derived.Laws.OwnMore
import Derived.Laws.AppendOwnNone
import Derived.Laws.Concat
import Derived.Below
import Derived.Laws.BitsLemmas
import Derived.Ground.NamesProg
import Derived.Shelf.Lay
import Derived.Shelf.Strconv.Itoa3
import Derived.StillTail
import Derived.Deep.Quiet
import Derived.Laws.Runes
import Derived.Laws.RangeString
import Derived.Deep.LoopGhost
import Derived.WalkMore
import Derived.Shelf.Strings.Prefix
import Derived.Shelf.Strings.IndexAnyAll
import Derived.Shelf.Pu.Clone
import Derived.Ground.MpProg
import Derived.Laws.RangeAny
import Derived.Lib.OthersKept
import Derived.Lib.MapLaws
set_option maxRecDepth 100000
set_option maxHeartbeats 16000000
set_option linter.unusedVariables false
set_option linter.unnecessarySimpa false
open List (length_cons length_drop getElem?_eq_getElem length_map length_nil length_append getElem?_map isEmpty_iff map_cons all_append nil_append cons_append map_append)
open Nat (le_refl zero_add)
open Go.ByteArray (toList_eq)
open Go.World (grownBy_alloc ownsRow_nil)
open Array (replicate_succ replicate_zero)
namespace Go.Proofs.YtlmflmdmolcfhaaGreatDoor
open Tryz Go.RowKit
theorem Ex'{α:Sort _}(a:α):∃ o,a=o:=⟨_,rfl⟩
theorem Bt'{w v u:World}(h:Hid (Below w.heap.size w v))(b:Below v.heap.size v u):Hid (Below w.heap.size w u):=h.out.trans (b.mono h.out.size)
namespace U
def follow(c:Int):Int:=if 240<=c/\c<=244 then 3 else if 224<=c/\c<=239 then 2 else if 194<=c/\c<=223 then 1 else 0
def aF(c:Int):Int:=if c=224 then 160 else if c=240 then 144 else 128
def aE(c:Int):Int:=if c=237 then 159 else if c=244 then 143 else 191
def ab(c:Int):Bool:=decide (0<=c/\c<=1114111/\(c<55296\/57343<c))
def bn(s:ByteArray):List Int:=s.data.toList.map fun c=>(c.toNat:Int)
def nxl:Nat->List Int->Nat->Int->Int->Int->Int×Nat×Bool
 | 0,_,n,r,_,_=>(r,n,true)
 | _+1,[],n,_,_,_=>(65533,n,false)
 | f+1,b::t,n,r,lo,hi=>if b<lo\/hi<b then (65533,n,false) else nxl f t (n+1) (r * 64+b % 64) 128 191
def nx:List Int->Int×Nat×Bool
 | []=>(0,0,false)
 | a::t=>if a<128 then (a,1,true) else if follow a=0 then (65533,1,false) else
   nxl (follow a).toNat t 1 (if follow a=1 then a % 32 else if follow a=2 then a % 16 else a % 8) (aF a) (aE a)
theorem aa(s:ByteArray):(bn s).length=s.size:=by simp[bn]
theorem fD(s:ByteArray)(k:Nat)(h:k<s.size):(bn s).drop k=(s[k].toNat:Int)::(bn s).drop (k+1):=by
 have h':k<(bn s).length:=by rw[aa];exact h
 rw[List.drop_eq_getElem_cons h'];congr 1;simp[bn];rfl
theorem fC(s:ByteArray)(k:Nat)(h:s.size<=k):(bn s).drop k=[]:=by rw[List.drop_eq_nil_iff,aa];exact h
theorem gZ(s:ByteArray)(h:0<s.size):bn s=(s[0].toNat:Int)::(bn s).drop 1:=by have:=fD s 0 h;simpa using this
theorem nW(s:ByteArray)(f k:Nat)(r lo hi:Int)(h:s.size<=k):nxl (f+1) ((bn s).drop k) k r lo hi=(65533,k,false):=by rw[fC s k h];rfl
theorem iX(s:ByteArray)(f k:Nat)(r lo hi:Int)(h:k<s.size)(hb:(s[k].toNat:Int)<lo\/hi<(s[k].toNat:Int)):nxl (f+1) ((bn s).drop k) k r lo hi=(65533,k,false):=by rw[fD s k h,nxl,if_pos hb]
theorem nX(s:ByteArray)(f k:Nat)(r lo hi:Int)(h:k<s.size)(hb:lo<=(s[k].toNat:Int))(hc:(s[k].toNat:Int)<=hi):
  nxl (f+1) ((bn s).drop k) k r lo hi=nxl f ((bn s).drop (k+1)) (k+1) (r * 64+(s[k].toNat:Int) % 64) 128 191:=by
 rw[fD s k h,nxl,if_neg (by omega)]
theorem Fw(s:ByteArray)(h:s.size=0):nx (bn s)=(0,0,false):=by have:bn s=[]:=List.length_eq_zero_iff.1 (by rw[aa];exact h);rw[this];rfl
theorem Fx(s:ByteArray)(h:0<s.size)(ha:(s[0].toNat:Int)<128):nx (bn s)=((s[0].toNat:Int),1,true):=by rw[gZ s h,nx,if_pos ha]
theorem Lh(s:ByteArray)(h:0<s.size)(ha:128<=(s[0].toNat:Int))(hf:follow (s[0].toNat:Int)=0):nx (bn s)=(65533,1,false):=by rw[gZ s h,nx,if_neg (by omega),if_pos hf]
theorem rW(s:ByteArray)(h:0<s.size)(ha:128<=(s[0].toNat:Int))(m:Nat)(d:Int)(hf:follow (s[0].toNat:Int)=m)(hm:m=1/\d=32\/m=2/\d=16\/m=3/\d=8):
  nx (bn s)=nxl m ((bn s).drop 1) 1 ((s[0].toNat:Int) % d) (aF (s[0].toNat:Int)) (aE (s[0].toNat:Int)):=by
 rw[gZ s h,nx,if_neg (by omega),hf,if_neg (by omega)];rcases hm with⟨rfl,rfl⟩ | ⟨rfl,rfl⟩ | ⟨rfl,rfl⟩ <;> rfl
theorem gO(c:Int):(follow c=0)\/(follow c=1/\194<=c/\c<=223)\/(follow c=2/\224<=c/\c<=239)\/(follow c=3/\240<=c/\c<=244):=by
 unfold follow;by_cases h3:240<=c/\c<=244
 ·rw[if_pos h3];omega
 ·rw[if_neg h3];by_cases h2:224<=c/\c<=239
  ·rw[if_pos h2];omega
  ·rw[if_neg h2];by_cases h1:194<=c/\c<=223
   ·rw[if_pos h1];omega
   ·rw[if_neg h1];omega
theorem cw{k:IntKind}{a b:Int}(h:a=b):Ending.returned (.int k a)=.returned (.int k b):=by rw[h]
theorem Ek{k k':IntKind}{a b c d:Int}(h:a=b)(g:c=d):Ending.returned (.tuple #[.int k a,.int k' c])=.returned (.tuple #[.int k b,.int k' d]):=by rw[h,g]
theorem aW{a b:Bool}(h:a=b):Ending.returned (.bool a)=.returned (.bool b):=by rw[h]
theorem gQ(c:Int)(h0:0<=c)(h1:c<=255)(w:World):
  Calls prog 164 #[.int .u8 c] w fun e w'=>e=.returned (.int .i64 (follow c))/\w'=w:=by
 go_enter func164,ntmps164;go_wp2;all_goals (go_ret;exact⟨cw (by unfold follow;(repeat' split) <;> omega),rfl⟩)
theorem jF(c:Int)(w:World):
  Calls prog 165 #[.int .u8 c] w fun e w'=>e=.returned (.tuple #[.int .u8 (aF c),.int .u8 (aE c)])/\w'=w:=by
 go_enter func165,ntmps165;go_wp2;all_goals (go_ret2;exact⟨Ek (by simp only[beq_iff_eq,beq_eq_false_iff_ne]at *;unfold aF;(repeat' split) <;> omega) (by simp only[beq_iff_eq,beq_eq_false_iff_ne]at *;unfold aE;(repeat' split) <;> omega),rfl⟩)
theorem kD(c:Int)(w:World):
  Calls prog 302 #[.int .i32 c] w fun e w'=>e=.returned (.bool (ab c))/\w'=w:=by
 go_enter func302,ntmps302;go_wp2;all_goals (go_ret;exact⟨aW (by unfold ab;rw[Bool.eq_iff_iff];simp;try omega),rfl⟩)
theorem dj(c:Int)(h0:0<=c)(h1:c<=1114111)(w:World):
  Calls prog 118 #[.int .i32 c] w fun e w'=>e=.returned (.int .u8 (128+c % 64))/\w'=w:=by
 go_enter func118,ntmps118;go_wp2;go_ret;exact⟨rfl,rfl⟩
theorem toList_data(s:ByteArray):s.toList=s.data.toList:=toList_eq s
theorem aq(s:ByteArray)(h:0<s.size):s.toList.isEmpty=false:=by rw[toList_data,<-Bool.not_eq_true,isEmpty_iff];intro hh;have h2:=congrArg List.length hh;rw[Array.length_toList]at h2;have h3:s.data.size=s.size:=rfl;simp only[length_nil]at h2;omega
theorem az(s:ByteArray)(h:s.size=0):s.toList.isEmpty=true:=by rw[toList_data,isEmpty_iff];exact List.length_eq_zero_iff.1 (by simpa using h)
theorem xG(c:Int):128<=aF c/\aF c<=160:=by unfold aF;(repeat' split) <;> omega
theorem ss(c:Int):143<=aE c/\aE c<=191:=by unfold aE;(repeat' split) <;> omega
theorem xA(s:ByteArray)(w:World)(hs:s.size<=9223372036854775807)(hp:0<s.size)(he:s.toList.isEmpty=false)(h1:194<=(s[0].toNat:Int))(h2:(s[0].toNat:Int)<=223)(hf0:follow (s[0].toNat:Int)=1):
  Calls prog 117 #[.string s] w fun e w'=>e=.returned (.tuple #[.int .i32 (nx (bn s)).1,.int .i64 (nx (bn s)).2.1,.bool (nx (bn s)).2.2])/\∃ n,w'=w.drewN n:=by
 have hx0:=rW s hp (by omega) 1 32 hf0 (by omega);have hf:Hid (follow (s[0].toNat:Int)=1):=hf0;have hx:Hid (nx (bn s)=nxl 1 ((bn s).drop 1) 1 ((s[0].toNat:Int) % 32) (aF (s[0].toNat:Int)) (aE (s[0].toNat:Int))):=hx0;clear hf0 hx0;go_enter func117,ntmps117;go_wp2_with fail;refine(gQ _ (by omega) (by omega) _).mono ?_;rw[hf.out];rintro e w' ⟨rfl,rfl⟩;go_wp2_with fail;refine(jF _ _).mono ?_;rintro e w' ⟨rfl,rfl⟩;go_wp2_with fail
 go_quiet (fail)
 go_wp2_with fail;have hl:=xG (s[0].toNat:Int);have hh:=ss (s[0].toNat:Int);generalize hL:aF (s[0].toNat:Int)=L0 at *;generalize hH:aE (s[0].toNat:Int)=H0 at *;clear hL hH
 go_loop [2,3,6,7] (fun r n lo hi=>∃(k:Nat) (R L H:Int),r=.int .i32 R/\n=.int .i64 k/\lo=.int .u8 L/\hi=.int .u8 H/\1<=k/\k<=2/\k<=s.size/\0<=R/\128<=L/\L<=160/\143<=H/\H<=191/\(k=1/\R<32\/k=2/\R<2048\/k=3/\R<131072\/k=4/\R<8388608)/\Hid (nx (bn s)=nxl (2 - k) ((bn s).drop k) k R L H)) (fun _ n _ _=>2 - (intOf n).toNat)
 case atStart=>exact⟨1,_,_,_,rfl,rfl,rfl,rfl,by omega,by omega,by omega,by omega,by omega,by omega,by omega,by omega,by omega,hx⟩
 case round =>
  obtain⟨k,R,L,H,rfl,rfl,rfl,rfl,hk1,hk2,hk3,hR,hL1,hL2,hH1,hH2,hRb,hrest⟩:=hrel;clear hx;by_cases hlt:k<=1
  ·by_cases hsz:k<s.size
   ·have hne:((k:Int)==(s.size:Int))=false:=by simp;omega
    by_cases hlo:(s[k].toNat:Int)<L
    ·go_wp2;go_ret3;refine⟨?_,_,rfl⟩;rw[hrest.out,show 2 - k=(1 - k)+1 from by omega,iX s _ k R L H hsz (Or.inl hlo)];rfl
    ·by_cases hhi:H<(s[k].toNat:Int)
     ·go_wp2;go_ret3;refine⟨?_,_,rfl⟩;rw[hrest.out,show 2 - k=(1 - k)+1 from by omega,iX s _ k R L H hsz (Or.inr hhi)];rfl
     ·go_wp2
      go_round
      case rel =>
       refine⟨k+1,_,_,_,rfl,by go_num,rfl,rfl,by omega,by omega,by omega,by omega,by omega,by omega,by omega,by omega,by omega,?_⟩;show nx (bn s)=_;rw[hrest.out,show 2 - k=(2 - (k+1))+1 from by omega,nX s _ k R L H hsz (by omega) (by omega)]
      case measure=>simp[intOf];omega
   ·have hne:((k:Int)==(s.size:Int))=true:=by simp;omega
    go_wp2;go_ret3;refine⟨?_,_,rfl⟩;rw[hrest.out,show 2 - k=(1 - k)+1 from by omega,nW s _ k R L H (by omega)];rfl
  ·go_wp2;go_ret3;refine⟨?_,_,rfl⟩;rw[hrest.out,show 2 - k=0 from by omega];rfl
theorem xz(s:ByteArray)(w:World)(hs:s.size<=9223372036854775807)(hp:0<s.size)(he:s.toList.isEmpty=false)(h1:224<=(s[0].toNat:Int))(h2:(s[0].toNat:Int)<=239)(hf0:follow (s[0].toNat:Int)=2):
  Calls prog 117 #[.string s] w fun e w'=>e=.returned (.tuple #[.int .i32 (nx (bn s)).1,.int .i64 (nx (bn s)).2.1,.bool (nx (bn s)).2.2])/\∃ n,w'=w.drewN n:=by
 have hx0:=rW s hp (by omega) 2 16 hf0 (by omega);have hf:Hid (follow (s[0].toNat:Int)=2):=hf0;have hx:Hid (nx (bn s)=nxl 2 ((bn s).drop 1) 1 ((s[0].toNat:Int) % 16) (aF (s[0].toNat:Int)) (aE (s[0].toNat:Int))):=hx0;clear hf0 hx0;go_enter func117,ntmps117;go_wp2_with fail;refine(gQ _ (by omega) (by omega) _).mono ?_;rw[hf.out];rintro e w' ⟨rfl,rfl⟩;go_wp2_with fail;refine(jF _ _).mono ?_;rintro e w' ⟨rfl,rfl⟩;go_wp2_with fail
 go_quiet (fail)
 go_wp2_with fail;have hl:=xG (s[0].toNat:Int);have hh:=ss (s[0].toNat:Int);generalize hL:aF (s[0].toNat:Int)=L0 at *;generalize hH:aE (s[0].toNat:Int)=H0 at *;clear hL hH
 go_loop [2,3,6,7] (fun r n lo hi=>∃(k:Nat) (R L H:Int),r=.int .i32 R/\n=.int .i64 k/\lo=.int .u8 L/\hi=.int .u8 H/\1<=k/\k<=3/\k<=s.size/\0<=R/\128<=L/\L<=160/\143<=H/\H<=191/\(k=1/\R<32\/k=2/\R<2048\/k=3/\R<131072\/k=4/\R<8388608)/\Hid (nx (bn s)=nxl (3 - k) ((bn s).drop k) k R L H)) (fun _ n _ _=>3 - (intOf n).toNat)
 case atStart=>exact⟨1,_,_,_,rfl,rfl,rfl,rfl,by omega,by omega,by omega,by omega,by omega,by omega,by omega,by omega,by omega,hx⟩
 case round =>
  obtain⟨k,R,L,H,rfl,rfl,rfl,rfl,hk1,hk2,hk3,hR,hL1,hL2,hH1,hH2,hRb,hrest⟩:=hrel;clear hx;by_cases hlt:k<=2
  ·by_cases hsz:k<s.size
   ·have hne:((k:Int)==(s.size:Int))=false:=by simp;omega
    by_cases hlo:(s[k].toNat:Int)<L
    ·go_wp2;go_ret3;refine⟨?_,_,rfl⟩;rw[hrest.out,show 3 - k=(2 - k)+1 from by omega,iX s _ k R L H hsz (Or.inl hlo)];rfl
    ·by_cases hhi:H<(s[k].toNat:Int)
     ·go_wp2;go_ret3;refine⟨?_,_,rfl⟩;rw[hrest.out,show 3 - k=(2 - k)+1 from by omega,iX s _ k R L H hsz (Or.inr hhi)];rfl
     ·go_wp2
      go_round
      case rel =>
       refine⟨k+1,_,_,_,rfl,by go_num,rfl,rfl,by omega,by omega,by omega,by omega,by omega,by omega,by omega,by omega,by omega,?_⟩;show nx (bn s)=_;rw[hrest.out,show 3 - k=(3 - (k+1))+1 from by omega,nX s _ k R L H hsz (by omega) (by omega)]
      case measure=>simp[intOf];omega
   ·have hne:((k:Int)==(s.size:Int))=true:=by simp;omega
    go_wp2;go_ret3;refine⟨?_,_,rfl⟩;rw[hrest.out,show 3 - k=(2 - k)+1 from by omega,nW s _ k R L H (by omega)];rfl
  ·go_wp2;go_ret3;refine⟨?_,_,rfl⟩;rw[hrest.out,show 3 - k=0 from by omega];rfl
theorem xy(s:ByteArray)(w:World)(hs:s.size<=9223372036854775807)(hp:0<s.size)(he:s.toList.isEmpty=false)(h1:240<=(s[0].toNat:Int))(h2:(s[0].toNat:Int)<=244)(hf0:follow (s[0].toNat:Int)=3):
  Calls prog 117 #[.string s] w fun e w'=>e=.returned (.tuple #[.int .i32 (nx (bn s)).1,.int .i64 (nx (bn s)).2.1,.bool (nx (bn s)).2.2])/\∃ n,w'=w.drewN n:=by
 have hx0:=rW s hp (by omega) 3 8 hf0 (by omega);have hf:Hid (follow (s[0].toNat:Int)=3):=hf0;have hx:Hid (nx (bn s)=nxl 3 ((bn s).drop 1) 1 ((s[0].toNat:Int) % 8) (aF (s[0].toNat:Int)) (aE (s[0].toNat:Int))):=hx0;clear hf0 hx0;go_enter func117,ntmps117;go_wp2_with fail;refine(gQ _ (by omega) (by omega) _).mono ?_;rw[hf.out];rintro e w' ⟨rfl,rfl⟩;go_wp2_with fail;refine(jF _ _).mono ?_;rintro e w' ⟨rfl,rfl⟩;go_wp2_with fail
 go_quiet (fail)
 go_wp2_with fail;have hl:=xG (s[0].toNat:Int);have hh:=ss (s[0].toNat:Int);generalize hL:aF (s[0].toNat:Int)=L0 at *;generalize hH:aE (s[0].toNat:Int)=H0 at *;clear hL hH
 go_loop [2,3,6,7] (fun r n lo hi=>∃(k:Nat) (R L H:Int),r=.int .i32 R/\n=.int .i64 k/\lo=.int .u8 L/\hi=.int .u8 H/\1<=k/\k<=4/\k<=s.size/\0<=R/\128<=L/\L<=160/\143<=H/\H<=191/\(k=1/\R<32\/k=2/\R<2048\/k=3/\R<131072\/k=4/\R<8388608)/\Hid (nx (bn s)=nxl (4 - k) ((bn s).drop k) k R L H)) (fun _ n _ _=>4 - (intOf n).toNat)
 case atStart=>exact⟨1,_,_,_,rfl,rfl,rfl,rfl,by omega,by omega,by omega,by omega,by omega,by omega,by omega,by omega,by omega,hx⟩
 case round =>
  obtain⟨k,R,L,H,rfl,rfl,rfl,rfl,hk1,hk2,hk3,hR,hL1,hL2,hH1,hH2,hRb,hrest⟩:=hrel;clear hx;by_cases hlt:k<=3
  ·by_cases hsz:k<s.size
   ·have hne:((k:Int)==(s.size:Int))=false:=by simp;omega
    by_cases hlo:(s[k].toNat:Int)<L
    ·go_wp2;go_ret3;refine⟨?_,_,rfl⟩;rw[hrest.out,show 4 - k=(3 - k)+1 from by omega,iX s _ k R L H hsz (Or.inl hlo)];rfl
    ·by_cases hhi:H<(s[k].toNat:Int)
     ·go_wp2;go_ret3;refine⟨?_,_,rfl⟩;rw[hrest.out,show 4 - k=(3 - k)+1 from by omega,iX s _ k R L H hsz (Or.inr hhi)];rfl
     ·go_wp2
      go_round
      case rel =>
       refine⟨k+1,_,_,_,rfl,by go_num,rfl,rfl,by omega,by omega,by omega,by omega,by omega,by omega,by omega,by omega,by omega,?_⟩;show nx (bn s)=_;rw[hrest.out,show 4 - k=(4 - (k+1))+1 from by omega,nX s _ k R L H hsz (by omega) (by omega)]
      case measure=>simp[intOf];omega
   ·have hne:((k:Int)==(s.size:Int))=true:=by simp;omega
    go_wp2;go_ret3;refine⟨?_,_,rfl⟩;rw[hrest.out,show 4 - k=(3 - k)+1 from by omega,nW s _ k R L H (by omega)];rfl
  ·go_wp2;go_ret3;refine⟨?_,_,rfl⟩;rw[hrest.out,show 4 - k=0 from by omega];rfl
theorem uy(s:ByteArray)(w:World)(hs:s.size<=9223372036854775807):
  Calls prog 117 #[.string s] w fun e w'=>e=.returned (.tuple #[.int .i32 (nx (bn s)).1,.int .i64 (nx (bn s)).2.1,.bool (nx (bn s)).2.2])/\∃ n,w'=w.drewN n:=by
 by_cases hp:0<s.size
 ·have he:s.toList.isEmpty=false:=aq s hp;by_cases ha:(s[0].toNat:Int)<128
  ·have hx:Hid (nx (bn s)=((s[0].toNat:Int),1,true)):=Fx s hp ha;go_enter func117,ntmps117;go_wp2;go_ret3;exact⟨by rw[hx.out];rfl,0,rfl⟩
  ·rcases gO (s[0].toNat:Int) with hf | ⟨hf,h1,h2⟩ | ⟨hf,h1,h2⟩ | ⟨hf,h1,h2⟩
   ·have hx:Hid (nx (bn s)=(65533,1,false)):=Lh s hp (by omega) hf;have hf':Hid (follow (s[0].toNat:Int)=0):=hf;clear hf;go_enter func117,ntmps117;go_wp2_with fail;refine(gQ _ (by omega) (by have:=s[0].toNat_lt;omega) _).mono ?_;rw[hf'.out];rintro e w' ⟨rfl,rfl⟩;go_wp2;go_ret3;exact⟨by rw[hx.out];rfl,0,rfl⟩
   ·exact xA s w hs hp he h1 h2 hf
   ·exact xz s w hs hp he h1 h2 hf
   ·exact xy s w hs hp he h1 h2 hf
 ·have he:s.toList.isEmpty=true:=az s (by omega);have hx:Hid (nx (bn s)=(0,0,false)):=Fw s (by omega);go_enter func117,ntmps117;go_wp2;go_ret3;exact⟨by rw[hx.out];rfl,0,rfl⟩
abbrev Sc:={ x:Int×Bool // 0<=x.1/\x.1<=1114111 }
def tp(p:Int×Nat×Bool):Sc:=if h:0<=p.1/\p.1<=1114111 then ⟨(p.1,p.2.2),h⟩ else ⟨(65533,false),by decide⟩
def scs:Nat->List Int->List Sc
 | 0,_=>[]
 | _+1,[]=>[]
 | f+1,a::t=>tp (nx (a::t))::scs f ((a::t).drop (nx (a::t)).2.1)
def scl(l:List Int):List Sc:=scs l.length l
def Bytes(l:List Int):Prop:=∀ b∈l,0<=b/\b<=255
theorem zq:∀(f:Nat) (t:List Int) (n:Nat) (r lo hi:Int),n<=(nxl f t n r lo hi).2.1/\(nxl f t n r lo hi).2.1<=n+t.length
 | 0,_,_,_,_,_=>by simp[nxl]
 | _+1,[],_,_,_,_=>by simp[nxl]
 | f+1,b::t,n,r,lo,hi=>by
  rw[nxl];split
  ·simp
  ·have:=zq f t (n+1) (r * 64+b % 64) 128 191;simp only[length_cons];omega
theorem iy(l:List Int)(h:l≠[]):1<=(nx l).2.1/\(nx l).2.1<=l.length:=by
 match l with
 | []=>exact absurd rfl h
 | a::t =>
  rw[nx];split
  ·simp
  ·split
   ·simp
   ·have:=zq (follow a).toNat t 1 (if follow a=1 then a % 32 else if follow a=2 then a % 16 else a % 8) (aF a) (aE a);simp only[length_cons];omega
theorem tM:∀(f g:Nat) (l:List Int),l.length<=f->l.length<=g->scs f l=scs g l
 | 0,0,_,_,_=>rfl
 | 0,_+1,[],_,_=>rfl
 | 0,_+1,_::_,h,_=>by simp at h
 | _+1,0,[],_,_=>rfl
 | _+1,0,_::_,_,h=>by simp at h
 | _+1,_+1,[],_,_=>rfl
 | f+1,g+1,a::t,h,k=>by
  have hn:=iy (a::t) (by simp);have hlen:((a::t).drop (nx (a::t)).2.1).length<=t.length:=by simp only[length_drop,length_cons];omega
  simp only[length_cons]at h k;show tp (nx (a::t))::scs f _=tp (nx (a::t))::scs g _;rw[tM f g _ (by omega) (by omega)]
theorem Eh(f:Nat)(l:List Int)(h:l.length<=f):scs f l=scl l:=tM f l.length l h (le_refl _)
theorem Kf:scl []=[]:=rfl
theorem km(l:List Int)(h:l≠[]):scl l=tp (nx l)::scl (l.drop (nx l).2.1):=by
 match l with
 | []=>exact absurd rfl h
 | a::t =>
  have hn:=iy (a::t) (by simp);show tp (nx (a::t))::scs t.length _=_;rw[Eh t.length _ (by simp only[length_drop,length_cons];omega)]
theorem ay(s:ByteArray):Bytes (bn s):=by intro b hb;simp only[bn,List.mem_map]at hb;obtain⟨c,_,rfl⟩:=hb;have:=c.toNat_lt;omega
theorem Bytes.drop{l:List Int}(h:Bytes l)(k:Nat):Bytes (l.drop k):=fun b hb=>h b (List.mem_of_mem_drop hb)
theorem iz(l:List Int)(h:l≠[])(hl:Bytes l):
  (∃ a t,l=a::t/\0<=a/\a<128/\nx l=(a,1,true)) \/
  (∃ a b t,l=a::b::t/\194<=a/\a<=223/\128<=b/\b<=191/\nx l=((a - 192) * 64+(b - 128),2,true)) \/
  (∃ a b c t,l=a::b::c::t/\224<=a/\a<=239/\aF a<=b/\b<=aE a/\128<=c/\c<=191/\nx l=((a - 224) * 4096+(b - 128) * 64+(c - 128),3,true)) \/
  (∃ a b c d t,l=a::b::c::d::t/\240<=a/\a<=244/\aF a<=b/\b<=aE a/\128<=c/\c<=191/\128<=d/\d<=191/\nx l=((a - 240) * 262144+(b - 128) * 4096+(c - 128) * 64+(d - 128),4,true)) \/
  (∃ n,1<=n/\n<=3/\nx l=(65533,n,false)):=by
 have hlo:∀ c,128<=aF c:=fun c=>by unfold aF;(repeat' split) <;> omega
 have hhi:∀ c,aE c<=191:=fun c=>by unfold aE;(repeat' split) <;> omega
 match l with
 | []=>exact absurd rfl h
 | a::t =>
  have ha:=hl a (by simp);by_cases h8:a<128
  ·exact .inl ⟨a,t,rfl,ha.1,h8,by rw[nx,if_pos h8]⟩
  rcases gO a with hf | ⟨hf,h1,h2⟩ | ⟨hf,h1,h2⟩ | ⟨hf,h1,h2⟩
  ·exact .inr (.inr (.inr (.inr ⟨1,by omega,by omega,by rw[nx,if_neg h8,if_pos hf]⟩)))
  ·have hl1:aF a=128:=by unfold aF;rw[if_neg (by omega),if_neg (by omega)]
   have hh1:aE a=191:=by unfold aE;rw[if_neg (by omega),if_neg (by omega)]
   have e:nx (a::t)=nxl 1 t 1 (a % 32) 128 191:=by rw[nx,if_neg h8,hf,hl1,hh1];rfl
   match t with
   | []=>exact .inr (.inr (.inr (.inr ⟨1,by omega,by omega,by rw[e];rfl⟩)))
   | b::t =>
    by_cases hb:b<128\/191<b
    ·exact .inr (.inr (.inr (.inr ⟨1,by omega,by omega,by rw[e,nxl,if_pos hb]⟩)))
    ·refine .inr (.inl ⟨a,b,t,rfl,h1,h2,by omega,by omega,?_⟩);rw[e,nxl,if_neg hb,nxl];refine Prod.ext ?_ rfl;simp only;omega
  ·have e:nx (a::t)=nxl 2 t 1 (a % 16) (aF a) (aE a):=by rw[nx,if_neg h8,hf];rfl
   have q1:=hlo a;have q2:=hhi a;match t with
   | []=>exact .inr (.inr (.inr (.inr ⟨1,by omega,by omega,by rw[e];rfl⟩)))
   | b::t =>
    by_cases hb:b<aF a\/aE a<b
    ·exact .inr (.inr (.inr (.inr ⟨1,by omega,by omega,by rw[e,nxl,if_pos hb]⟩)))
    ·match t with
     | []=>exact .inr (.inr (.inr (.inr ⟨2,by omega,by omega,by rw[e,nxl,if_neg hb];rfl⟩)))
     | c::t =>
      by_cases hc:c<128\/191<c
      ·exact .inr (.inr (.inr (.inr ⟨2,by omega,by omega,by rw[e,nxl,if_neg hb,nxl,if_pos hc]⟩)))
      ·refine .inr (.inr (.inl ⟨a,b,c,t,rfl,h1,h2,by omega,by omega,by omega,by omega,?_⟩));rw[e,nxl,if_neg hb,nxl,if_neg hc,nxl];refine Prod.ext ?_ rfl;simp only;omega
  ·have e:nx (a::t)=nxl 3 t 1 (a % 8) (aF a) (aE a):=by rw[nx,if_neg h8,hf];rfl
   have q1:=hlo a;have q2:=hhi a;match t with
   | []=>exact .inr (.inr (.inr (.inr ⟨1,by omega,by omega,by rw[e];rfl⟩)))
   | b::t =>
    by_cases hb:b<aF a\/aE a<b
    ·exact .inr (.inr (.inr (.inr ⟨1,by omega,by omega,by rw[e,nxl,if_pos hb]⟩)))
    ·match t with
     | []=>exact .inr (.inr (.inr (.inr ⟨2,by omega,by omega,by rw[e,nxl,if_neg hb];rfl⟩)))
     | c::t =>
      by_cases hc:c<128\/191<c
      ·exact .inr (.inr (.inr (.inr ⟨2,by omega,by omega,by rw[e,nxl,if_neg hb,nxl,if_pos hc]⟩)))
      ·match t with
       | []=>exact .inr (.inr (.inr (.inr ⟨3,by omega,by omega,by rw[e,nxl,if_neg hb,nxl,if_neg hc];rfl⟩)))
       | d::t =>
        by_cases hd:d<128\/191<d
        ·exact .inr (.inr (.inr (.inr ⟨3,by omega,by omega,by rw[e,nxl,if_neg hb,nxl,if_neg hc,nxl,if_pos hd]⟩)))
        ·refine .inr (.inr (.inr (.inl ⟨a,b,c,d,t,rfl,h1,h2,by omega,by omega,by omega,by omega,by omega,by omega,?_⟩)));rw[e,nxl,if_neg hb,nxl,if_neg hc,nxl,if_neg hd,nxl];refine Prod.ext ?_ rfl;simp only;omega
theorem rX(l:List Int)(h:l≠[])(hl:Bytes l):ab (nx l).1=true:=by
 unfold ab;rw[decide_eq_true_eq];rcases iz l h hl with⟨a,t,_,h0,h1,e⟩ | ⟨a,b,t,_,h1,h2,h3,h4,e⟩ | ⟨a,b,c,t,_,h1,h2,h3,h4,h5,h6,e⟩ | ⟨a,b,c,d,t,_,h1,h2,h3,h4,h5,h6,h7,h8,e⟩ | ⟨n,_,_,e⟩
 ·rw[e];simp only;omega
 ·rw[e];simp only;omega
 ·rw[e];simp only;unfold aF at h3;unfold aE at h4;by_cases q1:a=224
  ·subst q1;simp at h3 h4;omega
  ·by_cases q2:a=237
   ·subst q2;simp at h3 h4;omega
   ·rw[if_neg q1,if_neg (by omega)]at h3;rw[if_neg q2,if_neg (by omega)]at h4;omega
 ·rw[e];simp only;unfold aF at h3;unfold aE at h4;by_cases q1:a=240
  ·subst q1;simp at h3 h4;omega
  ·by_cases q2:a=244
   ·subst q2;simp at h3 h4;omega
   ·rw[if_neg (by omega),if_neg q1]at h3;rw[if_neg (by omega),if_neg q2]at h4;omega
 ·rw[e];simp only;omega
theorem NS(l:List Int)(hl:Bytes l):0<=(nx l).1/\(nx l).1<=1114111:=by
 by_cases h:l=[]
 ·subst h;decide
 ·have:=rX l h hl;unfold ab at this;rw[decide_eq_true_eq]at this;omega
theorem ml(l:List Int)(hl:Bytes l):(tp (nx l)).1=((nx l).1,(nx l).2.2):=by unfold tp;rw[dif_pos (NS l hl)]
open Go.RowKit Go.Shelf
attribute [local go_sem] Oper.semAt_some
abbrev SZ(x:Sc):Array Value:=#[.int .i32 x.1.1,.bool x.1.2]
def gy(B:Nat)(s:ByteArray)(W W':World):Prop:=Boxed W B 9 (.string s)->Boxed W' B 9 (.string s)
theorem wg{W:World}{B:Nat}{t:TypeId}{v:Value}(h:Boxed W B t v)(n:Nat):Boxed (W.drewN n) B t v:=h
theorem pN(W:World)(n:Nat):W.grownBy (W.drewN n) none:=⟨rfl,rfl,rfl,le_refl _,fun _ _ _=>rfl⟩
theorem ar(s:ByteArray)(k:Nat):bn (s.extract k s.size)=(bn s).drop k:=by unfold bn;rw[Lib.extract_to_end,List.map_drop]
theorem Mf(n:Nat)(hn:1<=n)(l Bs:Nat)(s:ByteArray)(hs:s.size<=9223372036854775807)(J Jx:List Sc->World->Prop)
  (hJ:∀(W:World) (pre:List Sc) (m:Nat),J pre W->J pre (W.drewN m))
  (hY:∀ pre x W,J pre W->pre.length<s.size->YieldAt Fence.wide (n - 1) prog l #[.int .i32 x.1.1,.bool x.1.2] W fun e W' =>
    (e=.returned (.bool true)/\J (pre++[x]) W'/\gy Bs s W W')\/(e=.returned (.bool false)/\Jx (pre++[x]) W'))
  (W:World) (hBs:Boxed W Bs 9 (.string s)) (h0:J [] W) :
  CallsIn Fence.wide n prog 116 #[.func (.yield l) #[] #[],.pointer (some ⟨Bs,0,none⟩)] W fun e W'=>(∃ v,e=.returned v) /\
   ((∃ ys,ys=scl (bn s)/\J ys W')\/(∃ pre,pre <+: scl (bn s)/\Jx pre W')):=by
 refine callsIn_of_wp func116 rfl trivial ?_ rfl;simp only[ntmps116,List.size_toArray,length_cons,length_nil,Nat.reduceAdd,Nat.reduceSub,replicate_succ,replicate_zero,List.push_toArray,List.append_toArray,nil_append,cons_append];gi_wp2
 gi_loopw [3] (fun i wr=>∃(k:Nat) (pre:List Sc),k<=s.size/\pre.length<=k/\i=.int .i64 k/\Boxed wr Bs 9 (.string s)/\J pre wr/\Hid (scl (bn s)=pre++scl ((bn s).drop k)))
  (fun i _=>s.size - (intOf i).toNat)
 case atStart=>exact⟨0,[],Nat.zero_le _,by simp,rfl,hBs,h0,by show scl (bn s)=_;simp⟩
 case round =>
  obtain⟨k,pre,hk,hpk,rfl,hbx,hJs,hrest⟩:=hrel;have hcs:=hbx.cell;by_cases hlt:k<s.size
  ·obtain⟨x,hx⟩:∃ x:Sc,x=tp (nx ((bn s).drop k)):=⟨_,rfl⟩;have hxv:Hid (((nx ((bn s).drop k)).1,(nx ((bn s).drop k)).2.2)=x.1):=by show _=_;rw[hx,ml _ ((ay s).drop k)]
   have hne:(bn s).drop k≠[]:=fun h=>by have:=congrArg List.length h;rw[length_drop,aa]at this;simp at this;omega
   have hnn:=iy _ hne;rw[length_drop,aa]at hnn;have hstep:Hid (scl ((bn s).drop k)=x::scl ((bn s).drop (k+(nx ((bn s).drop k)).2.1))):=by show _=_;rw[km _ hne,<-hx,List.drop_drop]
   clear hx;gi_wp2_with fail;refine⟨trivial,?_⟩;refine(callsIn_wide.2 (uy _ _ (by simp;omega))).mono ?_;rintro e w' ⟨rfl,m,rfl⟩;rw[ar];rw[show(nx ((bn s).drop k)).1=x.1.1 from congrArg Prod.fst hxv.out,show(nx ((bn s).drop k)).2.2=x.1.2 from congrArg Prod.snd hxv.out];generalize hN:(nx ((bn s).drop k)).2.1=N at *;clear hN hxv;obtain⟨fn,tmps,assign,body,hy,hR⟩:=hY pre x (wr.drewN m) (hJ _ _ _ hJs) (by omega);gi_wp2;refine hR.mono ?_;rintro e W3 (⟨rfl,hJ3,hk3⟩ | ⟨rfl,hJx3⟩)
   ·have hbx3:=hk3 (wg hbx m);have hcs3:=hbx3.cell;gi_wp2
    go_roundw
    case rel=>exact⟨k+N,pre++[x],by omega,by simp;omega,by go_num,hbx3,hJ3,by show _=_;rw[hrest.out,hstep.out];simp⟩
    case measure=>simp[intOf];omega
   ·gi_wp2;refine bodyPost_ret (results_none rfl _ _ _) rfl ?_;exact⟨⟨_,rfl⟩,.inr ⟨pre++[x],⟨scl ((bn s).drop (k+N)),by rw[hrest.out,hstep.out];simp⟩,hJx3⟩⟩
  ·gi_wp2
   go_end0
   refine⟨⟨_,rfl⟩,.inl ⟨pre,?_,hJs⟩⟩;rw[hrest.out,fC s k (by omega),Kf,List.append_nil]
theorem nF(n:Nat)(s:ByteArray)(w:World):
  CallsIn Fence.wide n prog 78 #[.string s] w fun e w'=>e=.returned (.func (.func 116) #[] #[.pointer (some ⟨w.heap.size,0,none⟩)])/\w'=w.alloc (.cells #[.string s] 9):=by
 refine callsIn_of_wp func78 rfl trivial ?_ rfl;simp only[ntmps78,List.size_toArray,length_cons,length_nil,Nat.reduceAdd,Nat.reduceSub,replicate_succ,replicate_zero,List.push_toArray,List.append_toArray,nil_append,cons_append];gi_wp2;go_ret;exact⟨rfl,rfl⟩
theorem oy(n:Nat)(hn:1<=n)(Bs:Nat)(s:ByteArray)(hs:s.size<=9223372036854775807)(w:World)(hc:Boxed w Bs 9 (.string s)):
  SeqStopsK Fence.wide n prog 116 #[.pointer (some ⟨Bs,0,none⟩)] SZ (gy Bs s) (fun ys=>ys=scl (bn s)) (fun pre=>pre <+: scl (bn s)) s.size w:=fun l J Jx W hW hJ _ hY h0 =>
 Mf n hn l Bs s hs J Jx (fun W pre m h=>hJ pre W _ none h (pN W m) (fun r e=>by cases e)) hY W ((hW.block Bs hc.lt).trans hc) h0
theorem ou{Bs:Nat}{s:ByteArray}{A B C:World}(h:gy Bs s A B)(k:gy Bs s B C):gy Bs s A C:=fun x=>k (h x)
theorem ov{Bs:Nat}{s:ByteArray}{w:World}(hB:Bs<w.heap.size)(W:World)(l:Nat)(o o':Obj)(hl:w.heap.size<=l)(_:W.heap[l]? = some o)(_:o.isCells=false)(_:o.isWalk=false):gy Bs s W (W.putObj l o') :=
 fun x=>(World.putObj_heap_other (by omega)).trans x
def enc(c:Int):List Int :=
 if c<128 then [c] else if c<2048 then [192+c / 64,128+c % 64] else if c<65536 then [224+c / 4096,128+c / 64 % 64,128+c % 64]
 else [240+c / 262144,128+c / 4096 % 64,128+c / 64 % 64,128+c % 64]
theorem eG(c:Int):1<=(enc c).length/\(enc c).length<=4:=by unfold enc;(repeat' split) <;> simp
theorem Tryz.info5:(prog.info? 5).map (fun i=>(i.zero,i.size,i.bytes))=some (some (.int .u8 0),1,1):=by kernel_rfl
theorem cZ(w:World)(t:TypeId)(l:List Value):∀(j:Nat) (u:Value),l[j]? = some u->(w.alloc (.cells l.toArray t)).cell? ((⟨w.heap.size,0,none⟩:Addr).add j)=some u:=by
 intro j u h;have hb:(w.alloc (.cells l.toArray t)).heap[w.heap.size]? = some (.cells l.toArray t):=heap_alloc_new w _;generalize w.alloc (.cells l.toArray t)=W at hb ⊢;generalize w.heap.size=g at hb ⊢;by_cases hj:j=0
 ·subst hj;simp[World.cell?,Addr.add,hb,h]
 ·simp[World.cell?,Addr.add,hj,hb,h]
theorem dY{a b c:World}{row:Option Nat}(h:a.grownBy b none)(k:b.grownBy c row):a.grownBy c row :=
 ⟨k.os.trans h.os,k.tape.trans h.tape,k.output.trans h.output,Nat.le_trans h.size k.size,fun i hi hr=>(k.block i (Nat.lt_of_lt_of_le hi h.size) hr).trans (h.block i hi (by simp))⟩
theorem NC(base:Nat)(v:Value)(k:Nat)(xs:List Value)(c:Int)(h0:0<=c)(h1:c<128)(w:World)(hb:base<=w.heap.size)(hk:k<=1099511627776)(ag:w.ownsRow base 5 1 v k xs):
  Calls prog 79 #[v,.int .i32 c] w fun e W'=>∃ v',e=.returned v'/\W'.ownsRow base 5 1 v' (k+1) (xs++[.int .u8 c])/\w.grownBy W' v.ownBlock:=by
 obtain⟨i0,hi,hz0,hz1,hz2⟩:=info_parts Tryz.info5;go_enter func79,ntmps79;go_wp2_with(at_builtin;refine wpList_append_own _ rfl _ _ 42 rfl base 5 i0 (.int .u8 0) 1 1 underlying42 hi hz0 hz1 hz2 rfl (by decide) _ _ _ rfl (ag.alloc _) ⟨w.heap.size,0,none⟩ 1 1 [.int .u8 c] rfl rfl (cZ _ _ _) (by simp[Value.oneCell']) (by unfold maxLen;omega) (by omega) (by simp;omega) ?_;intro v' w1 hown' hgrow _);go_ret;exact⟨v',rfl,hown',dY (grownBy_alloc _ _ none) hgrow⟩
theorem NB(base:Nat)(v:Value)(k:Nat)(xs:List Value)(c:Int)(h0:128<=c)(h1:c<2048)(w:World)(hb:base<=w.heap.size)(hk:k<=1099511627776)(ag:w.ownsRow base 5 1 v k xs):
  Calls prog 79 #[v,.int .i32 c] w fun e W'=>∃ v',e=.returned v'/\W'.ownsRow base 5 1 v' (k+2) (xs++[.int .u8 (192+c / 64),.int .u8 (128+c % 64)])/\w.grownBy W' v.ownBlock:=by
 obtain⟨i0,hi,hz0,hz1,hz2⟩:=info_parts Tryz.info5;go_enter func79,ntmps79;go_wp2_with fail;refine(dj _ (by omega) (by omega) _).mono ?_;rintro e w' ⟨rfl,rfl⟩;go_wp2_with(at_builtin;refine wpList_append_own _ rfl _ _ 42 rfl base 5 i0 (.int .u8 0) 1 1 underlying42 hi hz0 hz1 hz2 rfl (by decide) _ _ _ rfl (ag.alloc _) ⟨w'.heap.size,0,none⟩ 2 2 [.int .u8 (192+c / 64),.int .u8 (128+c % 64)] rfl rfl (cZ _ _ _) (by simp[Value.oneCell']) (by unfold maxLen;omega) (by omega) (by simp;omega) ?_;intro v' w1 hown' hgrow _);go_ret;exact⟨v',rfl,hown',dY (grownBy_alloc _ _ none) hgrow⟩
theorem NA(base:Nat)(v:Value)(k:Nat)(xs:List Value)(c:Int)(h0:2048<=c)(h1:c<65536)(w:World)(hb:base<=w.heap.size)(hk:k<=1099511627776)(ag:w.ownsRow base 5 1 v k xs):
  Calls prog 79 #[v,.int .i32 c] w fun e W'=>∃ v',e=.returned v'/\W'.ownsRow base 5 1 v' (k+3) (xs++[.int .u8 (224+c / 4096),.int .u8 (128+c / 64 % 64),.int .u8 (128+c % 64)])/\w.grownBy W' v.ownBlock:=by
 obtain⟨i0,hi,hz0,hz1,hz2⟩:=info_parts Tryz.info5;go_enter func79,ntmps79;go_wp2_with fail;refine(dj _ (by omega) (by omega) _).mono ?_;rintro e w' ⟨rfl,rfl⟩;go_wp2_with fail;refine(dj _ (by omega) (by omega) _).mono ?_;rintro e w' ⟨rfl,rfl⟩;go_wp2_with(at_builtin;refine wpList_append_own _ rfl _ _ 42 rfl base 5 i0 (.int .u8 0) 1 1 underlying42 hi hz0 hz1 hz2 rfl (by decide) _ _ _ rfl (ag.alloc _) ⟨w'.heap.size,0,none⟩ 3 3 [.int .u8 (224+c / 4096),.int .u8 (128+c / 64 % 64),.int .u8 (128+c % 64)] rfl rfl (cZ _ _ _) (by simp[Value.oneCell']) (by unfold maxLen;omega) (by omega) (by simp;omega) ?_;intro v' w1 hown' hgrow _);go_ret;exact⟨v',rfl,hown',dY (grownBy_alloc _ _ none) hgrow⟩
theorem Nz(base:Nat)(v:Value)(k:Nat)(xs:List Value)(c:Int)(h0:65536<=c)(h1:c<1114112)(w:World)(hb:base<=w.heap.size)(hk:k<=1099511627776)(ag:w.ownsRow base 5 1 v k xs):
  Calls prog 79 #[v,.int .i32 c] w fun e W'=>∃ v',e=.returned v'/\W'.ownsRow base 5 1 v' (k+4) (xs++[.int .u8 (240+c / 262144),.int .u8 (128+c / 4096 % 64),.int .u8 (128+c / 64 % 64),.int .u8 (128+c % 64)])/\w.grownBy W' v.ownBlock:=by
 obtain⟨i0,hi,hz0,hz1,hz2⟩:=info_parts Tryz.info5;go_enter func79,ntmps79;go_wp2_with fail;refine(dj _ (by omega) (by omega) _).mono ?_;rintro e w' ⟨rfl,rfl⟩;go_wp2_with fail;refine(dj _ (by omega) (by omega) _).mono ?_;rintro e w' ⟨rfl,rfl⟩;go_wp2_with fail;refine(dj _ (by omega) (by omega) _).mono ?_;rintro e w' ⟨rfl,rfl⟩;go_wp2_with(at_builtin;refine wpList_append_own _ rfl _ _ 42 rfl base 5 i0 (.int .u8 0) 1 1 underlying42 hi hz0 hz1 hz2 rfl (by decide) _ _ _ rfl (ag.alloc _) ⟨w'.heap.size,0,none⟩ 4 4 [.int .u8 (240+c / 262144),.int .u8 (128+c / 4096 % 64),.int .u8 (128+c / 64 % 64),.int .u8 (128+c % 64)] rfl rfl (cZ _ _ _) (by simp[Value.oneCell']) (by unfold maxLen;omega) (by omega) (by simp;omega) ?_;intro v' w1 hown' hgrow _);go_ret;exact⟨v',rfl,hown',dY (grownBy_alloc _ _ none) hgrow⟩
theorem pq(base:Nat)(v:Value)(k:Nat)(xs:List Value)(c:Int)(h0:0<=c)(h1:c<=1114111)(w:World)(hb:base<=w.heap.size)(hk:k<=1099511627776)(ag:w.ownsRow base 5 1 v k xs):
  Calls prog 79 #[v,.int .i32 c] w fun e W'=>∃ v',e=.returned v'/\W'.ownsRow base 5 1 v' (k+(enc c).length) (xs++(enc c).map (Value.int .u8))/\w.grownBy W' v.ownBlock:=by
 unfold enc;by_cases q1:c<128
 ·rw[if_pos q1];exact NC base v k xs c h0 q1 w hb hk ag
 ·rw[if_neg q1];by_cases q2:c<2048
  ·rw[if_pos q2];exact NB base v k xs c (by omega) q2 w hb hk ag
  ·rw[if_neg q2];by_cases q3:c<65536
   ·rw[if_pos q3];exact NA base v k xs c (by omega) q3 w hb hk ag
   ·rw[if_neg q3];exact Nz base v k xs c (by omega) (by omega) w hb hk ag
attribute [local go_sem] Oper.semAt_some
def dec(l:List Int):List Int:=(scl l).map fun x=>x.1.1
def fS(l:List Sc):List Int:=l.map fun x=>x.1.1
theorem qG(l:List Sc)(x:Sc):fS (l++[x])=fS l++[x.1.1]:=by simp[fS]
theorem vA(l:List Sc):(fS l).length=l.length:=by simp[fS]
theorem Tryz.iH:(prog.info? 21).map (fun i=>(i.zero,i.size,i.bytes))=some (some (.int .i32 0),1,4):=by kernel_rfl
theorem oR(s:ByteArray)(hs:s.size<=1099511627776)(w:World):
  Calls prog 283 #[.string s] w fun e W'=>∃ v,e=.returned v/\W'.ownsRow w.heap.size 21 1 v (dec (bn s)).length ((dec (bn s)).map (Value.int .i32))/\Below w.heap.size w W':=by
 refine(callsIn_wide (n:=3)).1 ?_;obtain⟨i0,hi,hz0,hz1,hz2⟩:=info_parts Tryz.iH;refine callsIn_of_wp_marks func283 rfl trivial ?_ rfl;simp only[ntmps283,List.size_toArray,length_cons,length_nil,Nat.reduceAdd,Nat.reduceSub,replicate_succ,replicate_zero,List.push_toArray,List.append_toArray,nil_append,cons_append];gi_wp2_with fail;refine⟨trivial,?_⟩;refine(nF _ s _).mono ?_;rintro e w' ⟨rfl,rfl⟩;gi_wp2_with fail;have bO:=Boxed.new w 43 (.slice none 0 0);have bN:=Boxed.new (w.alloc (.cells #[.slice none 0 0] 43)) 9 (.string s);rw[World.size_alloc]at bN;have hB0:Below w.heap.size w ((w.alloc (.cells #[.slice none 0 0] 43)).alloc (.cells #[.string s] 9)):=((Below.refl _ w).alloc (le_refl _) _).alloc (by simp) _
 refine wpIn_rangeFunc_ownG rfl (by omega) (gf:=116) (lb:=#[.pointer (some ⟨w.heap.size+1,0,none⟩)]) rfl trivial (enters_of func116 (by kernel_rfl) rfl)
  (oy 2 (by omega) (w.heap.size+1) s (by omega) _ bN) ou (ov (by simp)) (Below.refl _ _) (fun _=>rfl)
  (fun pre W=>((∃ v,Boxed W w.heap.size 43 v/\W.ownsRow w.heap.size 21 1 v (fS pre).length ((fS pre).map (Value.int .i32))/\True)/\Boxed W (w.heap.size+1) 9 (.string s))/\Below w.heap.size w W)
  (fun _ _ _=>False)
  (OwnFrom.and (OwnFrom.and (Own.from (holdsRow_own w.heap.size w.heap.size 43 21 1 (fun pre=>(fS pre).length) (fun pre=>(fS pre).map (Value.int .i32)) (fun pre v=>True)) _) (Own.from (boxed_own _ _ _) _)) (ownFrom_below (le_refl _) (by simp;omega)))
  (fun _ _ _ _ _ hs _ _=>hs)
  ⟨⟨⟨_,bO.alloc _,ownsRow_nil _ _ _ _,trivial⟩,bN⟩,hB0⟩
  (fun x=>{ tmps:=#[.string s,undef,.slice none 0 0,.pointer (some ⟨w.heap.size,0,none⟩),.int .i32 x.1.1,.string s,.func (.func 116) #[] #[.pointer (some ⟨w.heap.size+1,0,none⟩)],.int .i32 x.1.1,.bool x.1.2,undef,undef,undef,undef,undef],defers:=[] }) ?assign ?body ?done ?stop
 case assign =>
  intro l x W K hK;gi_wp2;exact hK
 case body =>
  rintro l pre x W ⟨⟨⟨v,hv,ag,_⟩,hbs⟩,hB⟩ hlt;have hc:=hv.cell;have hpl:(fS pre).length<=pre.length:=Nat.le_of_eq (vA pre);gi_wp2_with (gi_at_builtin;refine wpListIn_append_own _ rfl _ _ 43 rfl w.heap.size 21 i0 (.int .i32 0) 1 4 underlying43 hi hz0 hz1 hz2 rfl (by decide) _ _ _ rfl (ag.alloc _) ⟨W.heap.size,0,none⟩ 1 1 [.int .i32 x.1.1] rfl rfl (cell_one_new _ _ _) (by simp[Value.oneCell']) (by unfold maxLen;omega) (by omega) (by have:=hB.size;simp;omega) ?_;intro v' w1 hown' hgrow _;obtain⟨g',cap',rfl⟩:=ownsRow_succ hown';obtain⟨hv1,hv2,hr2,hk2,hb2⟩:=hv.appended (by decide) ag hB.size (le_refl _) hown' hgrow;have hc1:=hv1.cell;have hf1:=hv1.frozen);have hbs1:=((hbs.alloc _).kept hgrow (hbs.not_row (by decide) ag)).other (B':=w.heap.size) (by omega) (.slice (some ⟨g',0,none⟩) ((fS pre).length+1) cap');exact⟨hk2.from _,fun _=>hbs1,⟨⟨_,hv2,by rw[qG];simpa using hr2,trivial⟩,hbs1⟩,hB.trans hb2⟩
 case done =>
  rintro D ys W hD rfl ⟨⟨⟨v,hv,ag,_⟩,hbs⟩,hB⟩ hK;have hc:=hv.cell;gi_wp2;refine⟨by simp,.inl ⟨_,_,rfl,run_takeDeferred hK,?_⟩⟩;exact⟨_,results_tmp rfl _ _ _,v,rfl,ownsRow_putObj ag _ hK rfl,hB.trans (belowK_b (w:=w) (le_refl _) W D _ _ (by simp at hD;omega) hK rfl rfl)⟩
 case stop =>
  rintro D c pre W _ _ h _;exact h.elim
attribute [local go_sem] Oper.semAt_some
def aj(l:List Int):List Int:=l.flatMap enc
theorem gv(l:List Int)(x:Int):aj (l++[x])=aj l++enc x:=by simp[aj]
theorem cX(l:List Int):(aj l).length<=4 * l.length:=by
 induction l with
 | nil=>simp[aj]
 | cons a t ih =>
  have:=eG a;simp only[aj,List.flatMap_cons,length_append,length_cons]at *;omega
theorem cR(c:Int)(h0:0<=c)(h1:c<=1114111):Bytes (enc c):=by
 intro b hb;unfold enc at hb;by_cases q1:c<128
 ·rw[if_pos q1]at hb;simp at hb;omega
 ·rw[if_neg q1]at hb;by_cases q2:c<2048
  ·rw[if_pos q2]at hb;simp at hb;omega
  ·rw[if_neg q2]at hb;by_cases q3:c<65536
   ·rw[if_pos q3]at hb;simp at hb;omega
   ·rw[if_neg q3]at hb;simp at hb;omega
theorem dI(l:List Int)(h:∀ c∈l,0<=c/\c<=1114111):Bytes (aj l):=by intro b hb;obtain⟨c,hc,hbc⟩:=List.mem_flatMap.1 hb;exact cR c (h c hc).1 (h c hc).2 b hbc
theorem Mz(l:List Sc):∀ c∈fS l,0<=c/\c<=1114111:=by intro c hc;obtain⟨x,_,rfl⟩:=List.mem_map.1 hc;exact x.2
theorem dL(ns:List Int)(h:Bytes ns):(ns.map fun n=>UInt8.ofNat n.toNat).map (fun c=>(c.toNat:Int))=ns:=by
 rw[List.map_map]
 conv=>rhs;rw[<-List.map_id ns]
 apply List.map_congr_left;intro a ha;have:=h a ha;simp only[Function.comp,id,UInt8.toNat_ofNat'];omega
theorem gx(g j:Nat):((⟨g,0,none⟩:Addr).add j)=⟨g,j,none⟩:=by simp[Addr.add];exact fun h=>h.symm
theorem aV(w:World)(base:Nat)(v:Value)(n:Nat)(ns:List Int)(hn:n=ns.length)(hb:Bytes ns)(ag:w.ownsRow base 5 1 v n (ns.map (Value.int .u8))):
  ∃ t:ByteArray,(convert 42 9 v).run prog w=.ok (.string t) w/\bn t=ns:=by
 subst hn;rcases id ag.2 with⟨rfl,h0⟩ | ⟨g,cap,cur,rfl,_⟩
 ·refine⟨⟨#[]⟩,?_,?_⟩
  ·rw[run_convert_bytes_string w 42 9 5 none 0 0 underlying42 underlying5 underlying9];simp[Conv.bytesToString];rfl
  ·rw[List.length_eq_zero_iff.1 h0];rfl
 ·refine⟨⟨(ns.map fun n=>UInt8.ofNat n.toNat).toArray⟩,?_,?_⟩
  ·have:=run_convert_bytes_back (P:=prog) w 42 9 5 ⟨g,0,none⟩ cap (ns.map fun n=>UInt8.ofNat n.toNat) underlying42 underlying5 underlying9 (by
     intro j hj
     rw[gx,ag.cellAt j (by simpa using hj)]
     have hj':j<ns.length:=by simpa using hj
     have hbj:=hb ns[j] (List.getElem_mem hj')
     rw[getElem?_map,getElem?_eq_getElem hj']
     simp only[Option.map_some,List.getElem_map,UInt8.toNat_ofNat']
     congr 2
     omega)
   rw[length_map]at this;exact this
  ·unfold bn;simp only;exact dL ns hb
theorem gY{W w1:World}{n₀ B:Nat}{t e:TypeId}{size:Nat}{v v':Value}{k m:Nat}{xs ys:List Value}
  (hv:Boxed W B t v) (hte:t≠e) (ag:W.ownsRow n₀ e size v k xs) (hn₀:n₀<=W.heap.size) (hB:n₀<=B)
  (hown':w1.ownsRow n₀ e size v' m ys) (hgrow:W.grownBy w1 v.ownBlock) :
  Boxed w1 B t v/\Boxed (w1.setCell ⟨B,0,none⟩ v') B t v'/\(w1.setCell ⟨B,0,none⟩ v').ownsRow n₀ e size v' m ys/\KeepsOthers W (w1.setCell ⟨B,0,none⟩ v')/\Below n₀ W (w1.setCell ⟨B,0,none⟩ v'):=by
 have hv1:Boxed w1 B t v:=hv.kept hgrow (hv.not_row hte ag);refine⟨hv1,hv1.set v',hown'.kept (grownBy_setCell' w1 B v') (.inr (hv1.not_row hte hown').symm),?_,?_⟩
 ·refine(KeepsOthers.of_grownBy hgrow fun j o ej hj=>?_).trans (KeepsOthers.setCell _ _ _);rcases ag.2 with⟨rfl,_⟩ | ⟨g,cap,cur,rfl,_,hgb,_⟩
  ·simp[Value.ownBlock]at ej
  ·obtain rfl:g=j:=by simpa[Value.ownBlock]using ej
   rw[hgb]at hj;cases hj;rfl
 ·refine((Below.refl n₀ W).grown hgrow hn₀ fun j ej=>?_).setCell (p:=⟨B,0,none⟩) hB v';rcases ag.2 with⟨rfl,_⟩ | ⟨g,cap,cur,rfl,hb,_,_⟩
  ·simp[Value.ownBlock]at ej
  ·obtain rfl:g=j:=by simpa[Value.ownBlock]using ej
   exact hb
attribute [local go_sem] Oper.semAt_some
theorem fO(c:Int):128<=aF c:=by unfold aF;(repeat' split) <;> omega
theorem gN(c:Int):aE c<=191:=by unfold aE;(repeat' split) <;> omega
theorem jw(a:Int)(t:List Int)(h:a<128):nx (a::t)=(a,1,true):=by rw[nx,if_pos h]
theorem zw(a b:Int)(t:List Int)(h1:194<=a)(h2:a<=223)(h3:128<=b)(h4:b<=191):nx (a::b::t)=((a - 192) * 64+(b - 128),2,true):=by
 have hf:follow a=1:=by unfold follow;rw[if_neg (by omega),if_neg (by omega),if_pos ⟨h1,h2⟩]
 have hl1:aF a=128:=by unfold aF;rw[if_neg (by omega),if_neg (by omega)]
 have hh1:aE a=191:=by unfold aE;rw[if_neg (by omega),if_neg (by omega)]
 have e:nx (a::b::t)=nxl 1 (b::t) 1 (a % 32) 128 191:=by rw[nx,if_neg (by omega),hf,hl1,hh1];rfl
 rw[e,nxl,if_neg (by omega),nxl];refine Prod.ext ?_ rfl;simp only;omega
theorem RT(a:Int)(h1:194<=a)(h2:a<=223):nx [a]=(65533,1,false):=by
 have hf:follow a=1:=by unfold follow;rw[if_neg (by omega),if_neg (by omega),if_pos ⟨h1,h2⟩]
 rw[nx,if_neg (by omega),hf];rfl
theorem zx(a:Int)(t:List Int)(h1:224<=a)(h2:a<=239):nx (a::t)=nxl 2 t 1 (a % 16) (aF a) (aE a):=by
 have hf:follow a=2:=by unfold follow;rw[if_neg (by omega),if_pos ⟨h1,h2⟩]
 rw[nx,if_neg (by omega),hf];rfl
theorem zv(a b c:Int)(t:List Int)(h1:224<=a)(h2:a<=239)(h3:aF a<=b)(h4:b<=aE a)(h5:128<=c)(h6:c<=191):
  nx (a::b::c::t)=((a - 224) * 4096+(b - 128) * 64+(c - 128),3,true):=by
 have q1:=fO a;have q2:=gN a;rw[zx a _ h1 h2,nxl,if_neg (by omega),nxl,if_neg (by omega),nxl];refine Prod.ext ?_ rfl;simp only;omega
theorem uv(a:Int)(t:List Int)(h1:240<=a)(h2:a<=244):nx (a::t)=nxl 3 t 1 (a % 8) (aF a) (aE a):=by
 have hf:follow a=3:=by unfold follow;rw[if_pos ⟨h1,h2⟩]
 rw[nx,if_neg (by omega),hf];rfl
theorem zt(a b c d:Int)(t:List Int)(h1:240<=a)(h2:a<=244)(h3:aF a<=b)(h4:b<=aE a)(h5:128<=c)(h6:c<=191)(h7:128<=d)(h8:d<=191):
  nx (a::b::c::d::t)=((a - 240) * 262144+(b - 128) * 4096+(c - 128) * 64+(d - 128),4,true):=by
 have q1:=fO a;have q2:=gN a;rw[uv a _ h1 h2,nxl,if_neg (by omega),nxl,if_neg (by omega),nxl,if_neg (by omega),nxl];refine Prod.ext ?_ rfl;simp only;omega
theorem uu(l:List Int)(h:l≠[])(hl:Bytes l)(hw:(nx l).2.2=true):
  (∀ r,nx (l++r)=nx l)/\enc (nx l).1=l.take (nx l).2.1/\(∀ n,(nx l).2.1<=n->nx (l.take n)=nx l)/\(∀ n,0<n->n<(nx l).2.1->nx (l.take n)=(65533,n,false)):=by
 rcases iz l h hl with⟨a,t,rfl,h0,h1,e⟩ | ⟨a,b,t,rfl,h1,h2,h3,h4,e⟩ | ⟨a,b,c,t,rfl,h1,h2,h3,h4,h5,h6,e⟩ | ⟨a,b,c,d,t,rfl,h1,h2,h3,h4,h5,h6,h7,h8,e⟩ | ⟨n,_,_,e⟩
 ·rw[e];refine⟨fun r=>jw a _ h1,?_,?_,?_⟩
  ·simp only;unfold enc;rw[if_pos h1];rfl
  ·intro n hn;obtain⟨m,rfl⟩:∃ m,n=m+1:=⟨n - 1,by simp only at hn;omega⟩;exact jw a _ h1
  ·intro n h0 hn;simp only at hn;omega
 ·rw[e];refine⟨fun r=>zw a b _ h1 h2 h3 h4,?_,?_,?_⟩
  ·simp only;unfold enc;rw[if_neg (by omega),if_pos (by omega)];have e1:192+((a - 192) * 64+(b - 128)) / 64=a:=by omega
   have e2:128+((a - 192) * 64+(b - 128)) % 64=b:=by omega
   rw[e1,e2];rfl
  ·intro n hn;obtain⟨m,rfl⟩:∃ m,n=m+2:=⟨n - 2,by simp only at hn;omega⟩;exact zw a b _ h1 h2 h3 h4
  ·intro n h0 hn;obtain rfl:n=1:=by simp only at hn;omega
   exact RT a h1 h2
 ·have q1:=fO a;have q2:=gN a;rw[e];refine⟨fun r=>zv a b c _ h1 h2 h3 h4 h5 h6,?_,?_,?_⟩
  ·have hlo:a=224->160<=b:=fun ha=>by subst ha;exact h3
   simp only;unfold enc;rw[if_neg (by omega),if_neg (by omega),if_pos (by omega)];have e1:224+((a - 224) * 4096+(b - 128) * 64+(c - 128)) / 4096=a:=by omega
   have e2:128+((a - 224) * 4096+(b - 128) * 64+(c - 128)) / 64 % 64=b:=by omega
   have e3:128+((a - 224) * 4096+(b - 128) * 64+(c - 128)) % 64=c:=by omega
   rw[e1,e2,e3];rfl
  ·intro n hn;obtain⟨m,rfl⟩:∃ m,n=m+3:=⟨n - 3,by simp only at hn;omega⟩;exact zv a b c _ h1 h2 h3 h4 h5 h6
  ·intro n h0 hn;have:n=1\/n=2:=by simp only at hn;omega
   rcases this with rfl | rfl
   ·show nx [a]=_;rw[zx a _ h1 h2];rfl
   ·show nx [a,b]=_;rw[zx a _ h1 h2,nxl,if_neg (by omega)];rfl
 ·have q1:=fO a;have q2:=gN a;rw[e];refine⟨fun r=>zt a b c d _ h1 h2 h3 h4 h5 h6 h7 h8,?_,?_,?_⟩
  ·have hlo:a=240->144<=b:=fun ha=>by subst ha;exact h3
   simp only;unfold enc;rw[if_neg (by omega),if_neg (by omega),if_neg (by omega)];have e1:240+((a - 240) * 262144+(b - 128) * 4096+(c - 128) * 64+(d - 128)) / 262144=a:=by omega
   have e2:128+((a - 240) * 262144+(b - 128) * 4096+(c - 128) * 64+(d - 128)) / 4096 % 64=b:=by omega
   have e3:128+((a - 240) * 262144+(b - 128) * 4096+(c - 128) * 64+(d - 128)) / 64 % 64=c:=by omega
   have e4:128+((a - 240) * 262144+(b - 128) * 4096+(c - 128) * 64+(d - 128)) % 64=d:=by omega
   rw[e1,e2,e3,e4];rfl
  ·intro n hn;obtain⟨m,rfl⟩:∃ m,n=m+4:=⟨n - 4,by simp only at hn;omega⟩;exact zt a b c d _ h1 h2 h3 h4 h5 h6 h7 h8
  ·intro n h0 hn;have:n=1\/n=2\/n=3:=by simp only at hn;omega
   rcases this with rfl | rfl | rfl
   ·show nx [a]=_;rw[uv a _ h1 h2];rfl
   ·show nx [a,b]=_;rw[uv a _ h1 h2,nxl,if_neg (by omega)];rfl
   ·show nx [a,b,c]=_;rw[uv a _ h1 h2,nxl,if_neg (by omega),nxl,if_neg (by omega)];rfl
 ·rw[e]at hw;simp at hw
theorem nY(c:Int)(h:ab c=true)(t:List Int):nx (enc c++t)=(c,(enc c).length,true):=by
 unfold ab at h;rw[decide_eq_true_eq]at h;unfold enc;by_cases q1:c<128
 ·rw[if_pos q1];exact jw c t q1
 ·rw[if_neg q1];by_cases q2:c<2048
  ·rw[if_pos q2];show nx ((192+c / 64)::(128+c % 64)::t)=(c,2,true);rw[zw _ _ _ (by omega) (by omega) (by omega) (by omega)];refine Prod.ext ?_ rfl;simp only;omega
  ·rw[if_neg q2];by_cases q3:c<65536
   ·rw[if_pos q3];show nx ((224+c / 4096)::(128+c / 64 % 64)::(128+c % 64)::t)=(c,3,true);rw[zv _ _ _ _ (by omega) (by omega) ?_ ?_ (by omega) (by omega)]
    ·refine Prod.ext ?_ rfl;simp only;omega
    ·unfold aF;by_cases g:224+c / 4096=224
     ·rw[if_pos g];omega
     ·rw[if_neg g,if_neg (by omega)];omega
    ·unfold aE;by_cases g:224+c / 4096=237
     ·rw[if_pos g];omega
     ·rw[if_neg g,if_neg (by omega)];omega
   ·rw[if_neg q3];show nx ((240+c / 262144)::(128+c / 4096 % 64)::(128+c / 64 % 64)::(128+c % 64)::t)=(c,4,true);rw[zt _ _ _ _ _ (by omega) (by omega) ?_ ?_ (by omega) (by omega) (by omega) (by omega)]
    ·refine Prod.ext ?_ rfl;simp only;omega
    ·unfold aF;by_cases g:240+c / 262144=240
     ·rw[if_neg (by omega),if_pos g];omega
     ·rw[if_neg (by omega),if_neg g];omega
    ·unfold aE;by_cases g:240+c / 262144=244
     ·rw[if_neg (by omega),if_pos g];omega
     ·rw[if_neg (by omega),if_neg g];omega
theorem aO(l:List Int)(h:l≠[])(hl:Bytes l):dec l=(nx l).1::dec (l.drop (nx l).2.1):=by unfold dec;rw[km l h,map_cons,ml l hl]
theorem bL:dec []=[]:=rfl
theorem bJ:∀(n:Nat) (l:List Int),l.length<=n->Bytes l->(dec l).all ab=true
 | 0,l,h,_=>by obtain rfl:=List.length_eq_zero_iff.1 (show l.length=0 by omega);rfl
 | n+1,l,h,hl=>by
  by_cases hne:l=[]
  ·subst hne;rfl
  ·have hn:=iy l hne;rw[aO l hne hl,List.all_cons,rX l hne hl,bJ n _ (by rw[length_drop];omega) (hl.drop _)];rfl
theorem dv:∀(n:Nat) (l:List Int),l.length<=n->Bytes l->(dec l).length<=l.length
 | 0,l,h,_=>by obtain rfl:=List.length_eq_zero_iff.1 (show l.length=0 by omega);exact le_refl _
 | n+1,l,h,hl=>by
  by_cases hne:l=[]
  ·subst hne;exact le_refl _
  ·have hn:=iy l hne;have:=dv n (l.drop (nx l).2.1) (by rw[length_drop];omega) (hl.drop _);rw[length_drop]at this;rw[aO l hne hl,length_cons];omega
def av(w:World)(v:Value)(zs:List Int):Prop :=
 (zs=[]/\∃ a cap,v=.slice a 0 cap)\/(0<zs.length/\∃ b off cap,v=.slice (some ⟨b,off,none⟩) zs.length cap/\∀ j,j<zs.length->w.cell? ⟨b,off+j,none⟩=some (.int .i32 (zs[j]?.getD 0)))
theorem lt_of_cell{w:World}{a:Addr}{v:Value}(h:w.cell? a=some v):a.block<w.heap.size:=by
 by_cases hb:a.block<w.heap.size
 ·exact hb
 ·simp[World.cell?,Array.getElem?_eq_none (Nat.le_of_not_lt hb)]at h
theorem av.below{A B:World}{n:Nat}(h:Below n A B)(hn:A.heap.size<=n){v:Value}{zs:List Int}:av A v zs->av B v zs
 | .inl e=>.inl e
 | .inr ⟨hp,b,off,cap,e,hc⟩=>.inr ⟨hp,b,off,cap,e,fun j hj=>(h.cell (p:=⟨b,off+j,none⟩) (Nat.lt_of_lt_of_le (lt_of_cell (hc j hj)) hn)).trans (hc j hj)⟩
theorem av.own{w:World}{base:Nat}{v:Value}{n:Nat}{zs:List Int}(hn:n=zs.length)(h:w.ownsRow base 21 1 v n (zs.map (Value.int .i32))):av w v zs:=by
 subst hn;rcases id h.2 with⟨rfl,h0⟩ | ⟨g,cap,cur,rfl,_⟩
 ·exact .inl ⟨List.length_eq_zero_iff.1 h0,_,_,rfl⟩
 ·by_cases hz:zs.length=0
  ·exact .inl ⟨List.length_eq_zero_iff.1 hz,_,_,by rw[hz]⟩
  ·refine .inr ⟨by omega,g,0,cap,rfl,fun j hj=>?_⟩;rw[zero_add,h.cellAt j (by omega),getElem?_map,getElem?_eq_getElem hj];rfl
theorem fI(zs:List Int)(k:Nat)(h:k<zs.length):zs.take (k+1)=zs.take k++[zs[k]?.getD 0]:=by rw[List.take_succ_eq_append_getElem h,getElem?_eq_getElem h];rfl
theorem iM(zs:List Int)(k:Nat)(h:k<zs.length):aj (zs.take (k+1))=aj (zs.take k)++enc (zs[k]?.getD 0):=by rw[fI zs k h,gv]
theorem jA(zs:List Int)(k:Nat)(h:k<zs.length)(ha:(zs.take k).all ab=true)(hs:ab (zs[k]?.getD 0)=true):(zs.take (k+1)).all ab=true:=by rw[fI zs k h,all_append,ha];simp[hs]
theorem all_false(zs:List Int)(k:Nat)(h:k<zs.length)(hs:ab (zs[k]?.getD 0)=false):zs.all ab=false:=by rw[<-List.take_append_drop (k+1) zs,fI zs k h,all_append,all_append];simp[hs]
theorem aN{c:Int}(h:ab c=true):0<=c/\c<=1114111:=by unfold ab at h;rw[decide_eq_true_eq]at h;omega
theorem Ja{zs:List Int}(h:zs.all ab=true):∀ c∈zs,0<=c/\c<=1114111:=fun c hc=>aN (List.all_eq_true.1 h c hc)
def encR(zs:List Int)(t:ByteArray)(e:Int):Prop:=(zs.all ab=true/\e=0/\bn t=aj zs)\/(zs.all ab=false/\e=2/\t=⟨#[]⟩)
theorem vH(b off cap:Nat)(zs:List Int)(hlen:zs.length<=17179869184)(w:World)(hp:0<zs.length)(hc:∀ j,j<zs.length->w.cell? ⟨b,off+j,none⟩=some (.int .i32 (zs[j]?.getD 0))):
  Calls prog 280 #[.slice (some ⟨b,off,none⟩) zs.length cap] w fun e W'=>(∃ t r,e=.returned (.tuple #[.string t,.int .i64 r])/\encR zs t r)/\Below w.heap.size w W':=by
 have hb:b<w.heap.size:=lt_of_cell (hc 0 hp);go_enter func280,ntmps280;go_wp2_with fail
 go_loopw [4,9] (fun v i wr=>∃ k:Nat,k<=zs.length/\i=.int .i64 k/\(zs.take k).all ab=true/\wr.ownsRow w.heap.size 5 1 v (aj (zs.take k)).length ((aj (zs.take k)).map (Value.int .u8))/\Below w.heap.size w wr)
  (fun _ i _=>zs.length - (intOf i).toNat)
 case atStart=>exact⟨0,Nat.zero_le _,rfl,by simp,ownsRow_nil _ _ _ _,Below.refl _ _⟩
 case round =>
  obtain⟨k,hk,rfl,hall,ag,hB⟩:=hrel;by_cases hlt:k<zs.length
  ·have hck:wr.cell? ⟨b,off+k,none⟩=some (.int .i32 (zs[k]?.getD 0)):=(hB.cell (p:=⟨b,off+k,none⟩) hb).trans (hc k hlt);have hel:=cX (zs.take k);have htl:(zs.take k).length<=k:=List.length_take_le _ _;have H1:Hid ((zs.take k).all ab=true):=hall;have H2:Hid (aj (zs.take (k+1))=aj (zs.take k)++enc (zs[k]?.getD 0)):=iM zs k hlt;clear hall;obtain⟨c,hcc⟩:∃ c,c=zs[k]?.getD 0:=⟨_,rfl⟩;rw[<-hcc]at hck;have HC:Hid (c=zs[k]?.getD 0):=hcc;clear hcc;cases hsc:ab c with
   | true =>
    have HS:Hid (ab c=true):=hsc;clear hsc;have hbd:=aN HS.out;go_wp2_with fail;refine(kD _ _).mono ?_;rw[HS.out];rintro e w' ⟨rfl,rfl⟩;go_wp2_with fail;refine(pq w.heap.size _ _ _ _ hbd.1 hbd.2 _ hB.size (by omega) ag).mono ?_;rintro e w1 ⟨v',rfl,hown',hgrow⟩;have R:Hid (w1.ownsRow w.heap.size 5 1 v' (aj (zs.take (k+1))).length ((aj (zs.take (k+1))).map (Value.int .u8))):=by show w1.ownsRow _ _ _ _ _ _;rw[H2.out,<-HC.out,length_append,map_append];exact hown'
    have hB1:Below w.heap.size w w1:=hB.grown hgrow hB.size (fun j ej=>by
      rcases ag.2 with⟨rfl,_⟩ | ⟨g,cap,cur,rfl,hbg,_,_⟩
      · simp[Value.ownBlock]at ej
      · obtain rfl:g=j:=by simpa[Value.ownBlock]using ej
        exact hbg)
    clear hown' hgrow ag hB hck;go_wp2
    go_roundw
    case rel=>exact⟨k+1,by omega,by go_num,jA zs k hlt H1.out (by rw[<-HC.out];exact HS.out),R.out,hB1⟩
    case measure=>simp[intOf];omega
   | false =>
    have HS:Hid (ab c=false):=hsc;clear hsc;go_wp2_with fail;refine(kD _ _).mono ?_;rw[HS.out];rintro e w' ⟨rfl,rfl⟩;go_wp2;go_ret2;exact⟨⟨_,_,rfl,.inr ⟨all_false zs k hlt (by rw[<-HC.out];exact HS.out),rfl,rfl⟩⟩,hB⟩
  ·have hkk:k=zs.length:=by omega
   rw[hkk,List.take_length]at hall ag;obtain⟨t,hcv,ht⟩:=aV wr w.heap.size _ _ (aj zs) rfl (dI _ (Ja hall)) ag;have H1:Hid (zs.all ab=true):=hall;have HT:Hid (bn t=aj zs):=ht;clear hall ht hkk;go_wp2;go_ret2;exact⟨⟨_,_,rfl,.inl ⟨H1.out,rfl,HT.out⟩⟩,hB⟩
theorem vI(a:Option Addr)(cap:Nat)(w:World):
  Calls prog 280 #[.slice a 0 cap] w fun e W'=>(∃ t r,e=.returned (.tuple #[.string t,.int .i64 r])/\encR [] t r)/\Below w.heap.size w W':=by
 obtain⟨t,hcv,ht⟩:=aV w w.heap.size (.slice none 0 0) 0 [] rfl (fun b hb=>by cases hb) (ownsRow_nil _ _ _ _);have HT:Hid (bn t=aj []):=ht;clear ht;go_enter func280,ntmps280;go_wp2_with fail;refine wp_loop_rounds 1 ?_;rw[rounds_succ];go_wp2;go_ret2;exact⟨⟨_,_,rfl,.inl ⟨rfl,rfl,HT.out⟩⟩,Below.refl _ _⟩
theorem gU(v:Value)(zs:List Int)(hlen:zs.length<=17179869184)(w:World)(hv:av w v zs):
  Calls prog 280 #[v] w fun e W'=>(∃ t r,e=.returned (.tuple #[.string t,.int .i64 r])/\encR zs t r)/\Below w.heap.size w W':=by
 rcases hv with⟨rfl,a,cap,rfl⟩ | ⟨hp,b,off,cap,rfl,hc⟩
 ·exact vI a cap w
 ·exact vH b off cap zs hlen w hp hc
theorem ak{s t:ByteArray}(h:bn s=bn t):s=t:=by
 unfold bn at h
 have h2:s.data.toList=t.data.toList:=by
  have:∀(a b:List UInt8),a.map (fun c=>(c.toNat:Int))=b.map (fun c=>(c.toNat:Int))->a=b:=by
   intro a
   induction a with
   | nil=>intro b hb;cases b with
    | nil=>rfl
    | cons _ _=>simp at hb
   | cons x a ih=>intro b hb;cases b with
    | nil=>simp at hb
    | cons y b =>
     simp only[map_cons,List.cons.injEq]at hb;have hxy:x=y:=UInt8.toNat_inj.1 (by have:=hb.1;omega);rw[ih b hb.2,hxy]
  exact this _ _ h
 cases s;cases t;congr 1;exact Array.toList_inj.1 h2
theorem below_drewN(B:Nat)(w:World)(n:Nat):Below B w (w.drewN n):=⟨rfl,rfl,rfl,le_refl _,fun _ _=>rfl⟩
def mL(w:World)(u:Value)(zs:List Int):Prop :=
 (u=.slice none 0 0/\zs=[])\/∃ ad c,u=.slice (some ad) zs.length c/\∀ j,j<zs.length->w.cell? (ad.add j)=some (.int .i32 (zs[j]?.getD 0))
theorem bI{w:World}{ops:Array Oper}{rest:List Oper}{o:Oper}{a:Act}{Q:Exit->Act->World->Prop}(hgd:o.guard=none)(s x:Operand)
  (ho:o.op=.call { callee:=.builtin .append,args:=#[s,x],argTypes:=#[43,43] }) (base:Nat) (v:Value) (n:Nat) (ys:List Int) (hs:a.eval s=v) (hown:w.ownsRow base 21 1 v n (ys.map (Value.int .i32)))
  (u:Value) (zs:List Int) (hx:a.eval x=u) (hu:mL w u zs) (hbd:n+zs.length<=17179869184) (hbase:base<=w.heap.size)
  (h:∀ v' w',w'.ownsRow base 21 1 v' (n+zs.length) ((ys++zs).map (Value.int .i32))->w.grownBy w' v.ownBlock->wpList prog ops Q rest (a.put o.dst v') w'):wpList prog ops Q (o::rest) a w:=by
 obtain⟨i0,hi,hz0,hz1,hz2⟩:=info_parts Tryz.iH;rcases hu with⟨rfl,rfl⟩ | ⟨ad,c,rfl,hc⟩
 ·exact wpList_append_own_none hgd s x 43 ho base 21 i0 1 underlying43 hi v n _ hs hown hx (h v w (by simpa using hown) ⟨rfl,rfl,rfl,le_refl _,fun _ _ _=>rfl⟩)
 ·refine wpList_append_own w hgd s x 43 ho base 21 i0 (.int .i32 0) 1 4 underlying43 hi hz0 hz1 hz2 rfl (by decide) v n _ hs hown ad zs.length c (zs.map (Value.int .i32)) hx (by simp) ?_ ?_ (by unfold maxLen;omega) (by omega) hbase (fun v' w' h1 h2 _=>h v' w' (by simpa using h1) h2)
  ·intro j y hj;rw[getElem?_map]at hj;obtain⟨c',hc',rfl⟩:=Option.map_eq_some_iff.1 hj;have hj':=(List.getElem?_eq_some_iff.1 hc').1;rw[hc j hj',hc'];rfl
  ·intro y hy;obtain⟨c',_,rfl⟩:=List.mem_map.1 hy;rfl
theorem below_grow{B:Nat}{w w1 w2:World}{e:TypeId}{size:Nat}{v:Value}{n:Nat}{xs:List Value}(hB:Below B w w1)(hb:B<=w1.heap.size)(hown:w1.ownsRow B e size v n xs)(hg:w1.grownBy w2 v.ownBlock):Below B w w2 :=
 hB.grown hg hb (fun j ej=>by
   rcases hown.2 with⟨rfl,_⟩ | ⟨g,cap,cur,rfl,hbg,_,_⟩
   · simp[Value.ownBlock]at ej
   · obtain rfl:g=j:=by simpa[Value.ownBlock]using ej
     exact hbg)
theorem aD(a b:ByteArray):bn (a++b)=bn a++bn b:=by unfold bn;rw[<-map_append];congr 1
theorem an{base B:Nat}{e:TypeId}{size:Nat}{v:Value}{n:Nat}{xs:List Value}{w w':World}(h:w.ownsRow base e size v n xs)(hb:Below B w w')(hB:w.heap.size<=B):w'.ownsRow base e size v n xs:=by
 rcases h with⟨h1,⟨rfl,h2⟩ | ⟨g,cap,cur,rfl,hbg,hg,h3⟩⟩
 ·exact⟨h1,.inl ⟨rfl,h2⟩⟩
 ·have hlt:g<w.heap.size:=(Array.getElem?_eq_some_iff.1 hg).1;exact⟨h1,.inr ⟨g,cap,cur,rfl,hbg,(hb.block g (by omega)).trans hg,h3⟩⟩
end U
namespace E
theorem hid{p:Prop}(h:p):Hid p:=h
def ctl(r:Int):Bool:=decide (r<32)||decide (126<r)
def sgn:Nat->List Int
 | 1=>[32,34,60,62,96]
 | 2=>[32,34,35,60,62]
 | 3=>[32,34,35,60,62,39]
 | 4=>[32,34,35,60,62,63,94,96,123,125]
 | 5=>[32,34,35,60,62,63,94,96,123,125,47,58,59,61,64,91,92,93,124]
 | 6=>[32,34,35,60,62,63,94,96,123,125,47,58,59,61,64,91,92,93,124,36,37,38,43,44]
 | _=>[]
def inS(r:Int)(k:Nat):Bool:=decide (k<=6)&&(ctl r||(sgn k).contains r)
theorem ve{r:Int}{k:Nat}(h:6<k):inS r k=false:=by unfold inS;rw[decide_eq_false (by omega)];rfl
theorem lA{r:Int}{k:Nat}(hk:k<=6)(h:inS r k=false):32<=r/\r<=126:=by unfold inS ctl at h;rw[decide_eq_true hk]at h;simp at h;omega
def dg(n:Int):Int:=if n<10 then 48+n else 55+n
def pe(b:Int):List Int:=[37,dg (b / 16),dg (b % 16)]
def tok(k:Nat)(c:Int):List Int:=if inS c k=true then (U.enc c).flatMap pe else U.enc c
def en(k:Nat)(l:List Int):List Int:=l.flatMap (tok k)
theorem Cj(k:Nat)(a b:List Int):en k (a++b)=en k a++en k b:=List.flatMap_append
theorem kK(k:Nat)(c:Int)(l:List Int):en k (c::l)=tok k c++en k l:=List.flatMap_cons
theorem zR(k:Nat)(l:List Int)(c:Int):en k (l++[c])=en k l++tok k c:=by rw[Cj];simp[en]
theorem ku:∀ l:List Int,(l.flatMap pe).length=3 * l.length
 | []=>rfl
 | b::l=>by rw[List.flatMap_cons,length_append,ku l,length_cons];show 3+_=_;omega
theorem JI(k:Nat)(c:Int):(tok k c).length<=12:=by
 have:=U.eG c;unfold tok;split
 ·rw[ku];omega
 ·omega
theorem yd(k:Nat):∀ l:List Int,(en k l).length<=12 * l.length
 | []=>le_refl _
 | c::l=>by have h1:=JI k c;have h2:=yd k l;rw[kK,length_append,length_cons];omega
def hx(c:Int):Int:=if 48<=c/\c<=57 then c - 48 else if 97<=c/\c<=102 then c - 87 else if 65<=c/\c<=70 then c - 55 else -1
def de:List Int->List Int
 | []=>[]
 | [a]=>[a]
 | [a,b]=>[a,b]
 | c::a::b::t=>if c=37/\0<=hx a/\0<=hx b then (16 * hx a+hx b)::de t else c::de (a::b::t)
theorem Qy{a b:Int}{t:List Int}(ha:0<=hx a)(hb:0<=hx b):de (37::a::b::t)=(16 * hx a+hx b)::de t:=by rw[de,if_pos ⟨rfl,ha,hb⟩]
theorem NY{c:Int}{t:List Int}(h:¬ (c=37/\2<=t.length/\0<=hx (t[0]?.getD 0)/\0<=hx (t[1]?.getD 0))):de (c::t)=c::de t:=by
 match t,h with
 | [],_=>rfl
 | [a],_=>rfl
 | a::b::t,h =>
  rw[de,if_neg (fun hh=>h ⟨hh.1,by simp,hh.2.1,hh.2.2⟩)]
theorem iI(c:Int):-1<=hx c/\hx c<=15:=by unfold hx;(repeat' split) <;> omega
theorem sK:∀(n:Nat) (l:List Int),l.length<=n->(de l).length<=l.length
 | _,[],_=>le_refl _
 | _,[a],_=>le_refl _
 | _,[a,b],_=>le_refl _
 | 0,c::a::b::t,h=>by simp at h
 | n+1,c::a::b::t,h=>by
  rw[de];split
  ·have:=sK n t (by simp at h;omega);simp;omega
  ·have:=sK n (a::b::t) (by simp at h ⊢;omega);simp at this ⊢;omega
theorem bR{c:Int}(h:c<128):U.enc c=[c]:=by unfold U.enc;rw[if_pos h]
theorem aN{c:Int}(h:U.ab c=true):0<=c/\c<=1114111:=by unfold U.ab at h;have:=of_decide_eq_true h;omega
theorem MR:∀ k:Fin 7,∀ n:Fin 16,inS (dg n.val) k.val=false:=by decide +kernel
theorem Ss{n:Int}(h0:0<=n)(h1:n<=15):48<=dg n/\dg n<=70:=by unfold dg;split <;> omega
theorem kJ{k:Nat}(hk:k<=6){l:List Int}(h:∀ c∈l,U.ab c=true):∀ y∈en k l,32<=y/\y<=126/\(inS y k=true->y=37):=by
 intro y hy;obtain⟨c,hc,hyc⟩:=List.mem_flatMap.1 hy;have hb:=aN (h c hc);unfold tok at hyc;split at hyc
 ·obtain⟨b,hbm,hyb⟩:=List.mem_flatMap.1 hyc;have hbb:=U.cR c hb.1 hb.2 b hbm;have key:∀ n:Int,0<=n->n<=15->32<=dg n/\dg n<=126/\(inS (dg n) k=true->dg n=37):=fun n h0 h1=>by have h2:=Ss h0 h1;have h3:=MR ⟨k,by omega⟩ ⟨n.toNat,by omega⟩;simp only at h3;rw[show((n.toNat:Nat):Int)=n by omega]at h3;exact⟨by omega,by omega,fun hh=>by rw[h3]at hh;cases hh⟩
  have hyb':y=37\/y=dg (b / 16)\/y=dg (b % 16):=by simpa[pe]using hyb
  rcases hyb' with rfl | rfl | rfl
  ·exact⟨by omega,by omega,fun _=>rfl⟩
  ·exact key _ (by omega) (by omega)
  ·exact key _ (by omega) (by omega)
 ·rename_i hi;have hi':inS c k=false:=by simpa using hi
  have h2:=lA hk hi';rw[bR (by omega)]at hyc;simp at hyc;subst hyc;exact⟨h2.1,h2.2,fun hh=>by rw[hi']at hh;cases hh⟩
theorem jh(s:ByteArray):∀ c∈U.dec (U.bn s),U.ab c=true:=List.all_eq_true.1 (U.bJ (U.bn s).length (U.bn s) (le_refl _) (U.ay s))
theorem Hu{k:Nat}{l:List Int}(h:∀ c∈l,U.ab c=true):U.Bytes (en k l):=by
 by_cases hk:k<=6
 ·intro y hy;have:=kJ hk h y hy;omega
 ·intro y hy;obtain⟨c,hc,hyc⟩:=List.mem_flatMap.1 hy;have hb:=aN (h c hc);unfold tok at hyc;rw[ve (by omega),if_neg (by decide)]at hyc;exact U.cR c hb.1 hb.2 y hyc
end E
namespace F
theorem hid{p:Prop}(h:p):Hid p:=h
def bn(s:ByteArray):List Int:=s.data.toList.map fun c=>(c.toNat:Int)
theorem aa(s:ByteArray):(bn s).length=s.size:=by simp[bn]
theorem aD(a b:ByteArray):bn (a++b)=bn a++bn b:=by unfold bn;rw[<-map_append];congr 1
theorem ak{s t:ByteArray}(h:bn s=bn t):s=t:=by
 unfold bn at h
 have h2:s.data.toList=t.data.toList:=by
  have:∀(a b:List UInt8),a.map (fun c=>(c.toNat:Int))=b.map (fun c=>(c.toNat:Int))->a=b:=by
   intro a
   induction a with
   | nil=>intro b hb;cases b with
    | nil=>rfl
    | cons _ _=>simp at hb
   | cons x a ih=>intro b hb;cases b with
    | nil=>simp at hb
    | cons y b =>
     simp only[map_cons,List.cons.injEq]at hb;have hxy:x=y:=UInt8.toNat_inj.1 (by have:=hb.1;omega);rw[ih b hb.2,hxy]
  exact this _ _ h
 cases s;cases t;congr 1;exact Array.toList_inj.1 h2
theorem bz(s:ByteArray)(i:Nat)(h:i<s.size):(bn s)[i]?.getD 0=((s[i].toNat:Nat):Int):=by
 unfold bn;rw[getElem?_map];have hl:i<s.data.toList.length:=by simpa using h
 rw[getElem?_eq_getElem hl];rfl
theorem cj{s:ByteArray}{i:Nat}(h:i<s.size):0<=(bn s)[i]?.getD 0/\(bn s)[i]?.getD 0<=255:=by rw[bz s i h];have:=s[i].toNat_lt;omega
theorem gC(t s:ByteArray):(t.toList==s.toList)=decide (bn t=bn s):=by
 rw[Bool.eq_iff_iff,beq_iff_eq,decide_eq_true_eq,toList_eq,toList_eq];constructor
 ·intro h;unfold bn;rw[h]
 ·intro h;rw[ak h]
theorem ar(s:ByteArray)(k:Nat):bn (s.extract k s.size)=(bn s).drop k:=by unfold bn;rw[Lib.extract_to_end,List.map_drop]
theorem aq(s:ByteArray)(h:0<s.size):s.toList.isEmpty=false:=by
 cases he:s.toList.isEmpty with
 | false=>rfl
 | true =>
  rw[isEmpty_iff,toList_eq]at he;have h4:s.data.toList.length=0:=by rw[he];rfl
  rw[Array.length_toList]at h4;have h3:s.data.size=s.size:=rfl;omega
theorem az(s:ByteArray)(h:s.size=0):s.toList.isEmpty=true:=by rw[toList_eq,isEmpty_iff];exact List.length_eq_zero_iff.1 (by simpa using h)
theorem take_one(L:List Int)(k:Nat)(h:k<L.length):L.take (k+1)=L.take k++[L[k]?.getD 0]:=by rw[List.take_succ_eq_append_getElem h,getElem?_eq_getElem h];rfl
def hx(c:Int):Int:=if 48<=c/\c<=57 then c - 48 else if 97<=c/\c<=102 then c - 87 else if 65<=c/\c<=70 then c - 55 else -1
theorem iI(c:Int):-1<=hx c/\hx c<=15:=by unfold hx;(repeat' split) <;> omega
def isX(l:List Int):Bool:=decide (2<=l.length/\l[0]?.getD 0=48/\(l[1]?.getD 0=120\/l[1]?.getD 0=88))
def isO(l:List Int):Bool:=decide (2<=l.length/\l[0]?.getD 0=48)
def base(l:List Int):Nat:=if isX l=true then 16 else if isO l=true then 8 else 10
def rest(l:List Int):List Int:=if isX l=true then l.drop 2 else if isO l=true then l.drop 1 else l
def lB(b:Nat)(c:Int):Bool:=decide (0<=hx c/\hx c<b)
def ok(b:Nat)(l:List Int):Bool:=l.all (lB b)
def vl(b:Nat)(l:List Int):Nat:=l.foldl (fun n c=>n * b+(hx c).toNat) 0
theorem mi(b:Nat)(l:List Int)(c:Int):vl b (l++[c])=vl b l * b+(hx c).toNat:=by unfold vl;rw[List.foldl_append];rfl
theorem zp(b:Nat)(l:List Int)(c:Int):ok b (l++[c])=(ok b l&&lB b c):=by unfold ok;rw[all_append];simp
def cap(b:Nat)(l:List Int):Nat:=min (vl b l) 4294967296
theorem Iy{b:Nat}(hb:1<=b)(l:List Int)(c:Int):cap b (l++[c])=min (cap b l * b+(hx c).toNat) 4294967296:=by
 unfold cap;rw[mi];by_cases h:vl b l<=4294967296
 ·rw[Nat.min_eq_left h]
 ·have h1:4294967296<=4294967296 * b:=Nat.le_mul_of_pos_right _ hb;have h2:4294967296 * b<=vl b l * b:=Nat.mul_le_mul_right _ (by omega);rw[Nat.min_eq_right (by omega:4294967296<=vl b l)];omega
def num(l:List Int):Nat×Int :=
 if l=[] then (0,8) else if ok (base l) (rest l)=false then (0,8) else if 4294967296<=vl (base l) (rest l) then (0,4) else (vl (base l) (rest l),0)
theorem IL(l:List Int):1<=base l:=by unfold base;(repeat' split) <;> omega
theorem vZ(b:Nat)(l:List Int):4294967296<=cap b l↔4294967296<=vl b l:=by unfold cap;omega
theorem QE{b:Nat}{l:List Int}(h:¬ 4294967296<=vl b l):cap b l=vl b l:=by unfold cap;omega
def dg(n:Nat):Int:=if n<10 then 48+n else 87+n
def wrF(b:Nat):Nat->Nat->List Int
 | 0,n=>[dg (n % b)]
 | f+1,n=>if n<b then [dg n] else wrF b f (n / b)++[dg (n % b)]
def wr(b n:Nat):List Int:=wrF b 64 n
def wrt(k n:Nat):List Int:=if k=0 then 48::120::wr 16 n else if k=1 then 48::wr 8 n else wr 10 n
theorem jY(b:Nat):∀ f n,(wrF b f n).length<=f+1
 | 0,n=>by simp[wrF]
 | f+1,n=>by
  rw[wrF];split
  ·simp
  ·have:=jY b f (n / b);simp;omega
theorem rl(b n:Nat):(wr b n).length<=65:=jY b 64 n
theorem cw{k:IntKind}{a b:Int}(h:a=b):Ending.returned (.int k a)=.returned (.int k b):=by rw[h]
def tail(s:ByteArray):ByteArray:=if isX (bn s)=true then s.extract 2 s.size else if isO (bn s)=true then s.extract 1 s.size else s
theorem JM(s:ByteArray):bn (tail s)=rest (bn s):=by
 unfold tail rest;split
 ·exact ar s 2
 ·split
  ·exact ar s 1
  ·rfl
theorem AD(s:ByteArray):(tail s).size<=s.size:=by
 unfold tail;split
 ·simp
 ·split
  ·simp
  ·exact le_refl _
def jW(l:List Int)(e:Ending):Prop:=e=.returned (.tuple #[.int .u64 ((num l).1:Nat),.int .i64 (num l).2])
theorem Lm{l:List Int}(hl:l≠[])(h:ok (base l) (rest l)=false):num l=(0,8):=by unfold num;rw[if_neg hl,if_pos h]
theorem Ll{l:List Int}(hl:l≠[])(h:ok (base l) (rest l)=true):num l=if 4294967296<=cap (base l) (rest l) then (0,4) else (cap (base l) (rest l),0):=by
 unfold num;rw[if_neg hl,h,if_neg (by simp)];by_cases h2:4294967296<=vl (base l) (rest l)
 ·rw[if_pos h2,if_pos ((vZ _ _).2 h2)]
 ·rw[if_neg h2,if_neg (fun h=>h2 ((vZ _ _).1 h)),QE h2]
theorem uo{b:Nat}{l:List Int}{k:Nat}(hk:k<l.length)(h:lB b (l[k]?.getD 0)=false):ok b l=false:=by rw[Bool.eq_false_iff];intro hh;have:=List.all_eq_true.1 hh l[k] (List.getElem_mem hk);rw[getElem?_eq_getElem hk]at h;rw[show l[k]=(some l[k]).getD 0 from rfl,h]at this;cases this
def spl:List Int->List (List Int)
 | []=>[[]]
 | c::l=>if c=46 then []::spl l else (c::(spl l).headD [])::(spl l).tail
theorem bF:∀ l,spl l≠[]
 | []=>by simp[spl]
 | c::l=>by rw[spl];split <;> simp
theorem head_tail{l:List (List Int)}(h:l≠[]):l.headD []::l.tail=l:=by
 cases l with
 | nil=>exact absurd rfl h
 | cons a t=>rfl
theorem mo(l:List Int):spl (46::l)=[]::spl l:=by rw[spl,if_pos rfl]
theorem fW:∀(p l:List Int),¬ 46∈p->spl (p++46::l)=p::spl l
 | [],l,_=>mo l
 | c::p,l,h=>by have hc:c≠46:=fun e=>h (by simp[e]);have ih:=fW p l (fun hh=>h (by simp[hh]));show spl (c::(p++46::l))=_;rw[spl,if_neg hc,ih];rfl
theorem cu:∀(p:List Int),¬ 46∈p->spl p=[p]
 | [],_=>rfl
 | c::p,h=>by have hc:c≠46:=fun e=>h (by simp[e]);rw[spl,if_neg hc,cu p (fun hh=>h (by simp[hh]))];rfl
def join:List (List Int)->List Int
 | []=>[]
 | [p]=>p
 | p::q::r=>p++46::join (q::r)
def prt(l:List Int):List (List Int):=if 1<(spl l).length/\(spl l).getLast? = some [] then (spl l).dropLast else spl l
def lg(t:Nat):List (Nat×Int)->Bool
 | []=>false
 | [x]=>decide (x.2=4)||decide (256 ^ (5 - t)<=x.1)
 | x::y::r=>decide (x.2=4)||decide (255<x.1)||lg t (y::r)
def sm:Nat->List (Nat×Int)->Nat
 | _,[]=>0
 | _,[x]=>x.1
 | i,x::y::r=>x.1 * 256 ^ (3 - i)+sm (i+1) (y::r)
def adr(ps:List (List Int)):Nat×Int :=
 if 4<ps.length then (0,8) else if (ps.map num).any (fun x=>decide (x.2=8))=true then (0,8) else if lg ps.length (ps.map num)=true then (0,4) else (sm 0 (ps.map num),0)
def prs(l:List Int):Nat×Int:=adr (prt l)
def ten(c:Int):Bool:=decide (48<=c/\c<=57)
def sD(p:List Int):Bool:=(decide (p≠[])&&p.all ten)||(isX p&&decide ((num p).2≠8))
def ends(l:List Int):Bool:=sD ((prt l).getLast?.getD [])
def ij(vs:List (Nat×Nat)):List (List Int):=vs.map fun v=>wrt v.1 v.2
def cut(a n:Nat):List Nat:=match n with
 | 1=>[a]
 | 2=>[a / 16777216,a % 16777216]
 | 3=>[a / 16777216,a / 65536 % 256,a % 65536]
 | _=>[a / 16777216,a / 65536 % 256,a / 256 % 256,a % 256]
theorem yq(s:ByteArray)(i j:Nat)(hij:i<=j)(hj:j<=s.size):bn (s.extract i j)=((bn s).drop i).take (j - i):=by unfold bn;rw[ByteArray.data_extract,Array.toList_extract,List.extract_eq_take_drop,List.map_take,List.map_drop]
theorem oh(w:World)(t:TypeId)(l:List Value):∀(j:Nat) (u:Value),l[j]? = some u->(w.alloc (.cells l.toArray t)).cell? ((⟨w.heap.size,0,none⟩:Addr).add j)=some u:=by
 intro j u h;have hb:(w.alloc (.cells l.toArray t)).heap[w.heap.size]? = some (.cells l.toArray t):=heap_alloc_new w _;generalize w.alloc (.cells l.toArray t)=W at hb ⊢;have e:(⟨w.heap.size,0,none⟩:Addr).add j=⟨w.heap.size,j,none⟩:=by unfold Addr.add;split <;> simp_all
 rw[e];simp[World.cell?,hb,h]
theorem below_grow{B:Nat}{w w1 w2:World}{e:TypeId}{size:Nat}{v:Value}{n:Nat}{xs:List Value}(hB:Below B w w1)(hb:B<=w1.heap.size)(hown:w1.ownsRow B e size v n xs)(hg:w1.grownBy w2 v.ownBlock):Below B w w2 :=
 hB.grown hg hb (fun j ej=>by
   rcases hown.2 with⟨rfl,_⟩ | ⟨g,cap,cur,rfl,hbg,_,_⟩
   · simp[Value.ownBlock]at ej
   · obtain rfl:g=j:=by simpa[Value.ownBlock]using ej
     exact hbg)
def grt(t:Nat):List Nat->Bool
 | []=>false
 | [x]=>decide (256 ^ (5 - t)<=x)
 | x::y::r=>decide (255<x)||grt t (y::r)
def tw(ns:List Nat):List (Nat×Nat):=ns.map fun n=>(2,n)
def smN:Nat->List Nat->Nat
 | _,[]=>0
 | _,[x]=>x
 | i,x::y::r=>x * 256 ^ (3 - i)+smN (i+1) (y::r)
end F
end Go.Proofs.YtlmflmdmolcfhaaGreatDoor
namespace Go.Proofs
open Go.Shelf Go.RowKit
shelf_lay LaysM.n171 Nm 171 at Tryz as Tryz.laysItoa
end Go.Proofs
namespace Go.Proofs.YtlmflmdmolcfhaaGreatDoor
open Tryz Go.RowKit
namespace F
def Pow(w:World):Prop:=(match (w.heap[2]? : Option Obj) with | some (Obj.cells cs _ _)=>some cs | _=>none)=some (Lib.pow10Tab.map fun z=>Value.int .u64 z).toArray
theorem Pow.below{w w':World}(h:Pow w){B:Nat}(hB:2<B)(hb:Below B w w'):Pow w':=by unfold Pow at *;rw[hb.block _ hB];exact h
theorem Pow.size{w:World}(h:Pow w):2<w.heap.size:=by
 unfold Pow at h;rcases Nat.lt_or_ge 2 w.heap.size with hb | hb
 ·exact hb
 ·rw[Array.getElem?_eq_none hb]at h;cases h
theorem yk:∀ n:Fin 256,((Lib.decDigits n.val).map fun b=>(b.toNat:Int))=wr 10 n.val:=by decide +kernel
theorem xU(w:World)(k:Nat)(os:Array Obj):Below w.heap.size w (Sort.grow (w.drewN k) os):=by
 refine⟨rfl,rfl,rfl,?_,fun j hj=>?_⟩
 ·show w.heap.size<=(w.heap++os).size;simp
 ·show(w.heap++os)[j]? = _;rw[Array.getElem?_append_left hj]
def byt(a k:Nat):Nat:=a / 256 ^ (3 - k) % 256
def txt(a:Nat):List Int:=join (ij (tw (cut a 4)))
def pz(a:Nat)(w:World)(e:Ending)(W':World):Prop:=(∃ t,e=.returned (.string t)/\bn t=txt a)/\Below w.heap.size w W'
theorem mn:∀(l p:List Int),p∈spl l->p.length<=l.length
 | [],p,h=>by simp[spl]at h;simp[h]
 | c::l,p,h=>by
  have ht:=head_tail (bF l)
  have mem:∀ q,q∈(spl l).tail\/q=(spl l).headD []->q∈spl l:=fun q hq=>by
   rw[<-ht];rcases hq with hq | hq
   ·exact List.mem_cons_of_mem _ hq
   ·rw[hq];exact List.mem_cons_self
  rw[spl]at h;split at h
  ·rcases List.mem_cons.1 h with rfl | h
   ·simp
   ·have:=mn l p h;simp;omega
  ·rcases List.mem_cons.1 h with rfl | h
   ·have:=mn l _ (mem _ (.inr rfl));simp at this ⊢;omega
   ·have:=mn l p (mem p (.inl h));simp;omega
theorem Kz{l p:List Int}(h:p∈prt l):p∈spl l:=by
 unfold prt at h;split at h
 ·exact(List.dropLast_subset _) h
 ·exact h
theorem yP:∀(l:List Int),(spl l).length<=l.length+1
 | []=>by simp[spl]
 | c::l=>by
  have ih:=yP l;have ht:=congrArg List.length (head_tail (bF l));rw[length_cons]at ht;rw[spl];split
  ·simp;omega
  ·simp only[length_cons];omega
theorem gI{s q:ByteArray}{qs:List ByteArray}(h:qs.map bn=prt (bn s))(hq:q∈qs):q.size<=s.size:=by
 have h1:bn q∈prt (bn s):=by rw[<-h];exact List.mem_map.2 ⟨q,hq,rfl⟩
 have h2:=mn _ _ (Kz h1)
 rwa [aa,aa]at h2
def IZ(xs:List (Nat×Int)):Bool:=xs.any (fun x=>decide (x.2=4))
def IY(xs:List (Nat×Int)):Bool:=xs.any (fun x=>decide (x.2=8))
theorem oq(t:Nat):∀ xs:List (Nat×Int),lg t xs=(IZ xs||grt t (xs.map (·.1)))
 | []=>rfl
 | [x]=>by simp[lg,IZ,grt]
 | x::y::r=>by have ih:=oq t (y::r);have e1:lg t (x::y::r)=(decide (x.2=4)||decide (255<x.1)||lg t (y::r)):=rfl;have e2:IZ (x::y::r)=(decide (x.2=4)||IZ (y::r)):=rfl;have e3:grt t ((x::y::r).map (·.1))=(decide (255<x.1)||grt t ((y::r).map (·.1))):=rfl;rw[e1,ih,e2,e3];cases decide (x.2=4) <;> cases decide (255<x.1) <;> cases IZ (y::r) <;> rfl
theorem wX:∀(xs:List (Nat×Int)) (i:Nat),sm i xs=smN i (xs.map (·.1))
 | [],i=>rfl
 | [x],i=>rfl
 | x::y::r,i=>by have ih:=wX (y::r) (i+1);show x.1 * 256 ^ (3 - i)+sm (i+1) (y::r)=x.1 * 256 ^ (3 - i)+smN (i+1) ((y::r).map (·.1));rw[ih]
theorem IW{p:Nat×Int->Bool}(xs:List (Nat×Int))(k:Nat)(hk:k<xs.length):(xs.take (k+1)).any p=((xs.take k).any p||p (xs[k]?.getD (0,0))):=by rw[List.take_succ_eq_append_getElem hk,List.any_append,getElem?_eq_getElem hk];simp
theorem PC(l:List Int):(num l).1<4294967296:=by unfold num;(repeat' split) <;> simp_all <;> omega
theorem qd{ns:List Nat}(h1:1<=ns.length)(h4:ns.length<=4)(h:grt ns.length ns=false):smN 0 ns<4294967296:=by
 match ns,h1,h4,h with
 | [a],_,_,h=>have:=of_decide_eq_false h;simp at this;show a<_;omega
 | [a,b],_,_,h =>
  simp[grt]at h;show a * 256 ^ 3+b<_;omega
 | [a,b,c],_,_,h =>
  simp[grt]at h;show a * 256 ^ 3+(b * 256 ^ 2+c)<_;omega
 | [a,b,c,d],_,_,h =>
  simp[grt]at h;show a * 256 ^ 3+(b * 256 ^ 2+(c * 256 ^ 1+d))<_;omega
theorem mz{w:World}{p:Addr}{v:Value}(h:w.cell? p=some v):p.block<w.heap.size:=by
 rcases Nat.lt_or_ge p.block w.heap.size with hb | hb
 ·exact hb
 ·simp[World.cell?,Array.getElem?_eq_none hb]at h
def kW(l:List Int)(w:World)(e:Ending)(W':World):Prop:=e=.returned (.tuple #[.int .u32 ((prs l).1:Nat),.int .i64 (prs l).2])/\Below w.heap.size w W'
end F
namespace X
open F (hx vl)
def spB(b:Int):List Int->List (List Int)
 | []=>[[]]
 | c::l=>if c=b then []::spB b l else (c::(spB b l).headD [])::(spB b l).tail
def aB(b:Int):List (List Int)->List Int
 | []=>[]
 | [p]=>p
 | p::q::r=>p++b::aB b (q::r)
theorem nA(b:Int):∀(p l:List Int),¬ b∈p->spB b (p++b::l)=p::spB b l
 | [],l,_=>by show spB b (b::l)=_;rw[spB,if_pos rfl]
 | c::p,l,h=>by have hc:c≠b:=fun e=>h (by simp[e]);have ih:=nA b p l (fun hh=>h (by simp[hh]));show spB b (c::(p++b::l))=_;rw[spB,if_neg hc,ih];rfl
theorem fK(b:Int):∀(p:List Int),¬ b∈p->spB b p=[p]
 | [],_=>rfl
 | c::p,h=>by have hc:c≠b:=fun e=>h (by simp[e]);rw[spB,if_neg hc,fK b p (fun hh=>h (by simp[hh]))];rfl
def ten(c:Int):Bool:=decide (48<=c/\c<=57)
def hxd(c:Int):Bool:=decide (0<=hx c)
def pc(p:List Int):Option Nat:=if 1<=p.length/\p.length<=4/\p.all hxd=true then some (vl 16 p) else none
def dn(p:List Int):Option Nat:=if 1<=p.length/\p.length<=3/\¬ (1<p.length/\p[0]?.getD 0=48)/\p.all ten=true/\vl 10 p<=255 then some (vl 10 p) else none
def ma:List (Option Nat)->Option (List Nat)
 | [some a,some b,some c,some d]=>some [a * 256+b,c * 256+d]
 | _=>none
def dt(p:List Int):Option (List Nat):=ma ((spB 46 p).map dn)
def lst(last:Bool)(p:List Int):Option (List Nat):=if last=true then (match dt p with | some l=>some l | none=>(pc p).map (fun v=>[v])) else (pc p).map (fun v=>[v])
def put(v:Option Nat)(l:Option (List Nat)):Option (List Nat):=match v,l with
 | some v,some l=>some (v::l)
 | _,_=>none
def pcs(last:Bool):List (List Int)->Option (List Nat)
 | []=>some []
 | [p]=>lst last p
 | p::q::r=>put (pc p) (pcs last (q::r))
def pieces(last:Bool)(s:List Int):Option (List Nat):=if s=[] then some [] else pcs last (spB 58 s)
def cc:List Int->Nat
 | a::b::t=>(if a=58/\b=58 then 1 else 0)+cc (b::t)
 | _=>0
def cp:List Int->Nat
 | a::b::t=>if a=58/\b=58 then 0 else cp (b::t)+1
 | _=>0
def full(l:Option (List Nat)):Option (List Nat):=match l with
 | some l=>if l.length=8 then some l else none
 | none=>none
def both(f b:Option (List Nat)):Option (List Nat):=match f,b with
 | some f,some b=>if f.length+b.length<=7 then some (f++List.replicate (8 - b.length - f.length) 0++b) else none
 | _,_=>none
def prs(s:List Int):Option (List Nat) :=
 if cc s=0 then full (pieces true s) else if cc s=1 then both (pieces false (s.take (cp s))) (pieces true (s.drop (cp s+2))) else none
theorem Hb{l:Option (List Nat)}{v:List Nat}(h:full l=some v):v.length=8:=by
 cases l with
 | none=>cases h
 | some l =>
  unfold full at h;simp only at h;split at h
  ·cases h;assumption
  ·cases h
theorem IF{f b:Option (List Nat)}{v:List Nat}(h:both f b=some v):v.length=8:=by
 cases f with
 | none=>cases h
 | some f =>
  cases b with
  | none=>cases h
  | some b =>
   unfold both at h;simp only at h;split at h
   ·cases h;simp;omega
   ·cases h
theorem rS{s:List Int}{v:List Nat}(h:prs s=some v):v.length=8:=by
 unfold prs at h;split at h
 ·exact Hb h
 ·split at h
  ·exact IF h
  ·cases h
theorem cn(a b:Int)(t:List Int):cc (a::b::t)=(if a=58/\b=58 then 1 else 0)+cc (b::t):=rfl
theorem jj:∀(p:List Int),¬ 58∈p->cc p=0
 | [],_=>rfl
 | [a],_=>rfl
 | a::b::t,h=>by rw[cn,if_neg (fun hh=>h (by simp[hh.1])),jj (b::t) (fun hh=>h (by simp at hh ⊢;right;exact hh))]
theorem ff:∀(A B:List Int),cc (A++B)=cc A+cc B+(if A.getLast? = some 58/\B.head? = some 58 then 1 else 0)
 | [],B=>by simp[cc]
 | [a],[]=>by simp[cc]
 | [a],b::t=>by
  show cc (a::b::t)=_;rw[cn];have e:cc [a]=0:=rfl;rw[e];by_cases h:a=58/\b=58
  ·rw[if_pos h,if_pos (by simp[h.1,h.2])];omega
  ·rw[if_neg h,if_neg (by simpa using h)];omega
 | a::a'::A,B=>by
  have ih:=ff (a'::A) B;show cc (a::a'::(A++B))=_;rw[cn,cn];have e:cc (a'::(A++B))=cc (a'::A++B):=rfl;rw[e,ih];have g:(a::a'::A).getLast? = (a'::A).getLast? := by simp
  rw[g];omega
def Txt(p:List Int):Prop:=p≠[]/\¬ 58∈p
theorem sk{p:List Int}(h:Txt p):p.getLast? ≠ some 58:=fun e=>h.2 (List.mem_of_getLast? e)
theorem head_ne{p:List Int}(h:Txt p):p.head? ≠ some 58:=fun e=>h.2 (List.mem_of_mem_head? e)
theorem zX:∀(A B:List Int),cc (A++[58])=0->cp (A++58::58::B)=A.length
 | [],B,_=>by show cp (58::58::B)=0;rw[cp,if_pos ⟨rfl,rfl⟩]
 | [a],B,h=>by
  have h':cc [a,58]=0:=h;rw[cn]at h';have ha:¬ (a=58/\(58:Int)=58):=fun hh=>by rw[if_pos hh]at h';omega
  show cp (a::58::58::B)=1;rw[cp,if_neg ha,cp,if_pos ⟨rfl,rfl⟩]
 | a::a'::A,B,h=>by
  have h':cc (a::a'::(A++[58]))=0:=h;rw[cn]at h';have ha:¬ (a=58/\a'=58):=fun hh=>by rw[if_pos hh]at h';omega
  have h2:cc (a'::A++[58])=0:=by rw[if_neg ha,zero_add]at h';exact h'
  have ih:=zX (a'::A) B h2;show cp (a::a'::(A++58::58::B))=_;rw[cp,if_neg ha];have e:cp (a'::(A++58::58::B))=(a'::A).length:=ih;rw[e];rfl
open F (hx)
def dgs(n:Nat):List Nat:=if n<16 then [n] else if n<256 then [n / 16,n % 16] else if n<4096 then [n / 256,n / 16 % 16,n % 16] else [n / 4096,n / 256 % 16,n / 16 % 16,n % 16]
def pad(n:Nat):List Nat:=[n / 4096 % 16,n / 256 % 16,n / 16 % 16,n % 16]
def dgc(cap:Bool)(d:Nat):Int:=if d<10 then 48+d else if cap=true then 55+d else 87+d
def aU(cap nts:Bool)(n:Nat):List Int:=(if nts=true then pad n else dgs n).map (dgc cap)
theorem GD{cap:Bool}{d:Nat}(h:d<16):hx (dgc cap d)=d:=by unfold hx dgc;cases cap <;> (repeat' split) <;> first | omega | simp_all
theorem Qv{cap:Bool}{d:Nat}(h:d<16):(48<=dgc cap d/\dgc cap d<=57)\/(65<=dgc cap d/\dgc cap d<=102):=by unfold dgc;cases cap <;> (repeat' split) <;> first | omega | simp_all
theorem yi{n:Nat}(h:n<65536):∀ d∈dgs n,d<16:=by
 unfold dgs;intro d hd
 (repeat' split at hd) <;> simp at hd <;> omega
theorem Fj(n:Nat):∀ d∈pad n,d<16:=by unfold pad;intro d hd;simp at hd;omega
theorem sH(n:Nat):1<=(dgs n).length/\(dgs n).length<=4:=by unfold dgs;(repeat' split) <;> simp
def v16(l:List Nat):Nat:=l.foldl (fun n d=>n * 16+d) 0
theorem CW{cap:Bool}:∀(l:List Nat) (x:Nat),(∀ d∈l,d<16)->(l.map (dgc cap)).foldl (fun n c=>n * 16+(hx c).toNat) x=l.foldl (fun n d=>n * 16+d) x
 | [],_,_=>rfl
 | d::l,x,h=>by rw[map_cons,List.foldl_cons,List.foldl_cons,GD (h d (by simp)),Int.toNat_natCast];exact CW l _ (fun y hy=>h y (by simp[hy]))
theorem Sp{n:Nat}(h:n<65536):v16 (dgs n)=n:=by unfold v16 dgs;(repeat' split) <;> simp <;> omega
theorem RN{n:Nat}(h:n<65536):v16 (pad n)=n:=by unfold v16 pad;simp;omega
theorem Fb{cap:Bool}{l:List Nat}(h1:1<=l.length)(h4:l.length<=4)(hb:∀ d∈l,d<16):pc (l.map (dgc cap))=some (v16 l):=by
 unfold pc;rw[if_pos]
 ·congr 1;exact CW l 0 hb
 ·refine⟨by simpa using h1,by simpa using h4,?_⟩;rw[List.all_eq_true];intro c hc;obtain⟨d,hd,rfl⟩:=List.mem_map.1 hc;unfold hxd;rw[GD (hb d hd)];exact decide_eq_true (by omega)
theorem mD{cap nts:Bool}{n:Nat}(h:n<65536):pc (aU cap nts n)=some n:=by
 unfold aU;split
 ·rw[Fb (by simp[pad]) (by simp[pad]) (Fj n),RN h]
 ·rw[Fb (sH n).1 (sH n).2 (yi h),Sp h]
theorem oF{cap nts:Bool}{n:Nat}(h:n<65536){c:Int}(hc:c∈aU cap nts n):(48<=c/\c<=57)\/(65<=c/\c<=102):=by
 unfold aU at hc;obtain⟨d,hd,rfl⟩:=List.mem_map.1 hc;refine Qv ?_;split at hd
 ·exact Fj n d hd
 ·exact yi h d hd
theorem gm(cap nts:Bool)(n:Nat):1<=(aU cap nts n).length/\(aU cap nts n).length<=4:=by
 unfold aU;split
 ·simp[pad]
 ·rw[length_map];exact sH n
theorem oE{cap nts:Bool}{n:Nat}(h:n<65536):Txt (aU cap nts n):=by
 refine⟨fun e=>?_,fun hm=>?_⟩
 ·have:=(gm cap nts n).1;rw[e]at this;simp at this
 ·have:=oF h hm;omega
theorem qD:∀(ps:List (List Int)) (p:List Int),aB 58 (ps++[p])=aB 58 ps++(if ps=[] then [] else [58])++p
 | [],p=>rfl
 | [q],p=>by simp[aB]
 | q::q'::r,p=>by have ih:=qD (q'::r) p;have e:aB 58 (q::q'::r++[p])=q++58::aB 58 (q'::r++[p]):=rfl;have f:aB 58 (q::q'::r)=q++58::aB 58 (q'::r):=rfl;rw[e,ih,f,if_neg (by simp),if_neg (by simp)];simp
def gp(ps:List (List Int))(i k m:Nat):List Int:=aB 58 (ps.take (min m i))++(if i<m then 58::58::aB 58 ((ps.take m).drop k) else [])
theorem Qg{ps:List (List Int)}{i k m:Nat}(him:i<m)(hm:ps.length<=m):gp ps i k m=aB 58 (ps.take i)++58::58::aB 58 (ps.drop k):=by unfold gp;rw[Nat.min_eq_right (by omega),if_pos him,List.take_of_length_le hm]
def Small(a:List Nat):Prop:=∀ v∈a,v<65536
def zr(a:List Nat)(i:Nat):Nat:=((a.drop i).takeWhile (fun v=>decide (v=0))).length
def nv(a:List Nat)(i:Nat):Nat:=a[i]?.getD 1
theorem my(a:List Nat)(i j:Nat):nv (a.drop i) j=nv a (i+j):=by unfold nv;rw[List.getElem?_drop]
theorem yH:∀(l:List Nat) (j:Nat),j<(l.takeWhile (fun v=>decide (v=0))).length->nv l j=0
 | [],j,h=>by simp at h
 | v::l,j,h=>by
  by_cases hv:v=0
  ·rw[List.takeWhile_cons_of_pos (by simpa using hv),length_cons]at h;cases j with
   | zero=>simpa[nv]using hv
   | succ j=>simpa[nv]using yH l j (by omega)
  ·rw[List.takeWhile_cons_of_neg (by simpa using hv)]at h;simp at h
theorem yC{a:List Nat}{i j:Nat}(h:j<zr a i):nv a (i+j)=0:=by rw[<-my];exact yH _ j h
theorem yD(a:List Nat)(i:Nat):zr a i<=a.length - i:=by
 unfold zr;have:=(List.takeWhile_prefix (fun v=>decide (v=0)) (l:=a.drop i)).length_le
 rwa [length_drop]at this
theorem Ol{a:List Nat}{i:Nat}(h0:nv a i=0)(h1:nv a (i+1)=0):2<=zr a i:=by
 have e:∀ l:List Nat,nv l 0=0->nv l 1=0->2<=(l.takeWhile (fun v=>decide (v=0))).length:=fun l a0 a1=>by
  match l,a0,a1 with
  | [],a0,_=>simp[nv]at a0
  | [x],_,a1=>simp[nv]at a1
  | x::y::t,a0,a1 =>
   have hx:x=0:=by simpa[nv]using a0
   have hy:y=0:=by simpa[nv]using a1
   rw[List.takeWhile_cons_of_pos (by simpa using hx),List.takeWhile_cons_of_pos (by simpa using hy)];simp
 exact e (a.drop i) (by rw[my];exact h0) (by rw[my];exact h1)
def bs(a:List Nat):Nat->Int×Nat
 | 0=>(-1,1)
 | i+1=>if (bs a i).2<zr a i then ((i:Int),zr a i) else bs a i
theorem sV(a:List Nat):∀ i,((bs a i).1=-1/\(bs a i).2=1/\∀ j,j<i->zr a j<=1)\/(∃ p,p<i/\(bs a i).1=(p:Int)/\(bs a i).2=zr a p/\2<=zr a p)
 | 0=>.inl ⟨rfl,rfl,fun j h=>by omega⟩
 | i+1=>by
  have ih:=sV a i;rw[bs];by_cases h:(bs a i).2<zr a i
  ·rw[if_pos h];right;refine⟨i,by omega,rfl,rfl,?_⟩;rcases ih with⟨_,h2,_⟩ | ⟨p,_,_,h2,h3⟩ <;> omega
  ·rw[if_neg h];rcases ih with⟨h1,h2,h3⟩ | ⟨p,h0,h1,h2,h3⟩
   ·left;refine⟨h1,h2,fun j hj=>?_⟩;by_cases e:j=i
    ·rw[e];omega
    ·exact h3 j (by omega)
   ·right;exact⟨p,by omega,h1,h2,h3⟩
def txt(a:List Nat):List Int:=if (bs a 8).1<0 then aB 58 (a.map (aU false false)) else gp (a.map (aU false false)) (bs a 8).1.toNat ((bs a 8).1.toNat+(bs a 8).2) 8
theorem mj{a:List Nat}(hl:a.length=8):((bs a 8).1=-1/\txt a=aB 58 (a.map (aU false false))/\∀ i,i+1<8->¬ (nv a i=0/\nv a (i+1)=0)) \/
  (∃ p m:Nat,(bs a 8).1=(p:Int)/\(bs a 8).2=m/\2<=m/\p+m<=8/\(∀ j,p<=j->j<p+m->nv a j=0)/\txt a=aB 58 ((a.take p).map (aU false false))++58::58::aB 58 ((a.drop (p+m)).map (aU false false))):=by
 rcases sV a 8 with⟨h1,h2,h3⟩ | ⟨p,h0,h1,h2,h3⟩
 ·left;refine⟨h1,?_,fun i hi hz=>?_⟩
  ·unfold txt;rw[h1,if_pos (by decide)]
  ·have:=Ol hz.1 hz.2;have:=h3 i (by omega);omega
 ·right;have hle:=yD a p;refine⟨p,zr a p,h1,h2,h3,by omega,fun j hj hj2=>?_,?_⟩
  ·have:=yC (a:=a) (i:=p) (j:=j - p) (by omega)
   rwa [show p+(j - p)=j by omega]at this
  ·unfold txt;rw[h1,h2,if_neg (by omega),Int.toNat_natCast,Qg (by omega) (by simp[hl]),List.map_take,List.map_drop]
theorem cW:∀(a:List Nat),(aB 58 (a.map (aU false false))).length+1<=5 * a.length+1/\(0<a.length->2 * a.length<=(aB 58 (a.map (aU false false))).length+1/\(aB 58 (a.map (aU false false))).length+1<=5 * a.length)
 | []=>by simp[aB]
 | [v]=>by
  have:=gm false false v;show(aU false false v).length+1<=_/\(_->_<=(aU false false v).length+1/\(aU false false v).length+1<=_);simp only[length_cons,length_nil];omega
 | v::w::r=>by
  have h:=gm false false v;have ih:=(cW (w::r)).2 (by simp);have e:(aB 58 ((v::w::r).map (aU false false))).length=(aU false false v).length+((aB 58 ((w::r).map (aU false false))).length+1):=by show(aU false false v++58::aB 58 ((w::r).map (aU false false))).length=_;simp
  rw[e];simp only[length_cons]at ih ⊢;omega
theorem rm{a:List Nat}(hl:a.length=8):2<=(txt a).length/\(txt a).length<=39:=by
 rcases mj hl with⟨_,h,_⟩ | ⟨p,m,_,_,h2,h8,hz,h⟩
 ·rw[h];have:=(cW a).2 (by omega);omega
 ·rw[h];have f:=(cW (a.take p)).1;have b:=(cW (a.drop (p+m))).1;rw[List.length_take]at f;rw[length_drop]at b;simp only[length_append,length_cons];omega
end X
namespace H
def fb(c:Int):Bool:=[0,9,10,13,32,35,47,58,60,62,63,64,91,92,93,94,124].contains c
def fd(c:Int):Bool:=fb c||(decide (c<32)||(decide (c=37)||decide (c=127)))
def z8:List Nat:=[0,0,0,0,0,0,0,0]
abbrev Hst:=Nat×List Int×Nat×List Nat×Int
def non(e:Int):Hst:=(0,[],0,z8,e)
def six(s:List Int):Hst:=if 2<=s.length/\s.getLast? = some 93 then (match X.prs ((s.drop 1).dropLast) with | some a=>(3,[],0,a,0) | none=>non 70) else non 70
def opq(s:List Int):Hst:=if s.any fb=true then non 70 else if s=[] then non 0 else (4,E.en 0 (U.dec s),0,z8,0)
def dom(d:List Int)(r:Int):Hst:=if r≠0\/d=[]\/d.any fd=true then non 70 else if F.ends d=true then (if (F.prs d).2=0 then (2,[],(F.prs d).1,z8,0) else non 70) else (1,d,0,z8,0)
def HP(A:List Int->List Int->Int->Prop)(s:List Int)(sp:Bool)(h:Hst):Prop :=
 if 4096<s.length then h=non 4 else if s.head? = some 91 then h=six s else if sp=false then h=opq s else ∃ d r,A (E.de s) d r/\h=dom d r
def txt(h:Hst):List Int:=if h.1=1\/h.1=4 then h.2.1 else if h.1=2 then F.txt h.2.2.1 else if h.1=3 then 91::(X.txt h.2.2.2.1++[93]) else []
structure Asc(A:List Int->List Int->Int->Prop):Prop where
 one:∀ {s t u:List Int} {r q:Int},A s t r->A s u q->t=u/\r=q
 rest:∀ {s t:List Int},A s t 0->A t t 0
 low:∀ {s t:List Int},A s t 0->∀ c∈t,0<=c/\c<128
 num:∀ {t:List Int},(∀ c∈t,97<=c/\c<=122\/48<=c/\c<=57\/c=46)->A t t 0
 cap:A [69,88,65,77,80,76,69,46,99,111,109] [101,120,97,109,112,108,101,46,99,111,109] 0
 len:∀ {s t:List Int},A s t 0->U.Bytes s->s.length<=4096->t.length<=200000000
 bln:∀ {d:List Int} {r:Int},A [97,32,98] d r->r≠0\/d=[]\/d.any fd=true
theorem Df{a:Nat}(ha:a<4294967296):(F.txt a).length<=300:=by have h:F.txt a=F.wr 10 (a / 16777216)++46::(F.wr 10 (a / 65536 % 256)++46::(F.wr 10 (a / 256 % 256)++46::F.wr 10 (a % 256))):=rfl;have h1:=F.rl 10 (a / 16777216);have h2:=F.rl 10 (a / 65536 % 256);have h3:=F.rl 10 (a / 256 % 256);have h4:=F.rl 10 (a % 256);rw[h];simp only[length_append,length_cons];omega
theorem EC(l:List Int)(h:(F.prs l).2=0):(F.prs l).1<4294967296:=by
 unfold F.prs F.adr at h ⊢;split at h
 ·cases h
 ·rename_i h4;rw[if_neg h4];split at h
  ·cases h
  ·rename_i h8;rw[if_neg h8];split at h
   ·cases h
   ·rename_i hg;rw[if_neg hg];rw[F.oq,Bool.not_eq_true,Bool.or_eq_false_iff]at hg;show F.sm 0 _<_;rw[F.wX]
    have hp:0<(F.prt l).length:=by
     unfold F.prt;have h1:=List.length_pos_iff.2 (F.bF l);split
     ·rw[List.length_dropLast];omega
     ·exact h1
    refine F.qd (by rw[length_map,length_map];exact hp) (by rw[length_map,length_map];omega) ?_;rw[length_map,length_map];exact hg.2
end H
namespace E
theorem bz(s:ByteArray)(i:Nat)(h:i<s.size):(U.bn s)[i]?.getD 0=((s[i].toNat:Nat):Int):=by
 unfold U.bn;rw[getElem?_map];have hl:i<s.data.toList.length:=by simpa using h
 rw[getElem?_eq_getElem hl];rfl
theorem cj{s:ByteArray}{i:Nat}(h:i<s.size):0<=(U.bn s)[i]?.getD 0/\(U.bn s)[i]?.getD 0<=255:=by rw[bz s i h];have:=s[i].toNat_lt;omega
def Jj(k:Nat)(L:List Int)(w:World)(e:Ending)(W':World):Prop:=(∃ t,e=.returned (.string t)/\U.bn t=en k L)/\Below w.heap.size w W'
def yz(l:List Int)(w:World)(e:Ending)(W':World):Prop:=(∃ t,e=.returned (.string t)/\U.bn t=de l)/\Below w.heap.size w W'
section
variable {P : Program} {ops : Array Oper} {md : Region.Mode} {Q : Exit -> Act -> World -> Prop}
def bA(P:Program)(ops:Array Oper)(o:Oper)(v:Value)(a:Act):Prop :=
 (Region.wanted o (yielded ops a.tmps)=true/\∀ w,o.quietAt P a (fun x=>x=w) w v)\/(Region.wanted o (yielded ops a.tmps)=false/\v=undef)
theorem bA.of_same{o:Oper}{v:Value}{a a':Act}(hy:bA P ops o v a)(he:execOp a'.eval o=execOp a.eval o)
  (hw:Region.wanted o (yielded ops a'.tmps)=Region.wanted o (yielded ops a.tmps)):bA P ops o v a':=by
 unfold bA Oper.quietAt at *;rw[he,hw];exact hy
theorem bA.wpOp{i:Nat}{o:Oper}{v:Value}{a:Act}{w:World}{K:Act->World->Prop}(hi:ops[i]? = some o)(hy:bA P ops o v a)(h:K (a.put o.dst v) w):wpOp P ops Q i K a w:=by
 unfold Go.wpOp;simp only[hi];rcases hy with⟨hw,hv⟩ | ⟨hw,rfl⟩
 ·simp only[hw,if_true];left;have h3:=hv w;unfold Oper.quietAt at h3;unfold Oper.wp;generalize (execOp a.eval o).run P w=r at *;cases r with
  | ok n w' =>
   cases n <;> simp only[Oper.quietUpon]at h3 <;> simp only[Oper.upon]
   case value u =>
    obtain⟨e1,e2⟩:=h3;rw[e1,e2];exact h
   case skip =>
    obtain⟨e1,e2⟩:=h3;rw[e1,<-e2];exact h
   case enter f args =>
    obtain⟨e1,hc⟩:=h3;rw[e1];exact hc.mono fun e w'' ⟨he,hw''⟩=>by subst he;subst hw'';exact h
  | halt x w'=>simp only[Oper.quietUpon]at h3
 ·simp only[hw,Bool.false_eq_true,if_false];exact h
theorem put_defers(a:Act)(x:Option Tmp)(v:Value)(d:Deferred):({ (a.put x v) with defers:=d::(a.put x v).defers }:Act)=({ a with defers:=d::a.defers }:Act).put x v:=by cases x <;> rfl
theorem vG(a:Act)(D:List Deferred):({ a with defers:=D }:Act).eval=a.eval:=by funext x;cases x <;> rfl
theorem wpOp_put{j:Nat}{oi oj:Oper}{v:Value}(hj:ops[j]? = some oj)(hap:oi.apart ops oj=true)
  (hsi:∀ cs b,oi.op≠.select cs b) (hsj:∀ cs b,oj.op≠.select cs b) (hQ:∀ e a a' w,e≠Exit.normal->Q e a w->Q e a' w) {K:Act->World->Prop} {a:Act} {w:World}
  (hy:bA P ops oi v a) (h:wpOp P ops Q j K (a.put oi.dst v) w) :
  wpOp P ops Q j (fun a' w'=>bA P ops oi v a'/\K (a'.put oi.dst v) w') a w:=by
 obtain⟨h1,h2,h3⟩:=Oper.apart_spec hap
 have keep:∀(a:Act),bA P ops oi v a->∀ u,bA P ops oi v (a.put oj.dst u):=fun a hy u =>
  hy.of_same (execOp_put oi hsi a oj.dst u h3) (wanted_put oi a oj.dst u h3)
 unfold wpOp at *;simp only[hj]at *;rw[wanted_put oj a oi.dst v h1]at h;split
 ·rename_i hw;simp only[hw,if_true]at h;rcases h with h | ⟨h,hl⟩
  ·left;unfold Oper.wp at *;rw[execOp_put oj hsj a oi.dst v h1]at h;generalize (execOp a.eval oj).run P w=r at *;cases r with
   | ok n w' =>
    cases n <;> simp only[Oper.upon]at h ⊢
    case value u=>exact⟨keep a hy u,by rw[<-Act.put_comm a v u h2];exact h⟩
    case skip=>exact⟨keep a hy _,by rw[<-Act.put_comm a v _ h2];exact h⟩
    case defer d =>
     rw[put_defers,Act.put_comm _ v _ h2]at h;have hy':bA P ops oi v ({ a with defers:=d::a.defers }:Act):=hy.of_same (by rw[vG]) rfl;exact⟨keep _ hy' _,h⟩
    case enter f args =>
     refine h.mono fun e w'' hh=>?_;cases e with
     | returned u=>exact⟨keep a hy u,by rw[<-Act.put_comm a v u h2];exact hh⟩
     | panicked c=>exact hQ _ _ _ _ (by simp) hh
     | outgrown=>exact hh
    case row row args =>
     refine h.mono (fun u w'' hh=>?_);exact⟨keep a hy u,by rw[<-Act.put_comm a v u h2];exact hh⟩
   | halt x w' =>
    cases x <;> simp only[Oper.upon]at h ⊢
    exact hQ _ _ _ _ (by simp) h
  ·right;refine⟨?_,hl⟩;unfold Oper.asks at *;rw[execOp_put oj hsj a oi.dst v h1]at h;exact h
 ·rename_i hw;simp only[hw]at h;exact⟨keep a hy _,by rw[<-Act.put_comm a v undef h2];exact h⟩
def Al(md:Region.Mode)(ops:Array Oper)(i:Nat)(oi:Oper)(listed:Array Bool):Prop :=
 ∀ j oj,ops[j]? = some oj->j≠i->listed.getD j true=false->(∀ e∈oj.after,Region.binds md e=true->e.on≠i)->oi.apart ops oj=true
theorem Al.more{i j:Nat}{oi:Oper}{listed:Array Bool}(h:Al md ops i oi listed)(hj:listed.getD j true=false):Al md ops i oi (listed.setIfInBounds j true):=by
 intro k ok hk hki hun;by_cases e:j=k
 ·exact h k ok hk hki (e ▸ hj)
 ·exact h k ok hk hki ((getD_set_ne true e).symm.trans hun)
theorem Lo{i j:Nat}{listed:Array Bool}(hi:i∈Region.ready md ops listed)(hj:j∈Region.ready md ops listed):listed.getD j true=false/\∃ oj,ops[j]? = some oj/\∀ e∈oj.after,Region.binds md e=true->e.on≠i:=by obtain⟨h1,oj,h2,h3⟩:=mem_ready.1 hj;have h4:=getD_both (mem_ready.1 hi).1;exact⟨h1,oj,h2,fun e he hb h5=>by rw[<-h5,h3 e he hb]at h4;cases h4⟩
theorem wpAny_first{i:Nat}{oi:Oper}{v:Value}(hi:ops[i]? = some oi)(hsel:∀(j:Nat) (o:Oper) cs b,ops[j]? = some o->o.op≠.select cs b)(hQ:∀ e a a' w,e≠Exit.normal->Q e a w->Q e a' w):
  ∀(n:Nat) (listed:Array Bool) (a:Act) (w:World),Al md ops i oi listed->i∈Region.ready md ops listed->bA P ops oi v a ->
   wpAny P md ops Q n (listed.setIfInBounds i true) (a.put oi.dst v) w->wpAny P md ops Q (n+1) listed a w
 | 0,listed,a,w,hf,hr,hy,H=>⟨fun h=>absurd (h ▸ hr) (by simp),fun j hj=>by
     by_cases e:j=i
     · rw[e];exact hy.wpOp hi H
     · exact absurd (H.1 ▸ ready_mono hj e) (by simp)⟩
 | n+1,listed,a,w,hf,hr,hy,H=>⟨fun h=>absurd (h ▸ hr) (by simp),fun j hj=>by
     by_cases e:j=i
     · rw[e];exact hy.wpOp hi H
     · obtain⟨hun,oj,hoj,hno⟩:=Lo hr hj
       have step:=wpOp_put hoj (hf j oj hoj e hun hno) (fun cs b=>hsel i oi cs b hi) (fun cs b=>hsel j oj cs b hoj) hQ hy (H.2 j (ready_mono hj e))
       refine wpOp_mono (fun a' w' ⟨hy',H'⟩=>?_) step
       rw[Array.setIfInBounds_comm _ _ (Ne.symm e)]at H'
       exact wpAny_first hi hsel hQ n _ a' w' (hf.more hun) (ready_mono hr (Ne.symm e)) hy' H'⟩
def fG(P:Program)(ops:Array Oper)(Q:Act->Prop):List Oper->Act->Prop
 | [],a=>Q a
 | o::rest,a=>∃ v,bA P ops o v a/\fG P ops Q rest (a.put o.dst v)
theorem mT{g:Nat}{w:World}(hs:Region.noSelect ops=true)(hQ:∀ e a a' w,e≠Exit.normal->Q e a w->Q e a' w):∀(l:List Oper) (k:Nat) (listed:Array Bool) (a:Act),(∀ j,j<l.length->l[j]? = ops[k+j]?) ->
  Region.lexHead md ops g l.length k listed=true->fG P ops (fun a'=>∀ listed',Region.seqB md ops g (k+l.length) listed'=true->wpAny P md ops Q g listed' a' w) l a->wpAny P md ops Q (l.length+g) listed a w
 | [],k,listed,a,_,hB,h=>by
  simp only[length_nil,zero_add,Nat.add_zero]at *;exact h listed (by simpa[Region.lexHead]using hB)
 | o::l,k,listed,a,hl,hB,h=>by
  have h0:ops[k]? = some o:=by simpa using(hl 0 (by simp)).symm
  simp only[length_cons,Region.lexHead,Bool.and_eq_true]at hB;obtain⟨⟨hr,hf⟩,hB'⟩:=hB;obtain⟨v,hy,hK⟩:=h
  have:=mT (g:=g) (w:=w) hs hQ l (k+1) (listed.setIfInBounds k true) (a.put o.dst v) (fun j hj=>by have:=hl (j+1) (by simp;omega);simpa[Nat.add_assoc,Nat.add_comm 1 j]using this) hB' (by
    simp only[length_cons]at hK
    rw[show k+1+l.length=k+(l.length+1) by omega]
    exact hK)
  have e:(o::l).length+g=(l.length+g)+1:=by simp;omega
  rw[e];exact wpAny_first h0 (Region.noSelect_spec hs) hQ (l.length+g) listed a w (Region.free_spec h0 hf) (by simpa using hr) hy this
def Aj(Q:Exit->Act->World->Prop):Exit->Act->World->Prop:=fun e a w=>e=.normal/\Q .normal a w
def NW(l:List Oper)(n:Nat):Bool:=Region.noSelect l.toArray&&decide (n<=l.length)&&Region.lexHead .any l.toArray (l.length - n) n 0 (Array.replicate l.length false)
theorem ik{id:Nat}{a:Act}{w:World}{l:List Oper}(n:Nat)(hm:P.follows .mixedOrders=true)(hB:NW l n=true)
  (h:fG P l.toArray (fun a'=>wpList P l.toArray (Aj Q) (l.drop n) a' { w with drawn:=w.drawn+1 }) (l.take n) a):(Code.region id l.toArray true).wp P Q a w:=by
 simp only[NW,Bool.and_eq_true,decide_eq_true_eq]at hB;obtain⟨⟨hs,hn⟩,hlex⟩:=hB;have htl:(l.take n).length=n:=by simp;omega
 have hdl:(l.drop n).length=l.length - n:=by simp
 refine Code.wp_mono (Q:=Aj Q) (fun e a w h=>by obtain⟨rfl,h⟩:=h;exact h) ?_;refine wp_region_any hm ?_
 have key:=mT (P:=P) (ops:=l.toArray) (md:=.any) (Q:=Aj Q) (g:=l.length - n) (w:={ w with drawn:=w.drawn+1 }) hs (fun e a a' w he h=>absurd h.1 he) (l.take n) 0 (Array.replicate l.length false) a
  (fun j hj=>by rw[htl]at hj;simp[hj]) (by rw[htl];exact hlex) (by
    have mono:∀(q q':Act->Prop) (ls:List Oper) (a:Act),(∀ a,q a->q' a)->fG P l.toArray q ls a->fG P l.toArray q' ls a:=by
      intro q q' ls
      induction ls with
      | nil=>intro a hq h;exact hq _ h
      | cons o ls ih=>intro a hq h;obtain⟨v,h1,h2⟩:=h;exact⟨v,h1,ih _ hq h2⟩
    refine mono _ _ _ _ (fun a' ha' listed' hB'=>?_) h
    rw[htl,zero_add]at hB'
    have:=wpAny_of_seq (P:=P) (ops:=l.toArray) (md:=.any) (Q':=Aj Q) (l.drop n) n listed' a' { w with drawn:=w.drawn+1 } (fun j=>by simp[List.getElem?_drop]) (by rw[hdl];exact hB') ha'
    rw[hdl]at this
    exact this)
 rw[htl]at key;have e:n+(l.length - n)=l.toArray.size:=by simp;omega
 rw[e]at key;simpa using key
theorem mS{Q':Act->Prop}{a:Act}(h:Q' a):fG P ops Q' [] a:=h
theorem aQ{Q':Act->Prop}{a:Act}{o:Oper}{rest:List Oper}(v:Value)(hg:o.guard=none)(h:∀ w,(execOp a.eval o).run P w=.ok (.value v) w)(hk:fG P ops Q' rest (a.put o.dst v)):fG P ops Q' (o::rest) a :=
 ⟨v,.inl ⟨by unfold Region.wanted;rw[hg],fun w=>by unfold Oper.quietAt;rw[h w];exact⟨rfl,rfl⟩⟩,hk⟩
theorem ti{Q':Act->Prop}{a:Act}{o:Oper}{rest:List Oper}(v:Value)(hg:o.guard=none){f:FuncId}{args:Array Value}(h:∀ w,(execOp a.eval o).run P w=.ok (.enter f args) w)(hc:∀ w,Calls P f args w fun e w'=>e=.returned v/\w'=w)(hk:fG P ops Q' rest (a.put o.dst v)):fG P ops Q' (o::rest) a :=
 ⟨v,.inl ⟨by unfold Region.wanted;rw[hg],fun w=>by unfold Oper.quietAt;rw[h w];exact⟨rfl,(hc w).mono fun e w' h=>h⟩⟩,hk⟩
end
theorem Gj(s:ByteArray)(c:Int)(w:World):Calls prog 171 #[.string s,.int .u8 c] w fun e W'=>e=.returned (.int .i64 (firstIdx s c.toNat.toUInt8))/\W'=w:=by go_enter func171,ntmps171;go_wp2;rw[run_callFunc_extern func205 (by kernel_rfl) (by kernel_rfl) (by kernel_rfl) (e:=Extern.BytealgIndexByte.indexByte) (by kernel_rfl),run_indexByte_string];simp only[Result.andThen];rw[Oper.upon_value];go_wp2;go_ret;exact⟨rfl,rfl⟩
theorem fR(s:ByteArray)(c:Int)(w:World):Calls prog 127 #[.string s,.int .u8 c] w fun e W'=>e=.returned (.int .i64 (firstIdx s c.toNat.toUInt8))/\W'=w:=by go_enter func127,ntmps127;go_wp2_with(go_at_call 171;refine(Gj _ _ _).mono ?_;rintro e w' ⟨rfl,rfl⟩);go_ret;exact⟨rfl,rfl⟩
theorem pE(r:Int)(h:U.ab r=true)(w:World):Calls prog 202 #[.int .i32 r] w fun e W'=>e=.returned (.bool true)/\W'=w:=by
 have h':(0<=r/\r<=1114111)/\¬ (55296<=r/\r<=57343):=by unfold U.ab at h;have:=of_decide_eq_true h;omega
 clear h;obtain⟨⟨h0,h1⟩,h2⟩:=h';by_cases h3:r<55296
 ·clear h2;go_enter func202,ntmps202;go_wp2;go_ret;exact⟨rfl,rfl⟩
 ·have h4:57343<r:=by omega
  clear h2;go_enter func202,ntmps202;go_wp2;go_ret;exact⟨rfl,rfl⟩
def Asc(t:ByteArray):Prop:=∀ b∈t.data.toList,b.toNat<128
theorem kn(t:ByteArray)(r:Int)(h0:0<=r)(h1:r<128)(w:World):Calls prog 168 #[.string t,.int .i32 r] w fun e W'=>e=.returned (.int .i64 (firstIdx t r.toNat.toUInt8))/\W'=w:=by
 have hw:IntKind.u8.wrap r=r:=by rw[IntKind.wrap_u8];omega
 go_enter func168,ntmps168;go_wp2_with(go_at_call 127;refine(fR _ _ _).mono ?_;rintro e w' ⟨rfl,rfl⟩);go_ret;exact⟨rfl,rfl⟩
theorem ll(t:ByteArray)(ha:Asc t)(hz:t.size<=1000)(w:World):Calls prog 168 #[.string t,.int .i32 65533] w fun e W'=>e=.returned (.int .i64 (-1))/\Below w.heap.size w W':=by
 have HA:=hid ha;clear ha;go_enter func168,ntmps168;go_wp2_with fail
 go_loopg [5,6] t.size (fun g _ _ wx=>∃ i:Nat,i+g=t.size/\wx=w.iter t i)
 case atStart=>exact⟨0,by omega,rfl⟩
 case round =>
  obtain⟨i,hig,rfl⟩:=hrel;cases gk with
  | zero =>
   obtain rfl:i=t.size:=by omega
   have hnx:=run_next_end (P:=prog) w t t.size;go_wp2;go_ret;exact⟨rfl,Below.alloc (Below.refl _ _) (le_refl _) _⟩
  | succ g =>
   have hi:i<t.size:=by omega
   have hx:(t[i]'hi).toNat<128:=HA.out _ (Array.getElem_mem_toList (xs:=t.data) hi);have hnx:=fun ty=>run_next_ascii (P:=prog) w t i ty hi hx;obtain⟨x,hxe⟩:=Ex' ((t[i]'hi).toNat:Nat);rw[hxe]at hx hnx;clear hxe;have hne:((x:Int)==65533)=false:=by simp;omega
   go_wp2
   go_roundg g
   case rel=>exact⟨i+1,by omega,rfl⟩
   case measure=>omega
theorem qi(t:ByteArray)(ha:Asc t)(hz:t.size<=1000)(r:Int)(hr:U.ab r=true)(h1:128<=r)(h2:r≠65533)(w:World):Calls prog 168 #[.string t,.int .i32 r] w fun e W'=>e=.returned (.int .i64 (-1))/\Below w.heap.size w W':=by
 have h2b:(r==65533)=false:=by simpa using h2
 have HVR:=hid (fun W=>pE r hr W);have hv:Utf8.valid r=true:=by rw[validRune_eq];unfold U.ab at hr;have:=of_decide_eq_true hr;unfold validRune;exact decide_eq_true (by omega)
 obtain⟨f1,f2,f3⟩:=encode_facts r hv h1;have hr1:=aN hr;obtain⟨hr0,hr2⟩:=hr1;have HFI:Hid (∀(a:Nat) (c:UInt8),128<=c.toNat->firstIdx (t.extract a t.size) c=-1):=fun a c hc=>firstIdx_ascii t a t.size c ha hc;have HA:=hid ha;clear h2 hr hv ha;obtain⟨E,hE⟩:=Ex' (Utf8.encode r);rw[hE]at f1 f2 f3;have hl:E.size - 1<E.size:=by omega
 have f4:=f3 hl;obtain⟨c,hc⟩:=Ex' (E[E.size - 1]'hl:UInt8);rw[hc]at f4;obtain⟨m,hm⟩:∃ m:Nat,E.size=m+1:=⟨E.size - 1,by omega⟩
 have hi1:∀ h:m<E.size,E[m]'h=c:=fun h=>by
  have:E.size - 1=m:=by omega
  simp only[this]at hc;exact hc
 have hmz:(E.size:Int) - 1=(m:Int):=by omega
 clear f3 hl hc;by_cases hlt:m<t.size
 ·have hx:(t[m]'hlt).toNat<128:=HA.out _ (Array.getElem_mem_toList (xs:=t.data) hlt);go_enter func168,ntmps168;go_wp2_with(go_at_call 202;refine(HVR.out _).mono ?_;rintro e w' ⟨rfl,hw1⟩;obtain rfl:=hw1.symm);go_step3;go_wp2_with fail
  go_loopw [9] (fun v9 wr=>v9=.int .i64 m/\wr=w) (fun _ _=>0)
  case atStart=>exact⟨rfl,rfl⟩
  case round =>
   obtain⟨rfl,rfl⟩:=hrel;have hfi:=HFI.out (m+1) c f4;obtain⟨x,hxe⟩:=Ex' ((t[m]'hlt).toNat:Nat);obtain⟨y,hye⟩:=Ex' (c.toNat:Nat);have hyc:((y:Int)).toNat.toUInt8=c:=by rw[<-hye];simp
   rw[hxe]at hx;rw[hye]at f4;have hne:((x:Int) != (y:Int))=true:=by simp;omega
   have hIB:Hid (∀ W,Calls prog 127 #[.string (t.extract (m+1) t.size),.int .u8 y] W fun e W'=>e=.returned (.int .i64 (-1))/\W'=W):=fun W=>(fR _ _ W).mono (by rintro e W' ⟨rfl,h⟩;rw[hyc,hfi];exact⟨rfl,h⟩);have hlz:(m:Int)+1<=(t.size:Int):=by omega
   have hw1:IntKind.i64.wrap ((m:Int)+1)=(m:Int)+1:=wrap_small _ (by omega) (by omega);go_wp2_with fail;go_step3;go_wp2_with fail
   go_quiet (fail)
   go_wp2_with fail;have hen:=enters_of func127 (by kernel_rfl) rfl;refine ik 8 (by kernel_rfl) (by kernel_rfl) ?_;simp only[List.take_succ_cons,List.take_zero,List.drop_succ_cons,List.drop_zero];refine aQ (.string t) rfl (fun W=>by go_simp) ?_;refine aQ (.int .i64 m) rfl (fun W=>by go_simp) ?_;refine aQ (.int .i64 ((m:Int)+1)) rfl (fun W=>by go_simp) ?_;refine aQ (.string (t.extract (m+1) t.size)) rfl (fun W=>by go_simp;intro h;omega) ?_;refine aQ (.string E) rfl (fun W=>by go_simp) ?_;refine aQ (.int .i64 m) rfl (fun W=>by go_simp) ?_;refine aQ (.int .u8 y) rfl (fun W=>by go_simp;intro h;omega) ?_;refine ti (.int .i64 (-1)) rfl (f:=127) (args:=#[.string (t.extract (m+1) t.size),.int .u8 y]) (fun W=>by go_simp) hIB.out ?_;refine mS ?_;show wpList _ _ _ _ _ (World.drewN _ _).drew;go_wp2_with fail;refine⟨rfl,?_⟩;go_wp2;show bodyPost prog Tryz.f168 (fun e W'=>e=.returned (.int .i64 (-1))/\Below wr.heap.size wr W') Exit.ret _ _;go_ret;exact⟨rfl,(fun h=>⟨h.os,h.tape,h.output,h.size,h.block⟩) (Below.refl wr.heap.size wr)⟩
 ·go_enter func168,ntmps168;go_wp2_with(go_at_call 202;refine(HVR.out _).mono ?_;rintro e w' ⟨rfl,hw1⟩;obtain rfl:=hw1.symm);go_step3;go_wp2_with fail
  go_loopw [9] (fun v9 wr=>v9=.int .i64 m/\wr=w) (fun _ _=>0)
  case atStart=>exact⟨rfl,rfl⟩
  case round =>
   obtain⟨rfl,rfl⟩:=hrel;go_wp2;rw[Exit.noGoto_ret];go_ret;exact⟨rfl,Below.refl _ _⟩
theorem jc(t:ByteArray)(r:Int)(h0:0<=r)(h1:r<128):decide (0<=firstIdx t r.toNat.toUInt8)=(U.bn t).contains r:=by
 rw[firstIdx_nonneg];have hr:(r.toNat.toUInt8.toNat:Int)=r:=by simp;omega
 rw[Bool.eq_iff_iff,List.any_eq_true,List.contains_iff_mem];unfold U.bn;rw[List.mem_map];constructor
 ·rintro⟨b,hb,he⟩;have:=eq_of_beq he;exact⟨b,hb,by rw[this];exact hr⟩
 ·rintro⟨b,hb,he⟩;refine⟨b,hb,beq_iff_eq.2 ?_⟩;apply UInt8.toNat_inj.1;omega
theorem GL{t:ByteArray}(ha:Asc t){r:Int}(h1:128<=r):(U.bn t).contains r=false:=by rw[Bool.eq_false_iff];intro hc;have hm:=List.contains_iff_mem.1 hc;unfold U.bn at hm;obtain⟨b,hb,he⟩:=List.mem_map.1 hm;have:=ha b hb;omega
theorem bS(t:ByteArray)(ha:Asc t)(hz:t.size<=1000)(r:Int)(hr:U.ab r=true)(w:World):Calls prog 173 #[.string t,.int .i32 r] w fun e W'=>e=.returned (.bool ((U.bn t).contains r))/\Below w.heap.size w W':=by
 have HC:Hid (∃ i:Int,decide (0<=i)=(U.bn t).contains r/\∀ W,Calls prog 168 #[.string t,.int .i32 r] W fun e W'=>e=.returned (.int .i64 i)/\Below W.heap.size W W'):=by
  have hb:=aN hr;by_cases h1:r<128
  ·exact⟨_,jc t r hb.1 h1,fun W=>(kn t r hb.1 h1 W).mono (by rintro e W' ⟨rfl,rfl⟩;exact⟨rfl,Below.refl _ _⟩)⟩
  ·refine⟨-1,?_,fun W=>?_⟩
   ·rw[GL ha (by omega)];rfl
   ·by_cases h2:r=65533
    ·subst h2;exact ll t ha hz W
    ·exact qi t ha hz r hr (by omega) h2 W
 obtain⟨i,hi,hc⟩:=HC.out;rw[<-hi];have HI:=hid hc;clear HC hi hc hr ha;go_enter func173,ntmps173;go_wp2_with(go_at_call 168;refine(HI.out _).mono ?_;rintro e w' ⟨rfl,B⟩);go_ret;exact⟨rfl,B⟩
end E
end Go.Proofs.YtlmflmdmolcfhaaGreatDoor
namespace Go.Proofs
open Go.Shelf Go.RowKit
shelf_lay Lays.n206 Nm 206 at Tryz as Tryz.laysPre
shelf_lay Lays.n207 Nm 207 at Tryz as Tryz.laysSuf
shelf_lay Lays.n153 Nm 153 at Tryz as Tryz.laysAny
shelf_lay LaysPu.n25 Mp 25 at Tryz as Tryz.laysClo
end Go.Proofs
namespace Go.Proofs.YtlmflmdmolcfhaaGreatDoor
open Tryz Go.RowKit
namespace H
open F (bn aa hid)
theorem Pe(s:ByteArray):Lib.hasPrefix s.data.toList [91]=decide ((bn s).head? = some 91):=by
 unfold bn Lib.hasPrefix;cases s.data.toList with
 | nil=>rfl
 | cons c l =>
  have h:((91:UInt8)==c)=decide ((c.toNat:Int)=91):=by
   rw[Bool.eq_iff_iff,beq_iff_eq,decide_eq_true_iff];constructor
   ·rintro rfl;rfl
   ·intro h;apply UInt8.toNat_inj.1;show 91=_;omega
  simp[List.isPrefixOf,h]
theorem OH(s:ByteArray):Lib.hasSuffix s.data.toList [93]=decide ((bn s).getLast? = some 93):=by
 have h:Lib.hasSuffix s.data.toList [93]=([93]:List UInt8).isSuffixOf s.data.toList:=rfl;rw[h,List.isSuffixOf];unfold bn;rw[List.getLast?_map,<-List.head?_reverse];show([93]:List UInt8).isPrefixOf _=_;cases s.data.toList.reverse with
 | nil=>rfl
 | cons c l =>
  have h:((93:UInt8)==c)=decide ((c.toNat:Int)=93):=by
   rw[Bool.eq_iff_iff,beq_iff_eq,decide_eq_true_iff];constructor
   ·rintro rfl;rfl
   ·intro h;apply UInt8.toNat_inj.1;show 93=_;omega
  simp[List.isPrefixOf,h]
theorem mv(s:ByteArray)(w:World):Calls prog 134 #[.string s,.string ⟨#[91]⟩] w fun e W'=>e=.returned (.bool (decide ((bn s).head? = some 91)))/\W'=w:=by
 have hf:Tryz.laysPre_ren.f 206=134:=by kernel_rfl
 have h:=Any.stringslite_HasPrefix Tryz.laysPre s ⟨#[91]⟩ w;rw[hf]at h;rw[<-Pe];exact h
theorem JO(s:ByteArray)(hs:s.size<=100000)(w:World):Calls prog 253 #[.string s,.string ⟨#[93]⟩] w fun e W'=>e=.returned (.bool (decide ((bn s).getLast? = some 93)))/\W'=w:=by
 have hf:Tryz.laysSuf_ren.f 207=253:=by kernel_rfl
 have h:=Any.stringslite_HasSuffix Tryz.laysSuf s ⟨#[93]⟩ w (by omega);rw[hf]at h;rw[<-OH];exact h
def yA(s:ByteArray)(e:Ending):Prop:=((bn s).head? = some 91/\e=.returned (.tuple #[.string (s.extract 1 s.size),.bool true]))\/((bn s).head? ≠ some 91/\e=.returned (.tuple #[.string s,.bool false]))
theorem Ip(s:ByteArray)(w:World):Calls prog 90 #[.string s,.string ⟨#[91]⟩] w fun e W'=>yA s e/\W'=w:=by
 have HP:=hid (fun W=>mv s W);by_cases h:(bn s).head? = some 91
 ·have HR:Hid (yA s (.returned (.tuple #[.string (s.extract 1 s.size),.bool true]))):=.inl ⟨h,rfl⟩
  have hsz:1<=s.size:=by
   rw[<-aa];cases hb:bn s with
   | nil=>rw[hb]at h;cases h
   | cons _ _=>simp
  have hzz:(1:Int)<=(s.size:Int):=by omega
  rw[decide_eq_true h]at HP;clear h
  have HL:Hid (∀ W,Calls prog 133 #[.string s,.string ⟨#[91]⟩] W fun e W'=>yA s e/\W'=W):=fun W=>by
   obtain⟨p,hp⟩:=Ex' ((⟨#[91]⟩:ByteArray):ByteArray);have hps:p.size=1:=by rw[<-hp];rfl
   rw[hp]at HP ⊢;clear hp;go_enter func133,ntmps133;go_wp2_with(go_at_call 134;refine(HP.out _).mono ?_;rintro e w' ⟨rfl,hw⟩;obtain rfl:=hw.symm);go_ret2;exact⟨HR.out,rfl⟩
  go_enter func90,ntmps90;go_wp2_with fail;refine(HL.out _).mono ?_;rintro e W' ⟨h,rfl⟩;obtain⟨a,b,rfl⟩:∃(a:ByteArray) (b:Bool),e=.returned (.tuple #[.string a,.bool b]):=by rcases h with⟨_,rfl⟩ | ⟨_,rfl⟩ <;> exact⟨_,_,rfl⟩
  have HC:=hid h;clear h;go_wp2;go_ret2;exact⟨HC.out,rfl⟩
 ·have HR:Hid (yA s (.returned (.tuple #[.string s,.bool false]))):=.inr ⟨h,rfl⟩;rw[decide_eq_false h]at HP;clear h;have HL:Hid (∀ W,Calls prog 133 #[.string s,.string ⟨#[91]⟩] W fun e W'=>yA s e/\W'=W):=fun W=>by go_enter func133,ntmps133;go_wp2_with(go_at_call 134;refine(HP.out _).mono ?_;rintro e w' ⟨rfl,hw⟩;obtain rfl:=hw.symm);go_ret2;exact⟨HR.out,rfl⟩
  go_enter func90,ntmps90;go_wp2_with fail;refine(HL.out _).mono ?_;rintro e W' ⟨h,rfl⟩;obtain⟨a,b,rfl⟩:∃(a:ByteArray) (b:Bool),e=.returned (.tuple #[.string a,.bool b]):=by rcases h with⟨_,rfl⟩ | ⟨_,rfl⟩ <;> exact⟨_,_,rfl⟩
  have HC:=hid h;clear h;go_wp2;go_ret2;exact⟨HC.out,rfl⟩
def Jk(s:ByteArray)(e:Ending):Prop:=((bn s).getLast? = some 93/\e=.returned (.tuple #[.string (s.extract 0 (s.size - 1)),.bool true]))\/((bn s).getLast? ≠ some 93/\e=.returned (.tuple #[.string s,.bool false]))
theorem Co(s:ByteArray)(hs:s.size<=100000)(w:World):Calls prog 228 #[.string s,.string ⟨#[93]⟩] w fun e W'=>Jk s e/\W'=w:=by
 have HP:=hid (fun W=>JO s hs W);obtain⟨p,hp⟩:=Ex' ((⟨#[93]⟩:ByteArray):ByteArray);have hps:p.size=1:=by rw[<-hp];rfl
 by_cases h:(bn s).getLast? = some 93
 ·have HR:Hid (Jk s (.returned (.tuple #[.string (s.extract 0 (s.size - 1)),.bool true]))):=.inl ⟨h,rfl⟩
  have hsz:1<=s.size:=by
   rw[<-aa];cases hb:bn s with
   | nil=>rw[hb]at h;cases h
   | cons _ _=>simp
  obtain⟨m,hm⟩:∃ m,s.size=m+1:=⟨s.size - 1,by omega⟩;rw[show s.size - 1=m by omega]at HR;have hmz:(s.size:Int) - 1=(m:Int):=by omega
  have hwz:IntKind.i64.wrap ((s.size:Int) - 1)=(m:Int):=by rw[wrap_small _ (by omega) (by omega)];omega
  rw[decide_eq_true h,hp]at HP;rw[hp];clear h hp;go_enter func228,ntmps228;go_wp2_with(go_at_call 253;refine(HP.out _).mono ?_;rintro e w' ⟨rfl,hw⟩;obtain rfl:=hw.symm);go_ret2;exact⟨HR.out,rfl⟩
 ·have HR:Hid (Jk s (.returned (.tuple #[.string s,.bool false]))):=.inr ⟨h,rfl⟩;rw[decide_eq_false h,hp]at HP;rw[hp];clear h hp;go_enter func228,ntmps228;go_wp2_with(go_at_call 253;refine(HP.out _).mono ?_;rintro e w' ⟨rfl,hw⟩;obtain rfl:=hw.symm);go_ret2;exact⟨HR.out,rfl⟩
theorem Io(s:ByteArray)(hs:s.size<=100000)(w:World):Calls prog 207 #[.string s,.string ⟨#[93]⟩] w fun e W'=>Jk s e/\W'=w:=by
 have HL:=hid (fun W=>Co s hs W);go_enter func207,ntmps207;go_wp2_with fail;refine(HL.out _).mono ?_;rintro e W' ⟨h,rfl⟩;obtain⟨a,b,rfl⟩:∃(a:ByteArray) (b:Bool),e=.returned (.tuple #[.string a,.bool b]):=by rcases h with⟨_,rfl⟩ | ⟨_,rfl⟩ <;> exact⟨_,_,rfl⟩
 have HC:=hid h;clear h;go_wp2;go_ret2;exact⟨HC.out,rfl⟩
theorem Cs(s:ByteArray)(hs:s.size<=400000000)(w:World):Calls prog 36 #[.string s] w fun e W'=>e=.returned (.string s)/\Below w.heap.size w W':=by
 have HL:Hid (∀ W,Calls prog 65 #[.string s] W fun e W'=>e=.returned (.string s)/\Below W.heap.size W W'):=fun W=>by
  have hf:Tryz.laysClo_ren.f 25=65:=by kernel_rfl
  have h:=AnyPu.stringslite_Clone Tryz.laysClo s W (by omega);rw[hf]at h;exact h
 go_enter func36,ntmps36;go_wp2_with fail;refine(HL.out _).mono ?_;rintro e W' ⟨rfl,B⟩;have HB:=hid B;clear B;go_wp2;go_ret;exact⟨rfl,HB.out⟩
end H
end Go.Proofs.YtlmflmdmolcfhaaGreatDoor
