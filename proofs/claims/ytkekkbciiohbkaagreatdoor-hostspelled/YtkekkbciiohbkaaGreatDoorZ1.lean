/- Texts one behind the other: UM UA UN US UI UP. -/
import Derived.Test.YtkekkbciiohbkaaGreatDoorProg
import Derived.WalkKit
import Derived.WalkSpells
import Derived.WalkLawsBesides
import Derived.Deep.QuietTactic
import Derived.BigQuiet
import Derived.RegionTactic
import Derived.RangeFuncNested
import Derived.RangeFuncBound
import Derived.RangeFuncCalls
import Derived.RangeFuncLeaves
import Derived.RangeFuncBox
import Derived.Shelf.Abstract
import Derived.OwnWalkIn
import Derived.TacticsInMore
import Derived.LoopNIn
import Derived.LoopIn
import Derived.Maps.AppendAt
import Derived.Lib.IndexBytes
import Derived.OwnWalk
set_option maxRecDepth 100000
set_option maxHeartbeats 16000000
set_option linter.unusedVariables false
set_option linter.unnecessarySimpa false
namespace Go.Proofs.YtkekkbciiohbkaaGreatDoor.U
open Go.RowKit
def follow(c:Int):Int:=if 240≤c∧c≤244 then 3 else if 224≤c∧c≤239 then 2 else if 194≤c∧c≤223 then 1 else 0
def aP(c:Int):Int:=if c=224 then 160 else if c=240 then 144 else 128
def aG(c:Int):Int:=if c=237 then 159 else if c=244 then 143 else 191
def az(c:Int):Bool:=decide (0≤c∧c≤1114111∧(c<55296∨57343<c))
def bn(s:ByteArray):List Int:=s.data.toList.map fun c=>(c.toNat:Int)
def nxl:Nat→List Int→Nat→Int→Int→Int→Int×Nat×Bool
 | 0,_,n,r,_,_=>(r,n,true)
 | _+1,[],n,_,_,_=>(65533,n,false)
 | f+1,b::t,n,r,lo,hi=>if b<lo∨hi<b then (65533,n,false) else nxl f t (n+1) (r * 64+b % 64) 128 191
def nx:List Int→Int×Nat×Bool
 | []=>(0,0,false)
 | a::t=>if a<128 then (a,1,true) else if follow a=0 then (65533,1,false) else
   nxl (follow a).toNat t 1 (if follow a=1 then a % 32 else if follow a=2 then a % 16 else a % 8) (aP a) (aG a)
theorem aa(s:ByteArray):(bn s).length=s.size:=by simp[bn]
theorem gl(s:ByteArray)(k:Nat)(h:k<s.size):(bn s).drop k=(s[k].toNat:Int)::(bn s).drop (k+1):=by
 have h':k<(bn s).length:=by rw[aa];exact h
 rw[List.drop_eq_getElem_cons h']
 congr 1
 simp[bn];rfl
theorem eP(s:ByteArray)(k:Nat)(h:s.size≤k):(bn s).drop k=[]:=by
 rw[List.drop_eq_nil_iff,aa];exact h
theorem gm(s:ByteArray)(h:0<s.size):bn s=(s[0].toNat:Int)::(bn s).drop 1:=by
 have:=gl s 0 h;simpa using this
theorem me(s:ByteArray)(f k:Nat)(r lo hi:Int)(h:s.size≤k):nxl (f+1) ((bn s).drop k) k r lo hi=(65533,k,false):=by
 rw[eP s k h];rfl
theorem im(s:ByteArray)(f k:Nat)(r lo hi:Int)(h:k<s.size)(hb:(s[k].toNat:Int)<lo∨hi<(s[k].toNat:Int)):nxl (f+1) ((bn s).drop k) k r lo hi=(65533,k,false):=by
 rw[gl s k h,nxl,if_pos hb]
theorem mf(s:ByteArray)(f k:Nat)(r lo hi:Int)(h:k<s.size)(hb:lo≤(s[k].toNat:Int))(hc:(s[k].toNat:Int)≤hi):
  nxl (f+1) ((bn s).drop k) k r lo hi=nxl f ((bn s).drop (k+1)) (k+1) (r * 64+(s[k].toNat:Int) % 64) 128 191:=by
 rw[gl s k h,nxl,if_neg (by omega)]
theorem ze(s:ByteArray)(h:s.size=0):nx (bn s)=(0,0,false):=by
 have:bn s=[]:=List.length_eq_zero_iff.1 (by rw[aa];exact h);rw[this];rfl
theorem zf(s:ByteArray)(h:0<s.size)(ha:(s[0].toNat:Int)<128):nx (bn s)=((s[0].toNat:Int),1,true):=by
 rw[gm s h,nx,if_pos ha]
theorem CC(s:ByteArray)(h:0<s.size)(ha:128≤(s[0].toNat:Int))(hf:follow (s[0].toNat:Int)=0):nx (bn s)=(65533,1,false):=by
 rw[gm s h,nx,if_neg (by omega),if_pos hf]
theorem po(s:ByteArray)(h:0<s.size)(ha:128≤(s[0].toNat:Int))(m:Nat)(d:Int)(hf:follow (s[0].toNat:Int)=m)(hm:m=1∧d=32∨m=2∧d=16∨m=3∧d=8):
  nx (bn s)=nxl m ((bn s).drop 1) 1 ((s[0].toNat:Int) % d) (aP (s[0].toNat:Int)) (aG (s[0].toNat:Int)):=by
 rw[gm s h,nx,if_neg (by omega),hf,if_neg (by omega)];rcases hm with⟨rfl,rfl⟩ | ⟨rfl,rfl⟩ | ⟨rfl,rfl⟩ <;> rfl
theorem fS(c:Int):(follow c=0)∨(follow c=1∧194≤c∧c≤223)∨(follow c=2∧224≤c∧c≤239)∨(follow c=3∧240≤c∧c≤244):=by
 unfold follow;by_cases h3:240≤c∧c≤244
 ·rw[if_pos h3];omega
 ·rw[if_neg h3]
  by_cases h2:224≤c∧c≤239
  ·rw[if_pos h2];omega
  ·rw[if_neg h2]
   by_cases h1:194≤c∧c≤223
   ·rw[if_pos h1];omega
   ·rw[if_neg h1];omega
theorem aX{k:IntKind}{a b:Int}(h:a=b):Ending.returned (.int k a)=.returned (.int k b):=by rw[h]
theorem yt{k k':IntKind}{a b c d:Int}(h:a=b)(g:c=d):Ending.returned (.tuple #[.int k a,.int k' c])=.returned (.tuple #[.int k b,.int k' d]):=by rw[h,g]
theorem an{a b:Bool}(h:a=b):Ending.returned (.bool a)=.returned (.bool b):=by rw[h]
theorem fT(c:Int)(h0:0≤c)(h1:c≤255)(w:World):
  Calls Tryz.prog 130 #[.int .u8 c] w fun e w'=>e=.returned (.int .i64 (follow c))∧w'=w:=by
 go_enter Tryz.func130,Tryz.ntmps130
 go_wp2
 all_goals (go_ret;exact⟨aX (by unfold follow;(repeat' split) <;> omega),rfl⟩)
theorem iP(c:Int)(w:World):
  Calls Tryz.prog 131 #[.int .u8 c] w fun e w'=>e=.returned (.tuple #[.int .u8 (aP c),.int .u8 (aG c)])∧w'=w:=by
 go_enter Tryz.func131,Tryz.ntmps131
 go_wp2
 all_goals (go_ret2;exact⟨yt (by simp only[beq_iff_eq,beq_eq_false_iff_ne]at *;unfold aP;(repeat' split) <;> omega) (by simp only[beq_iff_eq,beq_eq_false_iff_ne]at *;unfold aG;(repeat' split) <;> omega),rfl⟩)
theorem jA(c:Int)(w:World):
  Calls Tryz.prog 203 #[.int .i32 c] w fun e w'=>e=.returned (.bool (az c))∧w'=w:=by
 go_enter Tryz.func203,Tryz.ntmps203
 go_wp2
 all_goals (go_ret;exact⟨an (by unfold az;rw[Bool.eq_iff_iff];simp;try omega),rfl⟩)
theorem cQ(c:Int)(h0:0≤c)(h1:c≤1114111)(w:World):
  Calls Tryz.prog 181 #[.int .i32 c] w fun e w'=>e=.returned (.int .u8 (128+c % 64))∧w'=w:=by
 go_enter Tryz.func181,Tryz.ntmps181
 go_wp2;go_ret;exact⟨rfl,rfl⟩
theorem toList_data(s:ByteArray):s.toList=s.data.toList:=ByteArray.toList_eq s
theorem ab(s:ByteArray)(h:0<s.size):s.toList.isEmpty=false:=by
 rw[toList_data,←Bool.not_eq_true,List.isEmpty_iff];intro hh;have h2:=congrArg List.length hh;rw[Array.length_toList]at h2;have h3:s.data.size=s.size:=rfl;simp only[List.length_nil]at h2;omega
theorem ah(s:ByteArray)(h:s.size=0):s.toList.isEmpty=true:=by
 rw[toList_data,List.isEmpty_iff];exact List.length_eq_zero_iff.1 (by simpa using h)
theorem sY(c:Int):128≤aP c∧aP c≤160:=by unfold aP;(repeat' split) <;> omega
theorem pD(c:Int):143≤aG c∧aG c≤191:=by unfold aG;(repeat' split) <;> omega
theorem sT(s:ByteArray)(w:World)(hs:s.size≤9223372036854775807)(hp:0<s.size)(he:s.toList.isEmpty=false)(h1:194≤(s[0].toNat:Int))(h2:(s[0].toNat:Int)≤223)(hf0:follow (s[0].toNat:Int)=1):
  Calls Tryz.prog 78 #[.string s] w fun e w'=>e=.returned (.tuple #[.int .i32 (nx (bn s)).1,.int .i64 (nx (bn s)).2.1,.bool (nx (bn s)).2.2])∧∃ n,w'=w.drewN n:=by
 have hx0:=po s hp (by omega) 1 32 hf0 (by omega);have hf:Hid (follow (s[0].toNat:Int)=1):=hf0;have hx:Hid (nx (bn s)=nxl 1 ((bn s).drop 1) 1 ((s[0].toNat:Int) % 32) (aP (s[0].toNat:Int)) (aG (s[0].toNat:Int))):=hx0;clear hf0 hx0;go_enter Tryz.func78,Tryz.ntmps78
 go_wp2_with fail;refine(fT _ (by omega) (by omega) _).mono ?_;rw[hf.out];rintro e w' ⟨rfl,rfl⟩
 go_wp2_with fail;refine(iP _ _).mono ?_;rintro e w' ⟨rfl,rfl⟩
 go_wp2_with fail
 go_quiet (fail)
 go_wp2_with fail;have hl:=sY (s[0].toNat:Int);have hh:=pD (s[0].toNat:Int)
 generalize hL:aP (s[0].toNat:Int)=L0 at *
 generalize hH:aG (s[0].toNat:Int)=H0 at *
 clear hL hH
 go_loop [2,3,6,7] (fun r n lo hi=>∃(k:Nat) (R L H:Int),r=.int .i32 R∧n=.int .i64 k∧lo=.int .u8 L∧hi=.int .u8 H∧1≤k∧k≤2∧k≤s.size∧0≤R∧128≤L∧L≤160∧143≤H∧H≤191∧(k=1∧R<32∨k=2∧R<2048∨k=3∧R<131072∨k=4∧R<8388608)∧Hid (nx (bn s)=nxl (2 - k) ((bn s).drop k) k R L H)) (fun _ n _ _=>2 - (intOf n).toNat)
 case atStart=>exact⟨1,_,_,_,rfl,rfl,rfl,rfl,by omega,by omega,by omega,by omega,by omega,by omega,by omega,by omega,by omega,hx⟩
 case round =>
  obtain⟨k,R,L,H,rfl,rfl,rfl,rfl,hk1,hk2,hk3,hR,hL1,hL2,hH1,hH2,hRb,hrest⟩:=hrel;clear hx;by_cases hlt:k≤1
  ·by_cases hsz:k<s.size
   ·have hne:((k:Int)==(s.size:Int))=false:=by simp;omega
    by_cases hlo:(s[k].toNat:Int)<L
    ·go_wp2
     go_ret3;refine⟨?_,_,rfl⟩;rw[hrest.out,show 2 - k=(1 - k)+1 from by omega,im s _ k R L H hsz (Or.inl hlo)];rfl
    ·by_cases hhi:H<(s[k].toNat:Int)
     ·go_wp2
      go_ret3;refine⟨?_,_,rfl⟩;rw[hrest.out,show 2 - k=(1 - k)+1 from by omega,im s _ k R L H hsz (Or.inr hhi)];rfl
     ·go_wp2
      go_round
      case rel =>
       refine⟨k+1,_,_,_,rfl,by go_num,rfl,rfl,by omega,by omega,by omega,by omega,by omega,by omega,by omega,by omega,by omega,?_⟩;show nx (bn s)=_
       rw[hrest.out,show 2 - k=(2 - (k+1))+1 from by omega,mf s _ k R L H hsz (by omega) (by omega)]
      case measure=>simp[intOf];omega
   ·have hne:((k:Int)==(s.size:Int))=true:=by simp;omega
    go_wp2
    go_ret3;refine⟨?_,_,rfl⟩;rw[hrest.out,show 2 - k=(1 - k)+1 from by omega,me s _ k R L H (by omega)];rfl
  ·go_wp2
   go_ret3;refine⟨?_,_,rfl⟩;rw[hrest.out,show 2 - k=0 from by omega];rfl
theorem sS(s:ByteArray)(w:World)(hs:s.size≤9223372036854775807)(hp:0<s.size)(he:s.toList.isEmpty=false)(h1:224≤(s[0].toNat:Int))(h2:(s[0].toNat:Int)≤239)(hf0:follow (s[0].toNat:Int)=2):
  Calls Tryz.prog 78 #[.string s] w fun e w'=>e=.returned (.tuple #[.int .i32 (nx (bn s)).1,.int .i64 (nx (bn s)).2.1,.bool (nx (bn s)).2.2])∧∃ n,w'=w.drewN n:=by
 have hx0:=po s hp (by omega) 2 16 hf0 (by omega);have hf:Hid (follow (s[0].toNat:Int)=2):=hf0;have hx:Hid (nx (bn s)=nxl 2 ((bn s).drop 1) 1 ((s[0].toNat:Int) % 16) (aP (s[0].toNat:Int)) (aG (s[0].toNat:Int))):=hx0;clear hf0 hx0;go_enter Tryz.func78,Tryz.ntmps78
 go_wp2_with fail;refine(fT _ (by omega) (by omega) _).mono ?_;rw[hf.out];rintro e w' ⟨rfl,rfl⟩
 go_wp2_with fail;refine(iP _ _).mono ?_;rintro e w' ⟨rfl,rfl⟩
 go_wp2_with fail
 go_quiet (fail)
 go_wp2_with fail;have hl:=sY (s[0].toNat:Int);have hh:=pD (s[0].toNat:Int)
 generalize hL:aP (s[0].toNat:Int)=L0 at *
 generalize hH:aG (s[0].toNat:Int)=H0 at *
 clear hL hH
 go_loop [2,3,6,7] (fun r n lo hi=>∃(k:Nat) (R L H:Int),r=.int .i32 R∧n=.int .i64 k∧lo=.int .u8 L∧hi=.int .u8 H∧1≤k∧k≤3∧k≤s.size∧0≤R∧128≤L∧L≤160∧143≤H∧H≤191∧(k=1∧R<32∨k=2∧R<2048∨k=3∧R<131072∨k=4∧R<8388608)∧Hid (nx (bn s)=nxl (3 - k) ((bn s).drop k) k R L H)) (fun _ n _ _=>3 - (intOf n).toNat)
 case atStart=>exact⟨1,_,_,_,rfl,rfl,rfl,rfl,by omega,by omega,by omega,by omega,by omega,by omega,by omega,by omega,by omega,hx⟩
 case round =>
  obtain⟨k,R,L,H,rfl,rfl,rfl,rfl,hk1,hk2,hk3,hR,hL1,hL2,hH1,hH2,hRb,hrest⟩:=hrel;clear hx;by_cases hlt:k≤2
  ·by_cases hsz:k<s.size
   ·have hne:((k:Int)==(s.size:Int))=false:=by simp;omega
    by_cases hlo:(s[k].toNat:Int)<L
    ·go_wp2
     go_ret3;refine⟨?_,_,rfl⟩;rw[hrest.out,show 3 - k=(2 - k)+1 from by omega,im s _ k R L H hsz (Or.inl hlo)];rfl
    ·by_cases hhi:H<(s[k].toNat:Int)
     ·go_wp2
      go_ret3;refine⟨?_,_,rfl⟩;rw[hrest.out,show 3 - k=(2 - k)+1 from by omega,im s _ k R L H hsz (Or.inr hhi)];rfl
     ·go_wp2
      go_round
      case rel =>
       refine⟨k+1,_,_,_,rfl,by go_num,rfl,rfl,by omega,by omega,by omega,by omega,by omega,by omega,by omega,by omega,by omega,?_⟩;show nx (bn s)=_
       rw[hrest.out,show 3 - k=(3 - (k+1))+1 from by omega,mf s _ k R L H hsz (by omega) (by omega)]
      case measure=>simp[intOf];omega
   ·have hne:((k:Int)==(s.size:Int))=true:=by simp;omega
    go_wp2
    go_ret3;refine⟨?_,_,rfl⟩;rw[hrest.out,show 3 - k=(2 - k)+1 from by omega,me s _ k R L H (by omega)];rfl
  ·go_wp2
   go_ret3;refine⟨?_,_,rfl⟩;rw[hrest.out,show 3 - k=0 from by omega];rfl
theorem sR(s:ByteArray)(w:World)(hs:s.size≤9223372036854775807)(hp:0<s.size)(he:s.toList.isEmpty=false)(h1:240≤(s[0].toNat:Int))(h2:(s[0].toNat:Int)≤244)(hf0:follow (s[0].toNat:Int)=3):
  Calls Tryz.prog 78 #[.string s] w fun e w'=>e=.returned (.tuple #[.int .i32 (nx (bn s)).1,.int .i64 (nx (bn s)).2.1,.bool (nx (bn s)).2.2])∧∃ n,w'=w.drewN n:=by
 have hx0:=po s hp (by omega) 3 8 hf0 (by omega);have hf:Hid (follow (s[0].toNat:Int)=3):=hf0;have hx:Hid (nx (bn s)=nxl 3 ((bn s).drop 1) 1 ((s[0].toNat:Int) % 8) (aP (s[0].toNat:Int)) (aG (s[0].toNat:Int))):=hx0;clear hf0 hx0;go_enter Tryz.func78,Tryz.ntmps78
 go_wp2_with fail;refine(fT _ (by omega) (by omega) _).mono ?_;rw[hf.out];rintro e w' ⟨rfl,rfl⟩
 go_wp2_with fail;refine(iP _ _).mono ?_;rintro e w' ⟨rfl,rfl⟩
 go_wp2_with fail
 go_quiet (fail)
 go_wp2_with fail;have hl:=sY (s[0].toNat:Int);have hh:=pD (s[0].toNat:Int)
 generalize hL:aP (s[0].toNat:Int)=L0 at *
 generalize hH:aG (s[0].toNat:Int)=H0 at *
 clear hL hH
 go_loop [2,3,6,7] (fun r n lo hi=>∃(k:Nat) (R L H:Int),r=.int .i32 R∧n=.int .i64 k∧lo=.int .u8 L∧hi=.int .u8 H∧1≤k∧k≤4∧k≤s.size∧0≤R∧128≤L∧L≤160∧143≤H∧H≤191∧(k=1∧R<32∨k=2∧R<2048∨k=3∧R<131072∨k=4∧R<8388608)∧Hid (nx (bn s)=nxl (4 - k) ((bn s).drop k) k R L H)) (fun _ n _ _=>4 - (intOf n).toNat)
 case atStart=>exact⟨1,_,_,_,rfl,rfl,rfl,rfl,by omega,by omega,by omega,by omega,by omega,by omega,by omega,by omega,by omega,hx⟩
 case round =>
  obtain⟨k,R,L,H,rfl,rfl,rfl,rfl,hk1,hk2,hk3,hR,hL1,hL2,hH1,hH2,hRb,hrest⟩:=hrel;clear hx;by_cases hlt:k≤3
  ·by_cases hsz:k<s.size
   ·have hne:((k:Int)==(s.size:Int))=false:=by simp;omega
    by_cases hlo:(s[k].toNat:Int)<L
    ·go_wp2
     go_ret3;refine⟨?_,_,rfl⟩;rw[hrest.out,show 4 - k=(3 - k)+1 from by omega,im s _ k R L H hsz (Or.inl hlo)];rfl
    ·by_cases hhi:H<(s[k].toNat:Int)
     ·go_wp2
      go_ret3;refine⟨?_,_,rfl⟩;rw[hrest.out,show 4 - k=(3 - k)+1 from by omega,im s _ k R L H hsz (Or.inr hhi)];rfl
     ·go_wp2
      go_round
      case rel =>
       refine⟨k+1,_,_,_,rfl,by go_num,rfl,rfl,by omega,by omega,by omega,by omega,by omega,by omega,by omega,by omega,by omega,?_⟩;show nx (bn s)=_
       rw[hrest.out,show 4 - k=(4 - (k+1))+1 from by omega,mf s _ k R L H hsz (by omega) (by omega)]
      case measure=>simp[intOf];omega
   ·have hne:((k:Int)==(s.size:Int))=true:=by simp;omega
    go_wp2
    go_ret3;refine⟨?_,_,rfl⟩;rw[hrest.out,show 4 - k=(3 - k)+1 from by omega,me s _ k R L H (by omega)];rfl
  ·go_wp2
   go_ret3;refine⟨?_,_,rfl⟩;rw[hrest.out,show 4 - k=0 from by omega];rfl
theorem qW(s:ByteArray)(w:World)(hs:s.size≤9223372036854775807):
  Calls Tryz.prog 78 #[.string s] w fun e w'=>e=.returned (.tuple #[.int .i32 (nx (bn s)).1,.int .i64 (nx (bn s)).2.1,.bool (nx (bn s)).2.2])∧∃ n,w'=w.drewN n:=by
 by_cases hp:0<s.size
 ·have he:s.toList.isEmpty=false:=ab s hp
  by_cases ha:(s[0].toNat:Int)<128
  ·have hx:Hid (nx (bn s)=((s[0].toNat:Int),1,true)):=zf s hp ha
   go_enter Tryz.func78,Tryz.ntmps78
   go_wp2
   go_ret3;exact⟨by rw[hx.out];rfl,0,rfl⟩
  ·rcases fS (s[0].toNat:Int) with hf | ⟨hf,h1,h2⟩ | ⟨hf,h1,h2⟩ | ⟨hf,h1,h2⟩
   ·have hx:Hid (nx (bn s)=(65533,1,false)):=CC s hp (by omega) hf
    have hf':Hid (follow (s[0].toNat:Int)=0):=hf;clear hf;go_enter Tryz.func78,Tryz.ntmps78
    go_wp2_with fail;refine(fT _ (by omega) (by have:=s[0].toNat_lt;omega) _).mono ?_;rw[hf'.out];rintro e w' ⟨rfl,rfl⟩
    go_wp2
    go_ret3;exact⟨by rw[hx.out];rfl,0,rfl⟩
   ·exact sT s w hs hp he h1 h2 hf
   ·exact sS s w hs hp he h1 h2 hf
   ·exact sR s w hs hp he h1 h2 hf
 ·have he:s.toList.isEmpty=true:=ah s (by omega)
  have hx:Hid (nx (bn s)=(0,0,false)):=ze s (by omega);go_enter Tryz.func78,Tryz.ntmps78
  go_wp2
  go_ret3;exact⟨by rw[hx.out];rfl,0,rfl⟩
abbrev Sc:={ x:Int×Bool // 0≤x.1∧x.1≤1114111 }
def qn(p:Int×Nat×Bool):Sc:=if h:0≤p.1∧p.1≤1114111 then ⟨(p.1,p.2.2),h⟩ else ⟨(65533,false),by decide⟩
def scs:Nat→List Int→List Sc
 | 0,_=>[]
 | _+1,[]=>[]
 | f+1,a::t=>qn (nx (a::t))::scs f ((a::t).drop (nx (a::t)).2.1)
def scl(l:List Int):List Sc:=scs l.length l
def Bytes(l:List Int):Prop:=∀ b∈l,0≤b∧b≤255
theorem uv:∀(f:Nat) (t:List Int) (n:Nat) (r lo hi:Int),n≤(nxl f t n r lo hi).2.1∧(nxl f t n r lo hi).2.1≤n+t.length
 | 0,_,_,_,_,_=>by simp[nxl]
 | _+1,[],_,_,_,_=>by simp[nxl]
 | f+1,b::t,n,r,lo,hi=>by
  rw[nxl];split
  ·simp
  ·have:=uv f t (n+1) (r * 64+b % 64) 128 191
   simp only[List.length_cons];omega
theorem j7(l:List Int)(h:l≠[]):1≤(nx l).2.1∧(nx l).2.1≤l.length:=by
 match l with
 | []=>exact absurd rfl h
 | a::t =>
  rw[nx];split
  ·simp
  ·split
   ·simp
   ·have:=uv (follow a).toNat t 1 (if follow a=1 then a % 32 else if follow a=2 then a % 16 else a % 8) (aP a) (aG a)
    simp only[List.length_cons];omega
theorem qA:∀(f g:Nat) (l:List Int),l.length≤f→l.length≤g→scs f l=scs g l
 | 0,0,_,_,_=>rfl
 | 0,_+1,[],_,_=>rfl
 | 0,_+1,_::_,h,_=>by simp at h
 | _+1,0,[],_,_=>rfl
 | _+1,0,_::_,_,h=>by simp at h
 | _+1,_+1,[],_,_=>rfl
 | f+1,g+1,a::t,h,k=>by
  have hn:=j7 (a::t) (by simp);have hlen:((a::t).drop (nx (a::t)).2.1).length≤t.length:=by simp only[List.length_drop,List.length_cons];omega
  simp only[List.length_cons]at h k;show qn (nx (a::t))::scs f _=qn (nx (a::t))::scs g _
  rw[qA f g _ (by omega) (by omega)]
theorem yp(f:Nat)(l:List Int)(h:l.length≤f):scs f l=scl l:=qA f l.length l h (Nat.le_refl _)
theorem BV:scl []=[]:=rfl
theorem lR(l:List Int)(h:l≠[]):scl l=qn (nx l)::scl (l.drop (nx l).2.1):=by
 match l with
 | []=>exact absurd rfl h
 | a::t =>
  have hn:=j7 (a::t) (by simp);show qn (nx (a::t))::scs t.length _=_
  rw[yp t.length _ (by simp only[List.length_drop,List.length_cons];omega)]
theorem aM(s:ByteArray):Bytes (bn s):=by
 intro b hb
 simp only[bn,List.mem_map]at hb;obtain⟨c,_,rfl⟩:=hb;have:=c.toNat_lt;omega
theorem Bytes.drop{l:List Int}(h:Bytes l)(k:Nat):Bytes (l.drop k):=fun b hb=>h b (List.mem_of_mem_drop hb)
theorem Bytes.take{l:List Int}(h:Bytes l)(k:Nat):Bytes (l.take k):=fun b hb=>h b (List.mem_of_mem_take hb)
theorem mh(l:List Int)(h:l≠[])(hl:Bytes l):
  (∃ a t,l=a::t∧0≤a∧a<128∧nx l=(a,1,true)) ∨
  (∃ a b t,l=a::b::t∧194≤a∧a≤223∧128≤b∧b≤191∧nx l=((a - 192) * 64+(b - 128),2,true)) ∨
  (∃ a b c t,l=a::b::c::t∧224≤a∧a≤239∧aP a≤b∧b≤aG a∧128≤c∧c≤191∧nx l=((a - 224) * 4096+(b - 128) * 64+(c - 128),3,true)) ∨
  (∃ a b c d t,l=a::b::c::d::t∧240≤a∧a≤244∧aP a≤b∧b≤aG a∧128≤c∧c≤191∧128≤d∧d≤191∧nx l=((a - 240) * 262144+(b - 128) * 4096+(c - 128) * 64+(d - 128),4,true)) ∨
  (∃ n,1≤n∧n≤3∧nx l=(65533,n,false)):=by
 have hlo:∀ c,128≤aP c:=fun c=>by unfold aP;(repeat' split) <;> omega
 have hhi:∀ c,aG c≤191:=fun c=>by unfold aG;(repeat' split) <;> omega
 match l with
 | []=>exact absurd rfl h
 | a::t =>
  have ha:=hl a (by simp);by_cases h8:a<128
  ·exact .inl ⟨a,t,rfl,ha.1,h8,by rw[nx,if_pos h8]⟩
  rcases fS a with hf | ⟨hf,h1,h2⟩ | ⟨hf,h1,h2⟩ | ⟨hf,h1,h2⟩
  ·exact .inr (.inr (.inr (.inr ⟨1,by omega,by omega,by rw[nx,if_neg h8,if_pos hf]⟩)))
  ·have hl1:aP a=128:=by unfold aP;rw[if_neg (by omega),if_neg (by omega)]
   have hh1:aG a=191:=by unfold aG;rw[if_neg (by omega),if_neg (by omega)]
   have e:nx (a::t)=nxl 1 t 1 (a % 32) 128 191:=by rw[nx,if_neg h8,hf,hl1,hh1];rfl
   match t with
   | []=>exact .inr (.inr (.inr (.inr ⟨1,by omega,by omega,by rw[e];rfl⟩)))
   | b::t =>
    by_cases hb:b<128∨191<b
    ·exact .inr (.inr (.inr (.inr ⟨1,by omega,by omega,by rw[e,nxl,if_pos hb]⟩)))
    ·refine .inr (.inl ⟨a,b,t,rfl,h1,h2,by omega,by omega,?_⟩)
     rw[e,nxl,if_neg hb,nxl];refine Prod.ext ?_ rfl;simp only;omega
  ·have e:nx (a::t)=nxl 2 t 1 (a % 16) (aP a) (aG a):=by rw[nx,if_neg h8,hf];rfl
   have q1:=hlo a;have q2:=hhi a
   match t with
   | []=>exact .inr (.inr (.inr (.inr ⟨1,by omega,by omega,by rw[e];rfl⟩)))
   | b::t =>
    by_cases hb:b<aP a∨aG a<b
    ·exact .inr (.inr (.inr (.inr ⟨1,by omega,by omega,by rw[e,nxl,if_pos hb]⟩)))
    ·match t with
     | []=>exact .inr (.inr (.inr (.inr ⟨2,by omega,by omega,by rw[e,nxl,if_neg hb];rfl⟩)))
     | c::t =>
      by_cases hc:c<128∨191<c
      ·exact .inr (.inr (.inr (.inr ⟨2,by omega,by omega,by rw[e,nxl,if_neg hb,nxl,if_pos hc]⟩)))
      ·refine .inr (.inr (.inl ⟨a,b,c,t,rfl,h1,h2,by omega,by omega,by omega,by omega,?_⟩))
       rw[e,nxl,if_neg hb,nxl,if_neg hc,nxl];refine Prod.ext ?_ rfl;simp only;omega
  ·have e:nx (a::t)=nxl 3 t 1 (a % 8) (aP a) (aG a):=by rw[nx,if_neg h8,hf];rfl
   have q1:=hlo a;have q2:=hhi a
   match t with
   | []=>exact .inr (.inr (.inr (.inr ⟨1,by omega,by omega,by rw[e];rfl⟩)))
   | b::t =>
    by_cases hb:b<aP a∨aG a<b
    ·exact .inr (.inr (.inr (.inr ⟨1,by omega,by omega,by rw[e,nxl,if_pos hb]⟩)))
    ·match t with
     | []=>exact .inr (.inr (.inr (.inr ⟨2,by omega,by omega,by rw[e,nxl,if_neg hb];rfl⟩)))
     | c::t =>
      by_cases hc:c<128∨191<c
      ·exact .inr (.inr (.inr (.inr ⟨2,by omega,by omega,by rw[e,nxl,if_neg hb,nxl,if_pos hc]⟩)))
      ·match t with
       | []=>exact .inr (.inr (.inr (.inr ⟨3,by omega,by omega,by rw[e,nxl,if_neg hb,nxl,if_neg hc];rfl⟩)))
       | d::t =>
        by_cases hd:d<128∨191<d
        ·exact .inr (.inr (.inr (.inr ⟨3,by omega,by omega,by rw[e,nxl,if_neg hb,nxl,if_neg hc,nxl,if_pos hd]⟩)))
        ·refine .inr (.inr (.inr (.inl ⟨a,b,c,d,t,rfl,h1,h2,by omega,by omega,by omega,by omega,by omega,by omega,?_⟩)))
         rw[e,nxl,if_neg hb,nxl,if_neg hc,nxl,if_neg hd,nxl];refine Prod.ext ?_ rfl;simp only;omega
theorem pq(l:List Int)(h:l≠[])(hl:Bytes l):az (nx l).1=true:=by
 unfold az;rw[decide_eq_true_eq];rcases mh l h hl with⟨a,t,_,h0,h1,e⟩ | ⟨a,b,t,_,h1,h2,h3,h4,e⟩ | ⟨a,b,c,t,_,h1,h2,h3,h4,h5,h6,e⟩ | ⟨a,b,c,d,t,_,h1,h2,h3,h4,h5,h6,h7,h8,e⟩ | ⟨n,_,_,e⟩
 ·rw[e];simp only;omega
 ·rw[e];simp only;omega
 ·rw[e];simp only
  unfold aP at h3;unfold aG at h4
  by_cases q1:a=224
  ·subst q1;simp at h3 h4;omega
  ·by_cases q2:a=237
   ·subst q2;simp at h3 h4;omega
   ·rw[if_neg q1,if_neg (by omega)]at h3;rw[if_neg q2,if_neg (by omega)]at h4;omega
 ·rw[e];simp only
  unfold aP at h3;unfold aG at h4
  by_cases q1:a=240
  ·subst q1;simp at h3 h4;omega
  ·by_cases q2:a=244
   ·subst q2;simp at h3 h4;omega
   ·rw[if_neg (by omega),if_neg q1]at h3;rw[if_neg (by omega),if_neg q2]at h4;omega
 ·rw[e];simp only;omega
theorem EF(l:List Int)(hl:Bytes l):0≤(nx l).1∧(nx l).1≤1114111:=by
 by_cases h:l=[]
 ·subst h;decide
 ·have:=pq l h hl
  unfold az at this
  rw[decide_eq_true_eq]at this;omega
theorem oS(l:List Int)(hl:Bytes l):(qn (nx l)).1=((nx l).1,(nx l).2.2):=by
 unfold qn;rw[dif_pos (EF l hl)]
open Go.RowKit Go.Shelf
attribute [local go_sem] Oper.semAt_some
abbrev IE(x:Sc):Array Value:=#[.int .i32 x.1.1,.bool x.1.2]
def fC(B:Nat)(s:ByteArray)(W W':World):Prop:=Boxed W B 9 (.string s)→Boxed W' B 9 (.string s)
theorem sd{W:World}{B:Nat}{t:TypeId}{v:Value}(h:Boxed W B t v)(n:Nat):Boxed (W.drewN n) B t v:=h
theorem nF(W:World)(n:Nat):W.grownBy (W.drewN n) none:=⟨rfl,rfl,rfl,Nat.le_refl _,fun _ _ _=>rfl⟩
theorem aj(s:ByteArray)(k:Nat):bn (s.extract k s.size)=(bn s).drop k:=by
 unfold bn;rw[Lib.extract_to_end,List.map_drop]
theorem C0(n:Nat)(hn:1≤n)(l Bs:Nat)(s:ByteArray)(hs:s.size≤9223372036854775807)(J Jx:List Sc→World→Prop)
  (hJ:∀(W:World) (pre:List Sc) (m:Nat),J pre W→J pre (W.drewN m))
  (hY:∀ pre x W,J pre W→pre.length<s.size→YieldAt Fence.wide (n - 1) Tryz.prog l #[.int .i32 x.1.1,.bool x.1.2] W fun e W' =>
    (e=.returned (.bool true)∧J (pre++[x]) W'∧fC Bs s W W')∨(e=.returned (.bool false)∧Jx (pre++[x]) W'))
  (W:World) (hBs:Boxed W Bs 9 (.string s)) (h0:J [] W) :
  CallsIn Fence.wide n Tryz.prog 180 #[.func (.yield l) #[] #[],.pointer (some ⟨Bs,0,none⟩)] W fun e W'=>(∃ v,e=.returned v) ∧
   ((∃ ys,ys=scl (bn s)∧J ys W')∨(∃ pre,pre <+: scl (bn s)∧Jx pre W')):=by
 refine callsIn_of_wp Tryz.func180 rfl trivial ?_ rfl;simp only[Tryz.ntmps180,List.size_toArray,List.length_cons,List.length_nil,Nat.reduceAdd,Nat.reduceSub,Array.replicate_succ,Array.replicate_zero,List.push_toArray,List.append_toArray,List.nil_append,List.cons_append]
 gi_wp2
 gi_loopw [3] (fun i wr=>∃(k:Nat) (pre:List Sc),k≤s.size∧pre.length≤k∧i=.int .i64 k∧Boxed wr Bs 9 (.string s)∧J pre wr∧Hid (scl (bn s)=pre++scl ((bn s).drop k)))
  (fun i _=>s.size - (intOf i).toNat)
 case atStart=>exact⟨0,[],Nat.zero_le _,by simp,rfl,hBs,h0,by show scl (bn s)=_;simp⟩
 case round =>
  obtain⟨k,pre,hk,hpk,rfl,hbx,hJs,hrest⟩:=hrel;have hcs:=hbx.cell;by_cases hlt:k<s.size
  ·obtain⟨x,hx⟩:∃ x:Sc,x=qn (nx ((bn s).drop k)):=⟨_,rfl⟩
   have hxv:Hid (((nx ((bn s).drop k)).1,(nx ((bn s).drop k)).2.2)=x.1):=by
    show _=_
    rw[hx,oS _ ((aM s).drop k)]
   have hne:(bn s).drop k≠[]:=fun h=>by have:=congrArg List.length h;rw[List.length_drop,aa]at this;simp at this;omega
   have hnn:=j7 _ hne;rw[List.length_drop,aa]at hnn
   have hstep:Hid (scl ((bn s).drop k)=x::scl ((bn s).drop (k+(nx ((bn s).drop k)).2.1))):=by
    show _=_
    rw[lR _ hne,←hx,List.drop_drop]
   clear hx
   gi_wp2_with fail
   refine⟨trivial,?_⟩;refine(callsIn_wide.2 (qW _ _ (by simp;omega))).mono ?_;rintro e w' ⟨rfl,m,rfl⟩
   rw[aj];rw[show(nx ((bn s).drop k)).1=x.1.1 from congrArg Prod.fst hxv.out,show(nx ((bn s).drop k)).2.2=x.1.2 from congrArg Prod.snd hxv.out]
   generalize hN:(nx ((bn s).drop k)).2.1=N at *
   clear hN hxv;obtain⟨fn,tmps,assign,body,hy,hR⟩:=hY pre x (wr.drewN m) (hJ _ _ _ hJs) (by omega)
   gi_wp2
   refine hR.mono ?_;rintro e W3 (⟨rfl,hJ3,hk3⟩ | ⟨rfl,hJx3⟩)
   ·have hbx3:=hk3 (sd hbx m)
    have hcs3:=hbx3.cell
    gi_wp2
    go_roundw
    case rel=>exact⟨k+N,pre++[x],by omega,by simp;omega,by go_num,hbx3,hJ3,by show _=_;rw[hrest.out,hstep.out];simp⟩
    case measure=>simp[intOf];omega
   ·gi_wp2
    refine bodyPost_ret (results_none rfl _ _ _) rfl ?_;exact⟨⟨_,rfl⟩,.inr ⟨pre++[x],⟨scl ((bn s).drop (k+N)),by rw[hrest.out,hstep.out];simp⟩,hJx3⟩⟩
  ·gi_wp2
   go_end0
   refine⟨⟨_,rfl⟩,.inl ⟨pre,?_,hJs⟩⟩;rw[hrest.out,eP s k (by omega),BV,List.append_nil]
theorem lS(n:Nat)(s:ByteArray)(w:World):
  CallsIn Fence.wide n Tryz.prog 128 #[.string s] w fun e w'=>e=.returned (.func (.func 180) #[] #[.pointer (some ⟨w.heap.size,0,none⟩)])∧w'=w.alloc (.cells #[.string s] 9):=by
 refine callsIn_of_wp Tryz.func128 rfl trivial ?_ rfl;simp only[Tryz.ntmps128,List.size_toArray,List.length_cons,List.length_nil,Nat.reduceAdd,Nat.reduceSub,Array.replicate_succ,Array.replicate_zero,List.push_toArray,List.append_toArray,List.nil_append,List.cons_append]
 gi_wp2
 go_ret;exact⟨rfl,rfl⟩
theorem my(n:Nat)(hn:1≤n)(Bs:Nat)(s:ByteArray)(hs:s.size≤9223372036854775807)(w:World)(hc:Boxed w Bs 9 (.string s)):
  SeqStopsK Fence.wide n Tryz.prog 180 #[.pointer (some ⟨Bs,0,none⟩)] IE (fC Bs s) (fun ys=>ys=scl (bn s)) (fun pre=>pre <+: scl (bn s)) s.size w:=fun l J Jx W hW hJ _ hY h0 =>
 C0 n hn l Bs s hs J Jx (fun W pre m h=>hJ pre W _ none h (nF W m) (fun r e=>by cases e)) hY W ((hW.block Bs hc.lt).trans hc) h0
theorem mv{Bs:Nat}{s:ByteArray}{A B C:World}(h:fC Bs s A B)(k:fC Bs s B C):fC Bs s A C:=fun x=>k (h x)
theorem mw{Bs:Nat}{s:ByteArray}{w:World}(hB:Bs<w.heap.size)(W:World)(l:Nat)(o o':Obj)(hl:w.heap.size≤l)(_:W.heap[l]? = some o)(_:o.isCells=false)(_:o.isWalk=false):fC Bs s W (W.putObj l o') :=
 fun x=>(World.putObj_heap_other (by omega)).trans x
def enc(c:Int):List Int :=
 if c<128 then [c] else if c<2048 then [192+c / 64,128+c % 64] else if c<65536 then [224+c / 4096,128+c / 64 % 64,128+c % 64]
 else [240+c / 262144,128+c / 4096 % 64,128+c / 64 % 64,128+c % 64]
theorem fX(c:Int):1≤(enc c).length∧(enc c).length≤4:=by unfold enc;(repeat' split) <;> simp
theorem Tryz.info5:(Tryz.prog.info? 5).map (fun i=>(i.zero,i.size,i.bytes))=some (some (.int .u8 0),1,1):=by kernel_rfl
theorem bZ(w:World)(t:TypeId)(l:List Value):∀(j:Nat) (u:Value),l[j]? = some u→(w.alloc (.cells l.toArray t)).cell? ((⟨w.heap.size,0,none⟩:Addr).add j)=some u:=by
 intro j u h
 have hb:(w.alloc (.cells l.toArray t)).heap[w.heap.size]? = some (.cells l.toArray t):=heap_alloc_new w _
 generalize w.alloc (.cells l.toArray t)=W at hb ⊢
 generalize w.heap.size=g at hb ⊢
 by_cases hj:j=0
 ·subst hj;simp[World.cell?,Addr.add,hb,h]
 ·simp[World.cell?,Addr.add,hj,hb,h]
theorem dE{a b c:World}{row:Option Nat}(h:a.grownBy b none)(k:b.grownBy c row):a.grownBy c row :=
 ⟨k.os.trans h.os,k.tape.trans h.tape,k.output.trans h.output,Nat.le_trans h.size k.size,fun i hi hr=>(k.block i (Nat.lt_of_lt_of_le hi h.size) hr).trans (h.block i hi (by simp))⟩
theorem En(base:Nat)(v:Value)(k:Nat)(xs:List Value)(c:Int)(h0:0≤c)(h1:c<128)(w:World)(hb:base≤w.heap.size)(hk:k≤1099511627776)(hrow:w.ownsRow base 5 1 v k xs):
  Calls Tryz.prog 129 #[v,.int .i32 c] w fun e W'=>∃ v',e=.returned v'∧W'.ownsRow base 5 1 v' (k+1) (xs++[.int .u8 c])∧w.grownBy W' v.ownBlock:=by
 obtain⟨i0,hi,hz0,hz1,hz2⟩:=info_parts Tryz.info5;go_enter Tryz.func129,Tryz.ntmps129
 go_wp2_with(at_builtin;refine wpList_append_own _ rfl _ _ 36 rfl base 5 i0 (.int .u8 0) 1 1 Tryz.underlying36 hi hz0 hz1 hz2 rfl (by decide) _ _ _ rfl (hrow.alloc _) ⟨w.heap.size,0,none⟩ 1 1 [.int .u8 c] rfl rfl (bZ _ _ _) (by simp[Value.oneCell']) (by unfold maxLen;omega) (by omega) (by simp;omega) ?_;intro v' w1 hown' hgrow _)
 go_ret;exact⟨v',rfl,hown',dE (World.grownBy_alloc _ _ none) hgrow⟩
theorem Em(base:Nat)(v:Value)(k:Nat)(xs:List Value)(c:Int)(h0:128≤c)(h1:c<2048)(w:World)(hb:base≤w.heap.size)(hk:k≤1099511627776)(hrow:w.ownsRow base 5 1 v k xs):
  Calls Tryz.prog 129 #[v,.int .i32 c] w fun e W'=>∃ v',e=.returned v'∧W'.ownsRow base 5 1 v' (k+2) (xs++[.int .u8 (192+c / 64),.int .u8 (128+c % 64)])∧w.grownBy W' v.ownBlock:=by
 obtain⟨i0,hi,hz0,hz1,hz2⟩:=info_parts Tryz.info5;go_enter Tryz.func129,Tryz.ntmps129
 go_wp2_with fail;refine(cQ _ (by omega) (by omega) _).mono ?_;rintro e w' ⟨rfl,rfl⟩
 go_wp2_with(at_builtin;refine wpList_append_own _ rfl _ _ 36 rfl base 5 i0 (.int .u8 0) 1 1 Tryz.underlying36 hi hz0 hz1 hz2 rfl (by decide) _ _ _ rfl (hrow.alloc _) ⟨w'.heap.size,0,none⟩ 2 2 [.int .u8 (192+c / 64),.int .u8 (128+c % 64)] rfl rfl (bZ _ _ _) (by simp[Value.oneCell']) (by unfold maxLen;omega) (by omega) (by simp;omega) ?_;intro v' w1 hown' hgrow _)
 go_ret;exact⟨v',rfl,hown',dE (World.grownBy_alloc _ _ none) hgrow⟩
theorem Ek(base:Nat)(v:Value)(k:Nat)(xs:List Value)(c:Int)(h0:2048≤c)(h1:c<65536)(w:World)(hb:base≤w.heap.size)(hk:k≤1099511627776)(hrow:w.ownsRow base 5 1 v k xs):
  Calls Tryz.prog 129 #[v,.int .i32 c] w fun e W'=>∃ v',e=.returned v'∧W'.ownsRow base 5 1 v' (k+3) (xs++[.int .u8 (224+c / 4096),.int .u8 (128+c / 64 % 64),.int .u8 (128+c % 64)])∧w.grownBy W' v.ownBlock:=by
 obtain⟨i0,hi,hz0,hz1,hz2⟩:=info_parts Tryz.info5;go_enter Tryz.func129,Tryz.ntmps129
 go_wp2_with fail;refine(cQ _ (by omega) (by omega) _).mono ?_;rintro e w' ⟨rfl,rfl⟩
 go_wp2_with fail;refine(cQ _ (by omega) (by omega) _).mono ?_;rintro e w' ⟨rfl,rfl⟩
 go_wp2_with(at_builtin;refine wpList_append_own _ rfl _ _ 36 rfl base 5 i0 (.int .u8 0) 1 1 Tryz.underlying36 hi hz0 hz1 hz2 rfl (by decide) _ _ _ rfl (hrow.alloc _) ⟨w'.heap.size,0,none⟩ 3 3 [.int .u8 (224+c / 4096),.int .u8 (128+c / 64 % 64),.int .u8 (128+c % 64)] rfl rfl (bZ _ _ _) (by simp[Value.oneCell']) (by unfold maxLen;omega) (by omega) (by simp;omega) ?_;intro v' w1 hown' hgrow _)
 go_ret;exact⟨v',rfl,hown',dE (World.grownBy_alloc _ _ none) hgrow⟩
theorem Ej(base:Nat)(v:Value)(k:Nat)(xs:List Value)(c:Int)(h0:65536≤c)(h1:c<1114112)(w:World)(hb:base≤w.heap.size)(hk:k≤1099511627776)(hrow:w.ownsRow base 5 1 v k xs):
  Calls Tryz.prog 129 #[v,.int .i32 c] w fun e W'=>∃ v',e=.returned v'∧W'.ownsRow base 5 1 v' (k+4) (xs++[.int .u8 (240+c / 262144),.int .u8 (128+c / 4096 % 64),.int .u8 (128+c / 64 % 64),.int .u8 (128+c % 64)])∧w.grownBy W' v.ownBlock:=by
 obtain⟨i0,hi,hz0,hz1,hz2⟩:=info_parts Tryz.info5;go_enter Tryz.func129,Tryz.ntmps129
 go_wp2_with fail;refine(cQ _ (by omega) (by omega) _).mono ?_;rintro e w' ⟨rfl,rfl⟩
 go_wp2_with fail;refine(cQ _ (by omega) (by omega) _).mono ?_;rintro e w' ⟨rfl,rfl⟩
 go_wp2_with fail;refine(cQ _ (by omega) (by omega) _).mono ?_;rintro e w' ⟨rfl,rfl⟩
 go_wp2_with(at_builtin;refine wpList_append_own _ rfl _ _ 36 rfl base 5 i0 (.int .u8 0) 1 1 Tryz.underlying36 hi hz0 hz1 hz2 rfl (by decide) _ _ _ rfl (hrow.alloc _) ⟨w'.heap.size,0,none⟩ 4 4 [.int .u8 (240+c / 262144),.int .u8 (128+c / 4096 % 64),.int .u8 (128+c / 64 % 64),.int .u8 (128+c % 64)] rfl rfl (bZ _ _ _) (by simp[Value.oneCell']) (by unfold maxLen;omega) (by omega) (by simp;omega) ?_;intro v' w1 hown' hgrow _)
 go_ret;exact⟨v',rfl,hown',dE (World.grownBy_alloc _ _ none) hgrow⟩
theorem ng(base:Nat)(v:Value)(k:Nat)(xs:List Value)(c:Int)(h0:0≤c)(h1:c≤1114111)(w:World)(hb:base≤w.heap.size)(hk:k≤1099511627776)(hrow:w.ownsRow base 5 1 v k xs):
  Calls Tryz.prog 129 #[v,.int .i32 c] w fun e W'=>∃ v',e=.returned v'∧W'.ownsRow base 5 1 v' (k+(enc c).length) (xs++(enc c).map (Value.int .u8))∧w.grownBy W' v.ownBlock:=by
 unfold enc;by_cases q1:c<128
 ·rw[if_pos q1];exact En base v k xs c h0 q1 w hb hk hrow
 ·rw[if_neg q1]
  by_cases q2:c<2048
  ·rw[if_pos q2];exact Em base v k xs c (by omega) q2 w hb hk hrow
  ·rw[if_neg q2]
   by_cases q3:c<65536
   ·rw[if_pos q3];exact Ek base v k xs c (by omega) q3 w hb hk hrow
   ·rw[if_neg q3];exact Ej base v k xs c (by omega) (by omega) w hb hk hrow
end Go.Proofs.YtkekkbciiohbkaaGreatDoor.U
