/- Texts one behind the other: EA FN VB VC UH VA XL. -/
import Derived.Test.YtkekkbciiohbkaaGreatDoorZ2
import Derived.Test.YtkekkbciiohbkaaGreatDoorProg
import Derived.Test.YtkekkbciiohbkaaGreatDoorZ3
import Derived.Test.YtkekkbciiohbkaaGreatDoorZ4
import Derived.Test.YtkekkbciiohbkaaGreatDoorZ15
import Derived.Test.YtkekkbciiohbkaaGreatDoorZ28
import Derived.Test.YtkekkbciiohbkaaGreatDoorZ36
import Derived.WalkKit
import Derived.WalkSpells
import Derived.WalkLawsBesides
import Derived.Below
import Derived.Laws.StructEq
import Derived.Lib.IndexBytes
import Derived.OpenShut
set_option maxRecDepth 100000
set_option maxHeartbeats 16000000
set_option linter.unusedVariables false
set_option linter.unnecessarySimpa false
namespace Go.Proofs.YtkekkbciiohbkaaGreatDoor.E
open Go.RowKit
theorem gU{c:Int}{t:List Int}(h:c≠37):de (c::t)=c::de t:=rY (fun hh=>h hh.1)
end Go.Proofs.YtkekkbciiohbkaaGreatDoor.E
namespace Go.Proofs.YtkekkbciiohbkaaGreatDoor.F
open Go.RowKit
theorem cG(c:Int)(h0:0≤c)(h1:c≤255)(w:World):Calls Tryz.prog 16 #[.int .u8 c] w fun e W'=>e=.returned (.int .i64 (hx c))∧W'=w:=by
 by_cases a1:48≤c∧c≤57
 ·obtain⟨x1,x2⟩:=a1
  go_enter Tryz.func16,Tryz.ntmps16
  go_wp2;go_ret;exact⟨aX (by unfold hx;(repeat' split) <;> omega),rfl⟩
 by_cases a2:97≤c∧c≤102
 ·obtain⟨x1,x2⟩:=a2
  go_enter Tryz.func16,Tryz.ntmps16
  go_wp2;go_ret;exact⟨aX (by unfold hx;(repeat' split) <;> omega),rfl⟩
 by_cases a3:65≤c∧c≤70
 ·obtain⟨x1,x2⟩:=a3
  go_enter Tryz.func16,Tryz.ntmps16
  go_wp2;go_ret;exact⟨aX (by unfold hx;(repeat' split) <;> omega),rfl⟩
 have hm:hx c=-1:=by unfold hx;(repeat' split) <;> omega
 rw[hm];go_enter Tryz.func16,Tryz.ntmps16
 go_wp2
 all_goals first
  | (go_ret;exact⟨rfl,rfl⟩)
  | (exfalso;omega)
  | (go_ret;exact⟨aX (by omega),rfl⟩)
end Go.Proofs.YtkekkbciiohbkaaGreatDoor.F
namespace Go.Proofs.YtkekkbciiohbkaaGreatDoor.H
open Go.RowKit
theorem cV(k:Int)(n:ByteArray)(f:Int)(a:List Int):eqh k n f a k n f a=true:=by
 unfold eqh;simp
open Go.Proofs.YtkekkbciiohbkaaGreatDoor.F (bn aa av aq ar hid aj ab ah aR aK)
theorem Ctr.cpIs{A:List Int→List Int→Int→Prop}{G:World→Prop}(C:Ctr A G){s:ByteArray}{sp:Bool}{h:Hst}{n:ByteArray}(hs:s.size≤100000)(x:HP A (bn s) sp h)(hn:bn n=h.2.1)(W:World)(hG:G W):
  Calls Tryz.prog 9 #[.string s,.bool sp] W fun e W'=>e=.returned (.tuple #[hvl h.1 n h.2.2.1 h.2.2.2.1,.int .i64 h.2.2.2.2])∧Below W.heap.size W W' :=
 (C.cp s sp W hs hG).mono (by
   rintro e W' ⟨⟨h',n',x',hn',rfl⟩,hB⟩
   obtain rfl:=HP.one C.asc x x'
   obtain rfl:=av (hn.trans hn'.symm)
   exact⟨rfl,hB⟩)
theorem Ctr.ctIs{A:List Int→List Int→Int→Prop}{G:World→Prop}(C:Ctr A G){k:Nat}{n:ByteArray}{f:Nat}{a:List Nat}{t:ByteArray}(hz:n.size≤400000000)(hk:k<256)(hf:f<4294967296)(ha:a.length=8)(hs:X.Small a)(h:txt (k,bn n,f,a,0)=bn t)(W:World)(hG:G W):
  Calls Tryz.prog 11 #[hvl k n f a] W fun e W'=>e=.returned (.string t)∧Below W.heap.size W W' :=
 (C.ct k n f a W hz hk hf ha hs hG).mono (by
   rintro e W' ⟨⟨u,rfl,hu⟩,hB⟩
   obtain rfl:=av (hu.trans h)
   exact⟨rfl,hB⟩)
def em:ByteArray:=⟨#[]⟩
theorem hp4{A:List Int→List Int→Int→Prop}:HP A (bn w4) false (3,[],0,[0,0,0,0,0,0,0,1],0):=by
 unfold HP;rw[if_neg (by decide),if_pos (by decide)]
 decide +kernel
theorem hp3{A:List Int→List Int→Int→Prop}(hA:Asc A){h:Hst}(x:HP A (bn w3) true h):h=non 70:=by
 unfold HP at x
 rw[if_neg (by decide),if_neg (by decide),if_neg (by decide)]at x;obtain⟨d,r,h1,rfl⟩:=x;rw[show E.de (bn w3)=[97,32,98] by decide]at h1;unfold dom;rw[if_pos (hA.bln h1)]
theorem df:X.Small [0,0,0,0,0,0,0,1]:=by unfold X.Small;decide
theorem bI(t:ByteArray):(t.toList==t.toList)=true:=aK rfl
theorem da{A:List Int→List Int→Int→Prop}{G:World→Prop}(C:Ctr A G)(w:World)(hG:G w):Calls Tryz.prog 8 #[] w fun e W'=>e=.returned (.bool true)∧Below w.heap.size w W':=by
 have H1:Hid (∀ W,G W→Calls Tryz.prog 9 #[.string ⟨#[69,88,65,77,80,76,69,46,99,111,109]⟩,.bool true] W fun e W'=>e=.returned (.tuple #[hv 1 ⟨#[101,120,97,109,112,108,101,46,99,111,109]⟩ 0 0 0 0 0 0 0 0 0,.int .i64 0])∧Below W.heap.size W W'):=fun W h=>C.cpIs (s:=w1) (n:=x1) (by decide) (hp1 C.asc) rfl W h
 have H2:Hid (∀ W,G W→Calls Tryz.prog 9 #[.string ⟨#[48,120,55,102,46,49]⟩,.bool true] W fun e W'=>e=.returned (.tuple #[hv 2 ⟨#[]⟩ 2130706433 0 0 0 0 0 0 0 0,.int .i64 0])∧Below W.heap.size W W'):=fun W h=>C.cpIs (s:=w2) (n:=em) (by decide) (hp2 C.asc) rfl W h
 have H3:Hid (∀ W,G W→Calls Tryz.prog 9 #[.string ⟨#[97,32,98]⟩,.bool true] W fun e W'=>e=.returned (.tuple #[hv 0 ⟨#[]⟩ 0 0 0 0 0 0 0 0 0,.int .i64 70])∧Below W.heap.size W W'):=fun W h=>(C.cp w3 true W (by decide) h).mono (by
   rintro e W' ⟨⟨h',n',x',hn',rfl⟩,hB⟩
   obtain rfl:=hp3 C.asc x'
   obtain rfl:=av (s:=n') (t:=em) (hn'.trans rfl)
   exact⟨rfl,hB⟩)
 have H4:Hid (∀ W,G W→Calls Tryz.prog 9 #[.string ⟨#[91,58,58,49,93]⟩,.bool false] W fun e W'=>e=.returned (.tuple #[hv 3 ⟨#[]⟩ 0 0 0 0 0 0 0 0 1,.int .i64 0])∧Below W.heap.size W W'):=fun W h=>C.cpIs (s:=w4) (n:=em) (by decide) hp4 rfl W h
 have T1:Hid (∀ W,G W→Calls Tryz.prog 11 #[hv 1 ⟨#[101,120,97,109,112,108,101,46,99,111,109]⟩ 0 0 0 0 0 0 0 0 0] W fun e W'=>e=.returned (.string ⟨#[101,120,97,109,112,108,101,46,99,111,109]⟩)∧Below W.heap.size W W'):=fun W h=>C.ctIs (k:=1) (n:=x1) (f:=0) (a:=z8) (t:=x1) (by decide) (by decide) (by decide) rfl bq rfl W h
 have T2:Hid (∀ W,G W→Calls Tryz.prog 11 #[hv 2 ⟨#[]⟩ 2130706433 0 0 0 0 0 0 0 0] W fun e W'=>e=.returned (.string ⟨#[49,50,55,46,48,46,48,46,49]⟩)∧Below W.heap.size W W'):=fun W h=>C.ctIs (k:=2) (n:=em) (f:=2130706433) (a:=z8) (t:=x2) (by decide) (by decide) (by decide) rfl bq (by decide +kernel) W h
 have T4:Hid (∀ W,G W→Calls Tryz.prog 11 #[hv 3 ⟨#[]⟩ 0 0 0 0 0 0 0 0 1] W fun e W'=>e=.returned (.string ⟨#[91,58,58,49,93]⟩)∧Below W.heap.size W W'):=fun W h=>C.ctIs (k:=3) (n:=em) (f:=0) (a:=[0,0,0,0,0,0,0,1]) (t:=w4) (by decide) (by decide) (by decide) rfl df (by decide +kernel) W h
 have M1:Hid (∀ W,G W→Calls Tryz.prog 13 #[hv 0 ⟨#[]⟩ 0 0 0 0 0 0 0 0 0] W fun e W'=>e=.returned (.bool true)∧Below W.heap.size W W'):=fun W h=>(C.cm 0 em 0 z8 W (by decide) (by decide) (by decide) rfl bq h).mono (by
   rintro e W' ⟨⟨b,hb,rfl⟩,hB⟩
   unfold May at hb
   rw[if_pos (show((0,bn em,0,z8,0):Hst)=non 0 from rfl)]at hb
   rw[hb]
   exact⟨rfl,hB⟩)
 have HB:Hid (Below w.heap.size w w):=Below.refl _ _;have HK:Hid (∀ W,Below w.heap.size w W→G W):=fun W h=>C.keep w W hG h
 have e1:=bI ⟨#[101,120,97,109,112,108,101,46,99,111,109]⟩;have e2:=bI ⟨#[49,50,55,46,48,46,48,46,49]⟩;have e4:=bI ⟨#[91,58,58,49,93]⟩;clear C hG;go_enter Tryz.func8,Tryz.ntmps8
 go_wp2_with fail;refine(H1.out _ (HK.out _ HB.out)).mono ?_;rintro e v1 ⟨rfl,B⟩
 have A1:=hid (heap_alloc_new v1 (.cells #[.int .u8 1,.string ⟨#[101,120,97,109,112,108,101,46,99,111,109]⟩,.int .u32 0,.int .u16 0,.int .u16 0,.int .u16 0,.int .u16 0,.int .u16 0,.int .u16 0,.int .u16 0,.int .u16 0] 26))
 replace HB:=hid (HB.out.trans (B.mono HB.out.size))
 replace HB:=hid (HB.out.alloc HB.out.size (.cells #[.int .u8 1,.string ⟨#[101,120,97,109,112,108,101,46,99,111,109]⟩,.int .u32 0,.int .u16 0,.int .u16 0,.int .u16 0,.int .u16 0,.int .u16 0,.int .u16 0,.int .u16 0,.int .u16 0] 26))
 clear B H1
 go_wp2_with fail;refine(H2.out _ (HK.out _ HB.out)).mono ?_;rintro e v2 ⟨rfl,B⟩
 replace A1:=hid (aA (ag A1.out B) (.cells #[.int .u8 2,.string ⟨#[]⟩,.int .u32 2130706433,.int .u16 0,.int .u16 0,.int .u16 0,.int .u16 0,.int .u16 0,.int .u16 0,.int .u16 0,.int .u16 0] 26))
 have A2:=hid (heap_alloc_new v2 (.cells #[.int .u8 2,.string ⟨#[]⟩,.int .u32 2130706433,.int .u16 0,.int .u16 0,.int .u16 0,.int .u16 0,.int .u16 0,.int .u16 0,.int .u16 0,.int .u16 0] 26))
 replace HB:=hid (HB.out.trans (B.mono HB.out.size))
 replace HB:=hid (HB.out.alloc HB.out.size (.cells #[.int .u8 2,.string ⟨#[]⟩,.int .u32 2130706433,.int .u16 0,.int .u16 0,.int .u16 0,.int .u16 0,.int .u16 0,.int .u16 0,.int .u16 0,.int .u16 0] 26))
 clear B H2
 go_wp2_with fail;refine(H3.out _ (HK.out _ HB.out)).mono ?_;rintro e v3 ⟨rfl,B⟩
 replace A1:=hid (aA (ag A1.out B) (.cells #[.int .u8 0,.string ⟨#[]⟩,.int .u32 0,.int .u16 0,.int .u16 0,.int .u16 0,.int .u16 0,.int .u16 0,.int .u16 0,.int .u16 0,.int .u16 0] 26))
 replace A2:=hid (aA (ag A2.out B) (.cells #[.int .u8 0,.string ⟨#[]⟩,.int .u32 0,.int .u16 0,.int .u16 0,.int .u16 0,.int .u16 0,.int .u16 0,.int .u16 0,.int .u16 0,.int .u16 0] 26))
 replace HB:=hid (HB.out.trans (B.mono HB.out.size))
 replace HB:=hid (HB.out.alloc HB.out.size (.cells #[.int .u8 0,.string ⟨#[]⟩,.int .u32 0,.int .u16 0,.int .u16 0,.int .u16 0,.int .u16 0,.int .u16 0,.int .u16 0,.int .u16 0,.int .u16 0] 26))
 clear B H3
 go_wp2_with fail;refine(H4.out _ (HK.out _ HB.out)).mono ?_;rintro e v4 ⟨rfl,B⟩
 replace A1:=hid (aA (ag A1.out B) (.cells #[.int .u8 3,.string ⟨#[]⟩,.int .u32 0,.int .u16 0,.int .u16 0,.int .u16 0,.int .u16 0,.int .u16 0,.int .u16 0,.int .u16 0,.int .u16 1] 26))
 replace A2:=hid (aA (ag A2.out B) (.cells #[.int .u8 3,.string ⟨#[]⟩,.int .u32 0,.int .u16 0,.int .u16 0,.int .u16 0,.int .u16 0,.int .u16 0,.int .u16 0,.int .u16 0,.int .u16 1] 26))
 have A4:=hid (heap_alloc_new v4 (.cells #[.int .u8 3,.string ⟨#[]⟩,.int .u32 0,.int .u16 0,.int .u16 0,.int .u16 0,.int .u16 0,.int .u16 0,.int .u16 0,.int .u16 0,.int .u16 1] 26))
 replace HB:=hid (HB.out.trans (B.mono HB.out.size))
 replace HB:=hid (HB.out.alloc HB.out.size (.cells #[.int .u8 3,.string ⟨#[]⟩,.int .u32 0,.int .u16 0,.int .u16 0,.int .u16 0,.int .u16 0,.int .u16 0,.int .u16 0,.int .u16 0,.int .u16 1] 26))
 clear B H4;have F1_0:World.cell? _ ⟨v1.heap.size,0,none⟩=some (.int .u8 1):=cell_of_row _ _ 0 _ _ _ A1.out;have F1_1:World.cell? _ ⟨v1.heap.size,1,none⟩=some (.string ⟨#[101,120,97,109,112,108,101,46,99,111,109]⟩):=cell_of_row _ _ 1 _ _ _ A1.out;have F1_2:World.cell? _ ⟨v1.heap.size,2,none⟩=some (.int .u32 0):=cell_of_row _ _ 2 _ _ _ A1.out;have F1_3:World.cell? _ ⟨v1.heap.size,3,none⟩=some (.int .u16 0):=cell_of_row _ _ 3 _ _ _ A1.out;have F1_4:World.cell? _ ⟨v1.heap.size,4,none⟩=some (.int .u16 0):=cell_of_row _ _ 4 _ _ _ A1.out;have F1_5:World.cell? _ ⟨v1.heap.size,5,none⟩=some (.int .u16 0):=cell_of_row _ _ 5 _ _ _ A1.out;have F1_6:World.cell? _ ⟨v1.heap.size,6,none⟩=some (.int .u16 0):=cell_of_row _ _ 6 _ _ _ A1.out;have F1_7:World.cell? _ ⟨v1.heap.size,7,none⟩=some (.int .u16 0):=cell_of_row _ _ 7 _ _ _ A1.out;have F1_8:World.cell? _ ⟨v1.heap.size,8,none⟩=some (.int .u16 0):=cell_of_row _ _ 8 _ _ _ A1.out;have F1_9:World.cell? _ ⟨v1.heap.size,9,none⟩=some (.int .u16 0):=cell_of_row _ _ 9 _ _ _ A1.out;have F1_10:World.cell? _ ⟨v1.heap.size,10,none⟩=some (.int .u16 0):=cell_of_row _ _ 10 _ _ _ A1.out
 go_wp2_with fail;refine(T1.out _ (HK.out _ HB.out)).mono ?_;rintro e u1 ⟨rfl,B⟩
 replace A1:=hid (ag A1.out B)
 replace A2:=hid (ag A2.out B)
 replace A4:=hid (ag A4.out B)
 replace HB:=hid (HB.out.trans (B.mono HB.out.size))
 clear B T1;clear F1_0 F1_1 F1_2 F1_3 F1_4 F1_5 F1_6 F1_7 F1_8 F1_9 F1_10;have F2_0:World.cell? _ ⟨v2.heap.size,0,none⟩=some (.int .u8 2):=cell_of_row _ _ 0 _ _ _ A2.out;have F2_1:World.cell? _ ⟨v2.heap.size,1,none⟩=some (.string ⟨#[]⟩):=cell_of_row _ _ 1 _ _ _ A2.out;have F2_2:World.cell? _ ⟨v2.heap.size,2,none⟩=some (.int .u32 2130706433):=cell_of_row _ _ 2 _ _ _ A2.out;have F2_3:World.cell? _ ⟨v2.heap.size,3,none⟩=some (.int .u16 0):=cell_of_row _ _ 3 _ _ _ A2.out;have F2_4:World.cell? _ ⟨v2.heap.size,4,none⟩=some (.int .u16 0):=cell_of_row _ _ 4 _ _ _ A2.out;have F2_5:World.cell? _ ⟨v2.heap.size,5,none⟩=some (.int .u16 0):=cell_of_row _ _ 5 _ _ _ A2.out;have F2_6:World.cell? _ ⟨v2.heap.size,6,none⟩=some (.int .u16 0):=cell_of_row _ _ 6 _ _ _ A2.out;have F2_7:World.cell? _ ⟨v2.heap.size,7,none⟩=some (.int .u16 0):=cell_of_row _ _ 7 _ _ _ A2.out;have F2_8:World.cell? _ ⟨v2.heap.size,8,none⟩=some (.int .u16 0):=cell_of_row _ _ 8 _ _ _ A2.out;have F2_9:World.cell? _ ⟨v2.heap.size,9,none⟩=some (.int .u16 0):=cell_of_row _ _ 9 _ _ _ A2.out;have F2_10:World.cell? _ ⟨v2.heap.size,10,none⟩=some (.int .u16 0):=cell_of_row _ _ 10 _ _ _ A2.out;have F1_0:World.cell? _ ⟨v1.heap.size,0,none⟩=some (.int .u8 1):=cell_of_row _ _ 0 _ _ _ A1.out
 go_wp2_with fail;refine(T2.out _ (HK.out _ HB.out)).mono ?_;rintro e u2 ⟨rfl,B⟩
 replace A1:=hid (ag A1.out B)
 replace A2:=hid (ag A2.out B)
 replace A4:=hid (ag A4.out B)
 replace HB:=hid (HB.out.trans (B.mono HB.out.size))
 clear B T2;clear F2_0 F2_1 F2_2 F2_3 F2_4 F2_5 F2_6 F2_7 F2_8 F2_9 F2_10;clear F1_0;have F4_0:World.cell? _ ⟨v4.heap.size,0,none⟩=some (.int .u8 3):=cell_of_row _ _ 0 _ _ _ A4.out;have F4_1:World.cell? _ ⟨v4.heap.size,1,none⟩=some (.string ⟨#[]⟩):=cell_of_row _ _ 1 _ _ _ A4.out;have F4_2:World.cell? _ ⟨v4.heap.size,2,none⟩=some (.int .u32 0):=cell_of_row _ _ 2 _ _ _ A4.out;have F4_3:World.cell? _ ⟨v4.heap.size,3,none⟩=some (.int .u16 0):=cell_of_row _ _ 3 _ _ _ A4.out;have F4_4:World.cell? _ ⟨v4.heap.size,4,none⟩=some (.int .u16 0):=cell_of_row _ _ 4 _ _ _ A4.out;have F4_5:World.cell? _ ⟨v4.heap.size,5,none⟩=some (.int .u16 0):=cell_of_row _ _ 5 _ _ _ A4.out;have F4_6:World.cell? _ ⟨v4.heap.size,6,none⟩=some (.int .u16 0):=cell_of_row _ _ 6 _ _ _ A4.out;have F4_7:World.cell? _ ⟨v4.heap.size,7,none⟩=some (.int .u16 0):=cell_of_row _ _ 7 _ _ _ A4.out;have F4_8:World.cell? _ ⟨v4.heap.size,8,none⟩=some (.int .u16 0):=cell_of_row _ _ 8 _ _ _ A4.out;have F4_9:World.cell? _ ⟨v4.heap.size,9,none⟩=some (.int .u16 0):=cell_of_row _ _ 9 _ _ _ A4.out;have F4_10:World.cell? _ ⟨v4.heap.size,10,none⟩=some (.int .u16 1):=cell_of_row _ _ 10 _ _ _ A4.out
 go_wp2_with fail;refine(T4.out _ (HK.out _ HB.out)).mono ?_;rintro e u4 ⟨rfl,B⟩
 replace A1:=hid (ag A1.out B)
 replace A4:=hid (ag A4.out B)
 replace HB:=hid (HB.out.trans (B.mono HB.out.size))
 clear B T4;clear F4_0 F4_1 F4_2 F4_3 F4_4 F4_5 F4_6 F4_7 F4_8 F4_9 F4_10
 go_wp2_with fail;refine(M1.out _ (HK.out _ HB.out)).mono ?_;rintro e u5 ⟨rfl,B⟩
 replace HB:=hid (HB.out.trans (B.mono HB.out.size))
 go_wp2;go_ret;exact⟨rfl,HB.out⟩
end Go.Proofs.YtkekkbciiohbkaaGreatDoor.H
namespace Go.Proofs.YtkekkbciiohbkaaGreatDoor.U
open Go.RowKit
def IsRow(k:IntKind)(w:World)(a:Option Addr)(len cap:Nat)(zs:List Int):Prop :=
 (a=none∧len=0∧cap=0∧zs=[]) ∨
 ∃ x,a=some x∧len≤cap∧cap≤maxLen∧zs.length=cap∧(∀ i,i<zs.length→w.cell? (x.add i)=some (.int k (zs.getD i 0)))∧∀ n∈zs,(Lit.int k n).wf=true
theorem BX{k:IntKind}{w:World}{a:Option Addr}{len cap:Nat}{zs:List Int}(h:IsRow k w a len cap zs):len≤maxLen:=by
 rcases h with⟨_,rfl,_,rfl⟩ | ⟨x,_,hl,hm,_⟩
 ·exact Nat.zero_le _
 ·omega
end Go.Proofs.YtkekkbciiohbkaaGreatDoor.U
namespace Go.Proofs.YtkekkbciiohbkaaGreatDoor.H
open Go.RowKit
theorem jQ(s:List Int)(gs:List (List Int))(hl:gs.length=s.length)(h:∀ i,i<s.length→Sp (s[i]?.getD 0) (gs[i]?.getD [])∧(ver s i→gs[i]?.getD []=[s[i]?.getD 0])):
  ∀(n i:Nat),s.length - i≤n→I.bC (E.de (s.drop i)) (E.de ((gs.drop i).flatten)):=by
 intro n
 induction n with
 | zero =>
  intro i hi
  rw[List.drop_eq_nil_of_le (by omega),List.drop_eq_nil_of_le (by omega)];exact I.bC.nil
 | succ n ih =>
  intro i hi
  by_cases hlt:i<s.length
  ·have es:s.drop i=s[i]?.getD 0::s.drop (i+1):=by rw[List.drop_eq_getElem_cons hlt,List.getElem?_eq_getElem hlt];rfl
   have eg:(gs.drop i).flatten=gs[i]?.getD []++(gs.drop (i+1)).flatten:=by
    rw[List.drop_eq_getElem_cons (by omega),List.flatten_cons,List.getElem?_eq_getElem (by omega)];rfl
   obtain⟨h1,h2⟩:=h i hlt;by_cases hp:s[i]?.getD 0=37
   ·have g0:=h2 (.inl hp)
    rw[hp]at g0 es;by_cases hx:i+2<s.length∧0≤E.hx (s[i+1]?.getD 0)∧0≤E.hx (s[i+2]?.getD 0)
    ·obtain⟨hi2,ha,hb⟩:=hx
     have g1:=(h (i+1) (by omega)).2 (.inr (.inl ⟨by omega,by rw[Nat.add_sub_cancel];exact hp⟩));have g2:=(h (i+2) (by omega)).2 (.inr (.inr ⟨by omega,by rw[Nat.add_sub_cancel];exact hp⟩));have es1:s.drop (i+1)=s[i+1]?.getD 0::s.drop (i+2):=by rw[List.drop_eq_getElem_cons (by omega),List.getElem?_eq_getElem (by omega)];rfl
     have es2:s.drop (i+2)=s[i+2]?.getD 0::s.drop (i+3):=by rw[List.drop_eq_getElem_cons (by omega),List.getElem?_eq_getElem (by omega)];rfl
     have eg1:(gs.drop (i+1)).flatten=gs[i+1]?.getD []++(gs.drop (i+2)).flatten:=by
      rw[List.drop_eq_getElem_cons (by omega),List.flatten_cons,List.getElem?_eq_getElem (by omega)];rfl
     have eg2:(gs.drop (i+2)).flatten=gs[i+2]?.getD []++(gs.drop (i+3)).flatten:=by
      rw[List.drop_eq_getElem_cons (by omega),List.flatten_cons,List.getElem?_eq_getElem (by omega)];rfl
     rw[es,es1,es2,eg,eg1,eg2,g0,g1,g2];show I.bC (E.de (37::_::_::_)) (E.de (37::_::_::_))
     rw[E.pO ha hb,E.pO ha hb];exact I.bC.cons (I.Alt.same _) (ih (i+3) (by omega))
    ·rw[es,eg,g0]
     show I.bC (E.de (37::s.drop (i+1))) (E.de (37::(gs.drop (i+1)).flatten))
     rw[E.rY (t:=s.drop (i+1)) (by
       rintro⟨_,q1,q2,q3⟩
       rw[List.length_drop]at q1
       rw[List.getElem?_drop]at q2 q3
       exact hx ⟨by omega,q2,q3⟩),E.rY (t:=(gs.drop (i+1)).flatten) (by
       rintro⟨_,q1,q2,q3⟩
       by_cases hi1:i+1<s.length
       · have g1:=(h (i+1) hi1).2 (.inr (.inl ⟨by omega,by rw[Nat.add_sub_cancel];exact hp⟩))
         have eg1:(gs.drop (i+1)).flatten=gs[i+1]?.getD []++(gs.drop (i+2)).flatten:=by
           rw[List.drop_eq_getElem_cons (by omega),List.flatten_cons,List.getElem?_eq_getElem (by omega)];rfl
         by_cases hi2:i+2<s.length
         · have g2:=(h (i+2) hi2).2 (.inr (.inr ⟨by omega,by rw[Nat.add_sub_cancel];exact hp⟩))
           have eg2:(gs.drop (i+2)).flatten=gs[i+2]?.getD []++(gs.drop (i+3)).flatten:=by
             rw[List.drop_eq_getElem_cons (by omega),List.flatten_cons,List.getElem?_eq_getElem (by omega)];rfl
           rw[eg1,eg2,g1,g2]at q2 q3
           exact hx ⟨hi2,q2,q3⟩
         · rw[eg1,g1,List.drop_eq_nil_of_le (by omega)]at q1
           simp at q1
       · rw[List.drop_eq_nil_of_le (by omega)]at q1
         simp at q1)]
     exact I.bC.cons (I.Alt.same _) (ih (i+1) (by omega))
   ·rw[es,E.gU hp,eg]
    rcases h1 with e | ⟨_,a,b,e,ha,hb,hc⟩ | ⟨hc,e⟩
    ·rw[e]
     show I.bC _ (E.de (_::_))
     rw[E.gU hp];exact I.bC.cons (I.Alt.same _) (ih (i+1) (by omega))
    ·rw[e]
     show I.bC _ (E.de (37::a::b::_))
     rw[E.pO ha hb,hc];exact I.bC.cons (I.Alt.same _) (ih (i+1) (by omega))
    ·rw[e]
     show I.bC _ (E.de (_::_))
     rw[E.gU (by omega)];exact I.bC.cons (I.Alt.cap _ hc) (ih (i+1) (by omega))
  ·rw[List.drop_eq_nil_of_le (by omega),List.drop_eq_nil_of_le (by omega)]
   exact I.bC.nil
theorem HP.spelled{s t:List Int}(hs:U.Bytes (E.de s))(ha:I.bC (E.de s) (E.de t))(ls:s.length≤4096)(lt:t.length≤4096)(b1:¬ s.head? = some 91)(b2:¬ t.head? = some 91){h:Hst}(x:HP IA s true h):HP IA t true h:=by
 unfold HP at x ⊢
 rw[if_neg (by omega),if_neg b1,if_neg (by simp)]at x;rw[if_neg (by omega),if_neg b2,if_neg (by simp)];obtain⟨d,r,⟨T,hT,hA⟩,hd⟩:=x;refine⟨d,r,⟨T,hT,?_⟩,hd⟩;have e:=I.jR (E.de s).length (E.de s) (E.de t) (Nat.le_refl _) hs ha;unfold I.Mp at hA ⊢
 rw[e];exact hA
end Go.Proofs.YtkekkbciiohbkaaGreatDoor.H
namespace Go.Proofs.YtkekkbciiohbkaaGreatDoor.X
open Go.RowKit
open Go.Proofs.YtkekkbciiohbkaaGreatDoor.F (hx bw vl bn aa aC av aq ar hid aj ab ah aR aK)
structure Ctr(G:World→Prop):Prop where
 keep:∀(w w':World),G w→Below w.heap.size w w'→G w'
 cp:∀(s:ByteArray) (w:World),s.size≤100000→G w→Calls Tryz.prog 41 #[.string s] w fun e W'=>e=.returned (.tuple #[.agg (ak ((prs (bn s)).getD z8)).toArray,.int .i64 (err (prs (bn s)))])∧Below w.heap.size w W'
 ct:∀(a:List Nat) (w:World),a.length=8→Small a→G w→Calls Tryz.prog 30 #[.agg (ak a).toArray] w fun e W'=>ia a w e W'
theorem Ctr.cpIs{G:World→Prop}(C:Ctr G){s:ByteArray}{a0 a1 a2 a3 a4 a5 a6 a7:Nat}(hs:s.size≤100000)(h:prs (bn s)=some [a0,a1,a2,a3,a4,a5,a6,a7])(W:World)(hG:G W):Calls Tryz.prog 41 #[.string s] W fun e W'=>e=.returned (.tuple #[.agg #[.int .u16 a0,.int .u16 a1,.int .u16 a2,.int .u16 a3,.int .u16 a4,.int .u16 a5,.int .u16 a6,.int .u16 a7],.int .i64 0])∧Below W.heap.size W W' :=
 (C.cp s W hs hG).mono (by
   rintro e W' ⟨rfl,hB⟩
   rw[h];exact⟨rfl,hB⟩)
theorem Ctr.ctIs{G:World→Prop}(C:Ctr G){a:List Nat}{t:ByteArray}(hl:a.length=8)(hs:Small a)(h:txt a=bn t)(W:World)(hG:G W):Calls Tryz.prog 30 #[.agg (ak a).toArray] W fun e W'=>e=.returned (.string t)∧Below W.heap.size W W' :=
 (C.ct a W hl hs hG).mono (by
   rintro e W' ⟨⟨u,rfl,hu⟩,hB⟩
   obtain rfl:=av (hu.trans h)
   exact⟨rfl,hB⟩)
end Go.Proofs.YtkekkbciiohbkaaGreatDoor.X
