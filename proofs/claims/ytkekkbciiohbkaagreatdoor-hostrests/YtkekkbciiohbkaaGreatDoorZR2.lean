/- Texts one behind the other: VC NPA XL VD VN. -/
import Derived.Test.YtkekkbciiohbkaaGreatDoorZ4
import Derived.Test.YtkekkbciiohbkaaGreatDoorZR1
import Derived.Test.YtkekkbciiohbkaaGreatDoorZ13
import Derived.Test.YtkekkbciiohbkaaGreatDoorZ14
import Derived.Test.YtkekkbciiohbkaaGreatDoorZ36
import Derived.Test.YtkekkbciiohbkaaGreatDoorZ39
import Derived.Test.YtkekkbciiohbkaaGreatDoorZ29
import Derived.WalkSpells
import Derived.WalkLawsBesides
import Derived.Below
import Derived.Laws.StructEq
set_option maxRecDepth 100000
set_option maxHeartbeats 16000000
set_option linter.unusedVariables false
set_option linter.unnecessarySimpa false
namespace Go.Proofs.YtkekkbciiohbkaaGreatDoor.H
open Go.RowKit
open Go.Proofs.YtkekkbciiohbkaaGreatDoor.F (bn aa av aq ar hid aj ab ah aR aK)
theorem Ctr.cpIs{A:List Int→List Int→Int→Prop}{G:World→Prop}(C:Ctr A G){s:ByteArray}{sp:Bool}{h:Hst}{n:ByteArray}(hs:s.size≤100000)(x:HP A (bn s) sp h)(hn:bn n=h.2.1)(W:World)(hG:G W):
  Calls Tryz.prog 9 #[.string s,.bool sp] W fun e W'=>e=.returned (.tuple #[hvl h.1 n h.2.2.1 h.2.2.2.1,.int .i64 h.2.2.2.2])∧Below W.heap.size W W' :=
 (C.cp s sp W hs hG).mono (by
   rintro e W' ⟨⟨h',n',x',hn',rfl⟩,hB⟩
   obtain rfl:=HP.one C.asc x x'
   obtain rfl:=av (hn.trans hn'.symm)
   exact⟨rfl,hB⟩)
theorem Ctr.ctIs{A:List Int→List Int→Int→Prop}{G:World→Prop}(C:Ctr A G){k:Nat}{n:ByteArray}{f:Nat}{a:List Nat}{t:ByteArray}(hz:n.size≤400000000)(hk:k<256)(hf:f<4294967296)(ha:a.length=8)(hs:X.Small a)(h:txt (k,bn n,f,a,0)=bn t)(W:World)(hG:G W):
  Calls Tryz.prog 11 #[hvl k n f a] W fun e W'=>e=.returned (.string t)∧Below W.heap.size W W' :=
 (C.ct k n f a W hz hk hf ha hs hG).mono (by
   rintro e W' ⟨⟨u,rfl,hu⟩,hB⟩
   obtain rfl:=av (hu.trans h)
   exact⟨rfl,hB⟩)
def em:ByteArray:=⟨#[]⟩
theorem hp4{A:List Int→List Int→Int→Prop}:HP A (bn w4) false (3,[],0,[0,0,0,0,0,0,0,1],0):=by
 unfold HP;rw[if_neg (by decide),if_pos (by decide)]
 decide +kernel
theorem hp3{A:List Int→List Int→Int→Prop}(hA:Asc A){h:Hst}(x:HP A (bn w3) true h):h=non 70:=by
 unfold HP at x
 rw[if_neg (by decide),if_neg (by decide),if_neg (by decide)]at x;obtain⟨d,r,h1,rfl⟩:=x;rw[show E.de (bn w3)=[97,32,98] by decide]at h1;unfold dom;rw[if_pos (hA.bln h1)]
theorem df:X.Small [0,0,0,0,0,0,0,1]:=by unfold X.Small;decide
theorem bI(t:ByteArray):(t.toList==t.toList)=true:=aK rfl
theorem da{A:List Int→List Int→Int→Prop}{G:World→Prop}(C:Ctr A G)(w:World)(hG:G w):Calls Tryz.prog 8 #[] w fun e W'=>e=.returned (.bool true)∧Below w.heap.size w W':=by
 have H1:Hid (∀ W,G W→Calls Tryz.prog 9 #[.string ⟨#[69,88,65,77,80,76,69,46,99,111,109]⟩,.bool true] W fun e W'=>e=.returned (.tuple #[hv 1 ⟨#[101,120,97,109,112,108,101,46,99,111,109]⟩ 0 0 0 0 0 0 0 0 0,.int .i64 0])∧Below W.heap.size W W'):=fun W h=>C.cpIs (s:=w1) (n:=x1) (by decide) (hp1 C.asc) rfl W h
 have H2:Hid (∀ W,G W→Calls Tryz.prog 9 #[.string ⟨#[48,120,55,102,46,49]⟩,.bool true] W fun e W'=>e=.returned (.tuple #[hv 2 ⟨#[]⟩ 2130706433 0 0 0 0 0 0 0 0,.int .i64 0])∧Below W.heap.size W W'):=fun W h=>C.cpIs (s:=w2) (n:=em) (by decide) (hp2 C.asc) rfl W h
 have H3:Hid (∀ W,G W→Calls Tryz.prog 9 #[.string ⟨#[97,32,98]⟩,.bool true] W fun e W'=>e=.returned (.tuple #[hv 0 ⟨#[]⟩ 0 0 0 0 0 0 0 0 0,.int .i64 70])∧Below W.heap.size W W'):=fun W h=>(C.cp w3 true W (by decide) h).mono (by
   rintro e W' ⟨⟨h',n',x',hn',rfl⟩,hB⟩
   obtain rfl:=hp3 C.asc x'
   obtain rfl:=av (s:=n') (t:=em) (hn'.trans rfl)
   exact⟨rfl,hB⟩)
 have H4:Hid (∀ W,G W→Calls Tryz.prog 9 #[.string ⟨#[91,58,58,49,93]⟩,.bool false] W fun e W'=>e=.returned (.tuple #[hv 3 ⟨#[]⟩ 0 0 0 0 0 0 0 0 1,.int .i64 0])∧Below W.heap.size W W'):=fun W h=>C.cpIs (s:=w4) (n:=em) (by decide) hp4 rfl W h
 have T1:Hid (∀ W,G W→Calls Tryz.prog 11 #[hv 1 ⟨#[101,120,97,109,112,108,101,46,99,111,109]⟩ 0 0 0 0 0 0 0 0 0] W fun e W'=>e=.returned (.string ⟨#[101,120,97,109,112,108,101,46,99,111,109]⟩)∧Below W.heap.size W W'):=fun W h=>C.ctIs (k:=1) (n:=x1) (f:=0) (a:=z8) (t:=x1) (by decide) (by decide) (by decide) rfl bq rfl W h
 have T2:Hid (∀ W,G W→Calls Tryz.prog 11 #[hv 2 ⟨#[]⟩ 2130706433 0 0 0 0 0 0 0 0] W fun e W'=>e=.returned (.string ⟨#[49,50,55,46,48,46,48,46,49]⟩)∧Below W.heap.size W W'):=fun W h=>C.ctIs (k:=2) (n:=em) (f:=2130706433) (a:=z8) (t:=x2) (by decide) (by decide) (by decide) rfl bq (by decide +kernel) W h
 have T4:Hid (∀ W,G W→Calls Tryz.prog 11 #[hv 3 ⟨#[]⟩ 0 0 0 0 0 0 0 0 1] W fun e W'=>e=.returned (.string ⟨#[91,58,58,49,93]⟩)∧Below W.heap.size W W'):=fun W h=>C.ctIs (k:=3) (n:=em) (f:=0) (a:=[0,0,0,0,0,0,0,1]) (t:=w4) (by decide) (by decide) (by decide) rfl df (by decide +kernel) W h
 have M1:Hid (∀ W,G W→Calls Tryz.prog 13 #[hv 0 ⟨#[]⟩ 0 0 0 0 0 0 0 0 0] W fun e W'=>e=.returned (.bool true)∧Below W.heap.size W W'):=fun W h=>(C.cm 0 em 0 z8 W (by decide) (by decide) (by decide) rfl bq h).mono (by
   rintro e W' ⟨⟨b,hb,rfl⟩,hB⟩
   unfold May at hb
   rw[if_pos (show((0,bn em,0,z8,0):Hst)=non 0 from rfl)]at hb
   rw[hb]
   exact⟨rfl,hB⟩)
 have HB:Hid (Below w.heap.size w w):=Below.refl _ _;have HK:Hid (∀ W,Below w.heap.size w W→G W):=fun W h=>C.keep w W hG h
 have e1:=bI ⟨#[101,120,97,109,112,108,101,46,99,111,109]⟩;have e2:=bI ⟨#[49,50,55,46,48,46,48,46,49]⟩;have e4:=bI ⟨#[91,58,58,49,93]⟩;clear C hG;go_enter Tryz.func8,Tryz.ntmps8
 go_wp2_with fail;refine(H1.out _ (HK.out _ HB.out)).mono ?_;rintro e v1 ⟨rfl,B⟩
 have A1:=hid (heap_alloc_new v1 (.cells #[.int .u8 1,.string ⟨#[101,120,97,109,112,108,101,46,99,111,109]⟩,.int .u32 0,.int .u16 0,.int .u16 0,.int .u16 0,.int .u16 0,.int .u16 0,.int .u16 0,.int .u16 0,.int .u16 0] 26))
 replace HB:=hid (HB.out.trans (B.mono HB.out.size))
 replace HB:=hid (HB.out.alloc HB.out.size (.cells #[.int .u8 1,.string ⟨#[101,120,97,109,112,108,101,46,99,111,109]⟩,.int .u32 0,.int .u16 0,.int .u16 0,.int .u16 0,.int .u16 0,.int .u16 0,.int .u16 0,.int .u16 0,.int .u16 0] 26))
 clear B H1
 go_wp2_with fail;refine(H2.out _ (HK.out _ HB.out)).mono ?_;rintro e v2 ⟨rfl,B⟩
 replace A1:=hid (aA (ag A1.out B) (.cells #[.int .u8 2,.string ⟨#[]⟩,.int .u32 2130706433,.int .u16 0,.int .u16 0,.int .u16 0,.int .u16 0,.int .u16 0,.int .u16 0,.int .u16 0,.int .u16 0] 26))
 have A2:=hid (heap_alloc_new v2 (.cells #[.int .u8 2,.string ⟨#[]⟩,.int .u32 2130706433,.int .u16 0,.int .u16 0,.int .u16 0,.int .u16 0,.int .u16 0,.int .u16 0,.int .u16 0,.int .u16 0] 26))
 replace HB:=hid (HB.out.trans (B.mono HB.out.size))
 replace HB:=hid (HB.out.alloc HB.out.size (.cells #[.int .u8 2,.string ⟨#[]⟩,.int .u32 2130706433,.int .u16 0,.int .u16 0,.int .u16 0,.int .u16 0,.int .u16 0,.int .u16 0,.int .u16 0,.int .u16 0] 26))
 clear B H2
 go_wp2_with fail;refine(H3.out _ (HK.out _ HB.out)).mono ?_;rintro e v3 ⟨rfl,B⟩
 replace A1:=hid (aA (ag A1.out B) (.cells #[.int .u8 0,.string ⟨#[]⟩,.int .u32 0,.int .u16 0,.int .u16 0,.int .u16 0,.int .u16 0,.int .u16 0,.int .u16 0,.int .u16 0,.int .u16 0] 26))
 replace A2:=hid (aA (ag A2.out B) (.cells #[.int .u8 0,.string ⟨#[]⟩,.int .u32 0,.int .u16 0,.int .u16 0,.int .u16 0,.int .u16 0,.int .u16 0,.int .u16 0,.int .u16 0,.int .u16 0] 26))
 replace HB:=hid (HB.out.trans (B.mono HB.out.size))
 replace HB:=hid (HB.out.alloc HB.out.size (.cells #[.int .u8 0,.string ⟨#[]⟩,.int .u32 0,.int .u16 0,.int .u16 0,.int .u16 0,.int .u16 0,.int .u16 0,.int .u16 0,.int .u16 0,.int .u16 0] 26))
 clear B H3
 go_wp2_with fail;refine(H4.out _ (HK.out _ HB.out)).mono ?_;rintro e v4 ⟨rfl,B⟩
 replace A1:=hid (aA (ag A1.out B) (.cells #[.int .u8 3,.string ⟨#[]⟩,.int .u32 0,.int .u16 0,.int .u16 0,.int .u16 0,.int .u16 0,.int .u16 0,.int .u16 0,.int .u16 0,.int .u16 1] 26))
 replace A2:=hid (aA (ag A2.out B) (.cells #[.int .u8 3,.string ⟨#[]⟩,.int .u32 0,.int .u16 0,.int .u16 0,.int .u16 0,.int .u16 0,.int .u16 0,.int .u16 0,.int .u16 0,.int .u16 1] 26))
 have A4:=hid (heap_alloc_new v4 (.cells #[.int .u8 3,.string ⟨#[]⟩,.int .u32 0,.int .u16 0,.int .u16 0,.int .u16 0,.int .u16 0,.int .u16 0,.int .u16 0,.int .u16 0,.int .u16 1] 26))
 replace HB:=hid (HB.out.trans (B.mono HB.out.size))
 replace HB:=hid (HB.out.alloc HB.out.size (.cells #[.int .u8 3,.string ⟨#[]⟩,.int .u32 0,.int .u16 0,.int .u16 0,.int .u16 0,.int .u16 0,.int .u16 0,.int .u16 0,.int .u16 0,.int .u16 1] 26))
 clear B H4;have F1_0:World.cell? _ ⟨v1.heap.size,0,none⟩=some (.int .u8 1):=cell_of_row _ _ 0 _ _ _ A1.out;have F1_1:World.cell? _ ⟨v1.heap.size,1,none⟩=some (.string ⟨#[101,120,97,109,112,108,101,46,99,111,109]⟩):=cell_of_row _ _ 1 _ _ _ A1.out;have F1_2:World.cell? _ ⟨v1.heap.size,2,none⟩=some (.int .u32 0):=cell_of_row _ _ 2 _ _ _ A1.out;have F1_3:World.cell? _ ⟨v1.heap.size,3,none⟩=some (.int .u16 0):=cell_of_row _ _ 3 _ _ _ A1.out;have F1_4:World.cell? _ ⟨v1.heap.size,4,none⟩=some (.int .u16 0):=cell_of_row _ _ 4 _ _ _ A1.out;have F1_5:World.cell? _ ⟨v1.heap.size,5,none⟩=some (.int .u16 0):=cell_of_row _ _ 5 _ _ _ A1.out;have F1_6:World.cell? _ ⟨v1.heap.size,6,none⟩=some (.int .u16 0):=cell_of_row _ _ 6 _ _ _ A1.out;have F1_7:World.cell? _ ⟨v1.heap.size,7,none⟩=some (.int .u16 0):=cell_of_row _ _ 7 _ _ _ A1.out;have F1_8:World.cell? _ ⟨v1.heap.size,8,none⟩=some (.int .u16 0):=cell_of_row _ _ 8 _ _ _ A1.out;have F1_9:World.cell? _ ⟨v1.heap.size,9,none⟩=some (.int .u16 0):=cell_of_row _ _ 9 _ _ _ A1.out;have F1_10:World.cell? _ ⟨v1.heap.size,10,none⟩=some (.int .u16 0):=cell_of_row _ _ 10 _ _ _ A1.out
 go_wp2_with fail;refine(T1.out _ (HK.out _ HB.out)).mono ?_;rintro e u1 ⟨rfl,B⟩
 replace A1:=hid (ag A1.out B)
 replace A2:=hid (ag A2.out B)
 replace A4:=hid (ag A4.out B)
 replace HB:=hid (HB.out.trans (B.mono HB.out.size))
 clear B T1;clear F1_0 F1_1 F1_2 F1_3 F1_4 F1_5 F1_6 F1_7 F1_8 F1_9 F1_10;have F2_0:World.cell? _ ⟨v2.heap.size,0,none⟩=some (.int .u8 2):=cell_of_row _ _ 0 _ _ _ A2.out;have F2_1:World.cell? _ ⟨v2.heap.size,1,none⟩=some (.string ⟨#[]⟩):=cell_of_row _ _ 1 _ _ _ A2.out;have F2_2:World.cell? _ ⟨v2.heap.size,2,none⟩=some (.int .u32 2130706433):=cell_of_row _ _ 2 _ _ _ A2.out;have F2_3:World.cell? _ ⟨v2.heap.size,3,none⟩=some (.int .u16 0):=cell_of_row _ _ 3 _ _ _ A2.out;have F2_4:World.cell? _ ⟨v2.heap.size,4,none⟩=some (.int .u16 0):=cell_of_row _ _ 4 _ _ _ A2.out;have F2_5:World.cell? _ ⟨v2.heap.size,5,none⟩=some (.int .u16 0):=cell_of_row _ _ 5 _ _ _ A2.out;have F2_6:World.cell? _ ⟨v2.heap.size,6,none⟩=some (.int .u16 0):=cell_of_row _ _ 6 _ _ _ A2.out;have F2_7:World.cell? _ ⟨v2.heap.size,7,none⟩=some (.int .u16 0):=cell_of_row _ _ 7 _ _ _ A2.out;have F2_8:World.cell? _ ⟨v2.heap.size,8,none⟩=some (.int .u16 0):=cell_of_row _ _ 8 _ _ _ A2.out;have F2_9:World.cell? _ ⟨v2.heap.size,9,none⟩=some (.int .u16 0):=cell_of_row _ _ 9 _ _ _ A2.out;have F2_10:World.cell? _ ⟨v2.heap.size,10,none⟩=some (.int .u16 0):=cell_of_row _ _ 10 _ _ _ A2.out;have F1_0:World.cell? _ ⟨v1.heap.size,0,none⟩=some (.int .u8 1):=cell_of_row _ _ 0 _ _ _ A1.out
 go_wp2_with fail;refine(T2.out _ (HK.out _ HB.out)).mono ?_;rintro e u2 ⟨rfl,B⟩
 replace A1:=hid (ag A1.out B)
 replace A2:=hid (ag A2.out B)
 replace A4:=hid (ag A4.out B)
 replace HB:=hid (HB.out.trans (B.mono HB.out.size))
 clear B T2;clear F2_0 F2_1 F2_2 F2_3 F2_4 F2_5 F2_6 F2_7 F2_8 F2_9 F2_10;clear F1_0;have F4_0:World.cell? _ ⟨v4.heap.size,0,none⟩=some (.int .u8 3):=cell_of_row _ _ 0 _ _ _ A4.out;have F4_1:World.cell? _ ⟨v4.heap.size,1,none⟩=some (.string ⟨#[]⟩):=cell_of_row _ _ 1 _ _ _ A4.out;have F4_2:World.cell? _ ⟨v4.heap.size,2,none⟩=some (.int .u32 0):=cell_of_row _ _ 2 _ _ _ A4.out;have F4_3:World.cell? _ ⟨v4.heap.size,3,none⟩=some (.int .u16 0):=cell_of_row _ _ 3 _ _ _ A4.out;have F4_4:World.cell? _ ⟨v4.heap.size,4,none⟩=some (.int .u16 0):=cell_of_row _ _ 4 _ _ _ A4.out;have F4_5:World.cell? _ ⟨v4.heap.size,5,none⟩=some (.int .u16 0):=cell_of_row _ _ 5 _ _ _ A4.out;have F4_6:World.cell? _ ⟨v4.heap.size,6,none⟩=some (.int .u16 0):=cell_of_row _ _ 6 _ _ _ A4.out;have F4_7:World.cell? _ ⟨v4.heap.size,7,none⟩=some (.int .u16 0):=cell_of_row _ _ 7 _ _ _ A4.out;have F4_8:World.cell? _ ⟨v4.heap.size,8,none⟩=some (.int .u16 0):=cell_of_row _ _ 8 _ _ _ A4.out;have F4_9:World.cell? _ ⟨v4.heap.size,9,none⟩=some (.int .u16 0):=cell_of_row _ _ 9 _ _ _ A4.out;have F4_10:World.cell? _ ⟨v4.heap.size,10,none⟩=some (.int .u16 1):=cell_of_row _ _ 10 _ _ _ A4.out
 go_wp2_with fail;refine(T4.out _ (HK.out _ HB.out)).mono ?_;rintro e u4 ⟨rfl,B⟩
 replace A1:=hid (ag A1.out B)
 replace A4:=hid (ag A4.out B)
 replace HB:=hid (HB.out.trans (B.mono HB.out.size))
 clear B T4;clear F4_0 F4_1 F4_2 F4_3 F4_4 F4_5 F4_6 F4_7 F4_8 F4_9 F4_10
 go_wp2_with fail;refine(M1.out _ (HK.out _ HB.out)).mono ?_;rintro e u5 ⟨rfl,B⟩
 replace HB:=hid (HB.out.trans (B.mono HB.out.size))
 go_wp2;go_ret;exact⟨rfl,HB.out⟩
end Go.Proofs.YtkekkbciiohbkaaGreatDoor.H
namespace Go.Proofs.YtkekkbciiohbkaaGreatDoor.N
open Go.RowKit
theorem Pure.back{l:List Pt}(h:Pure l):(l.map (·.1)).map pt=l:=by
 rw[List.map_map]
 conv=>rhs;rw[←List.map_id l]
 exact List.map_congr_left (fun x hx=>(h x hx).symm)
end Go.Proofs.YtkekkbciiohbkaaGreatDoor.N
namespace Go.Proofs.YtkekkbciiohbkaaGreatDoor.X
open Go.RowKit
open Go.Proofs.YtkekkbciiohbkaaGreatDoor.F (hx bw vl bn aa aC av aq ar hid aj ab ah aR aK)
structure Ctr(G:World→Prop):Prop where
 keep:∀(w w':World),G w→Below w.heap.size w w'→G w'
 cp:∀(s:ByteArray) (w:World),s.size≤100000→G w→Calls Tryz.prog 41 #[.string s] w fun e W'=>e=.returned (.tuple #[.agg (ak ((prs (bn s)).getD z8)).toArray,.int .i64 (err (prs (bn s)))])∧Below w.heap.size w W'
 ct:∀(a:List Nat) (w:World),a.length=8→Small a→G w→Calls Tryz.prog 30 #[.agg (ak a).toArray] w fun e W'=>ia a w e W'
theorem Ctr.cpIs{G:World→Prop}(C:Ctr G){s:ByteArray}{a0 a1 a2 a3 a4 a5 a6 a7:Nat}(hs:s.size≤100000)(h:prs (bn s)=some [a0,a1,a2,a3,a4,a5,a6,a7])(W:World)(hG:G W):Calls Tryz.prog 41 #[.string s] W fun e W'=>e=.returned (.tuple #[.agg #[.int .u16 a0,.int .u16 a1,.int .u16 a2,.int .u16 a3,.int .u16 a4,.int .u16 a5,.int .u16 a6,.int .u16 a7],.int .i64 0])∧Below W.heap.size W W' :=
 (C.cp s W hs hG).mono (by
   rintro e W' ⟨rfl,hB⟩
   rw[h];exact⟨rfl,hB⟩)
theorem Ctr.ctIs{G:World→Prop}(C:Ctr G){a:List Nat}{t:ByteArray}(hl:a.length=8)(hs:Small a)(h:txt a=bn t)(W:World)(hG:G W):Calls Tryz.prog 30 #[.agg (ak a).toArray] W fun e W'=>e=.returned (.string t)∧Below W.heap.size W W' :=
 (C.ct a W hl hs hG).mono (by
   rintro e W' ⟨⟨u,rfl,hu⟩,hB⟩
   obtain rfl:=av (hu.trans h)
   exact⟨rfl,hB⟩)
end Go.Proofs.YtkekkbciiohbkaaGreatDoor.X
namespace Go.Proofs.YtkekkbciiohbkaaGreatDoor.H
open Go.RowKit
open Go.Proofs.YtkekkbciiohbkaaGreatDoor.F (hid)
set_option linter.unusedSimpArgs false
def aJ:List Int:=[32,35,47,58,60,62,63,64,91,92,93,94,124]
theorem rM{c:Int}:fb c=(aJ.contains c||(decide (c=0)||(decide (c=9)||(decide (c=10)||decide (c=13))))):=by
 unfold fb aJ;rw[Bool.eq_iff_iff];simp only[List.contains_iff_mem,List.mem_cons,List.mem_nil_iff,or_false,Bool.or_eq_true,decide_eq_true_eq];omega
theorem an{a b:Bool}(h:a=b):Ending.returned (.bool a)=.returned (.bool b):=by rw[h]
theorem ik(c:Int)(dm:Bool)(h0:0≤c)(h1:c≤255)(w:World):Calls Tryz.prog 15 #[.int .u8 c,.bool dm] w fun e W'=>e=.returned (.bool (if dm=true then fd c else fb c))∧W'=w:=by
 have HY:Hid (aJ.contains c=true→(if dm=true then fd c else fb c)=true):=fun h=>by
  have hb:fb c=true:=by rw[rM,h];rfl
  unfold fd;rw[hb];simp
 have HN:Hid ((∀ x∈aJ,x≠c)→(if dm=true then fd c else fb c)=(decide (c=0)||(decide (c=9)||(decide (c=10)||(decide (c=13)||(dm&&(decide (c<32)||(decide (c=37)||decide (c=127))))))))):=fun h=>by
  have hb:aJ.contains c=false:=by
   rw[Bool.eq_false_iff];intro hc
   exact h c (List.contains_iff_mem.1 hc) rfl
  unfold fd;rw[rM,hb];cases dm <;> simp[Bool.or_assoc]
 obtain⟨R,hR⟩:∃ R,(if dm=true then fd c else fb c)=R:=⟨_,rfl⟩;rw[hR]at HY HN ⊢;clear hR;go_enter Tryz.func15,Tryz.ntmps15
 go_wp2_with fail
 go_loop [5] (fun v=>∃ i:Nat,i≤13∧v=.int .i64 (i:Int)∧Hid (∀ x∈aJ.take i,x≠c)) (fun v=>13 - (intOf v).toNat)
 case atStart=>exact⟨0,by omega,rfl,fun x hx=>by simp at hx⟩
 case round =>
  obtain⟨i,hi,rfl,HI⟩:=hrel;obtain rfl | rfl | rfl | rfl | rfl | rfl | rfl | rfl | rfl | rfl | rfl | rfl | rfl | rfl:i=0∨i=1∨i=2∨i=3∨i=4∨i=5∨i=6∨i=7∨i=8∨i=9∨i=10∨i=11∨i=12∨i=13:=by omega
  ·have hg:((((⟨#[32,35,47,58,60,62,63,64,91,92,93,94,124]⟩:ByteArray)[0]'(by decide)).toNat:Nat):Int)=32:=rfl
   by_cases hc:c=32
   ·have hb:((32:Int)==c)=true:=by rw[hc];rfl
    have HR:=hid (HY.out (by rw[hc];decide));clear HY HN HI hc;go_wp2;go_ret;exact⟨an HR.out.symm,rfl⟩
   ·have hb:((32:Int)==c)=false:=by simp;omega
    have HI2:Hid (∀ x∈aJ.take 1,x≠c):=fun x hx=>by
     have e:aJ.take 1=aJ.take 0++[32]:=rfl;rw[e,List.mem_append]at hx;rcases hx with hx | hx
     ·exact HI.out x hx
     ·rw[List.mem_singleton.1 hx];omega
    clear HI hc;go_wp2;exact⟨⟨1,by omega,by go_num,HI2⟩,by simp[intOf]⟩
  ·have hg:((((⟨#[32,35,47,58,60,62,63,64,91,92,93,94,124]⟩:ByteArray)[1]'(by decide)).toNat:Nat):Int)=35:=rfl
   by_cases hc:c=35
   ·have hb:((35:Int)==c)=true:=by rw[hc];rfl
    have HR:=hid (HY.out (by rw[hc];decide));clear HY HN HI hc;go_wp2;go_ret;exact⟨an HR.out.symm,rfl⟩
   ·have hb:((35:Int)==c)=false:=by simp;omega
    have HI2:Hid (∀ x∈aJ.take 2,x≠c):=fun x hx=>by
     have e:aJ.take 2=aJ.take 1++[35]:=rfl;rw[e,List.mem_append]at hx;rcases hx with hx | hx
     ·exact HI.out x hx
     ·rw[List.mem_singleton.1 hx];omega
    clear HI hc;go_wp2;exact⟨⟨2,by omega,by go_num,HI2⟩,by simp[intOf]⟩
  ·have hg:((((⟨#[32,35,47,58,60,62,63,64,91,92,93,94,124]⟩:ByteArray)[2]'(by decide)).toNat:Nat):Int)=47:=rfl
   by_cases hc:c=47
   ·have hb:((47:Int)==c)=true:=by rw[hc];rfl
    have HR:=hid (HY.out (by rw[hc];decide));clear HY HN HI hc;go_wp2;go_ret;exact⟨an HR.out.symm,rfl⟩
   ·have hb:((47:Int)==c)=false:=by simp;omega
    have HI2:Hid (∀ x∈aJ.take 3,x≠c):=fun x hx=>by
     have e:aJ.take 3=aJ.take 2++[47]:=rfl;rw[e,List.mem_append]at hx;rcases hx with hx | hx
     ·exact HI.out x hx
     ·rw[List.mem_singleton.1 hx];omega
    clear HI hc;go_wp2;exact⟨⟨3,by omega,by go_num,HI2⟩,by simp[intOf]⟩
  ·have hg:((((⟨#[32,35,47,58,60,62,63,64,91,92,93,94,124]⟩:ByteArray)[3]'(by decide)).toNat:Nat):Int)=58:=rfl
   by_cases hc:c=58
   ·have hb:((58:Int)==c)=true:=by rw[hc];rfl
    have HR:=hid (HY.out (by rw[hc];decide));clear HY HN HI hc;go_wp2;go_ret;exact⟨an HR.out.symm,rfl⟩
   ·have hb:((58:Int)==c)=false:=by simp;omega
    have HI2:Hid (∀ x∈aJ.take 4,x≠c):=fun x hx=>by
     have e:aJ.take 4=aJ.take 3++[58]:=rfl;rw[e,List.mem_append]at hx;rcases hx with hx | hx
     ·exact HI.out x hx
     ·rw[List.mem_singleton.1 hx];omega
    clear HI hc;go_wp2;exact⟨⟨4,by omega,by go_num,HI2⟩,by simp[intOf]⟩
  ·have hg:((((⟨#[32,35,47,58,60,62,63,64,91,92,93,94,124]⟩:ByteArray)[4]'(by decide)).toNat:Nat):Int)=60:=rfl
   by_cases hc:c=60
   ·have hb:((60:Int)==c)=true:=by rw[hc];rfl
    have HR:=hid (HY.out (by rw[hc];decide));clear HY HN HI hc;go_wp2;go_ret;exact⟨an HR.out.symm,rfl⟩
   ·have hb:((60:Int)==c)=false:=by simp;omega
    have HI2:Hid (∀ x∈aJ.take 5,x≠c):=fun x hx=>by
     have e:aJ.take 5=aJ.take 4++[60]:=rfl;rw[e,List.mem_append]at hx;rcases hx with hx | hx
     ·exact HI.out x hx
     ·rw[List.mem_singleton.1 hx];omega
    clear HI hc;go_wp2;exact⟨⟨5,by omega,by go_num,HI2⟩,by simp[intOf]⟩
  ·have hg:((((⟨#[32,35,47,58,60,62,63,64,91,92,93,94,124]⟩:ByteArray)[5]'(by decide)).toNat:Nat):Int)=62:=rfl
   by_cases hc:c=62
   ·have hb:((62:Int)==c)=true:=by rw[hc];rfl
    have HR:=hid (HY.out (by rw[hc];decide));clear HY HN HI hc;go_wp2;go_ret;exact⟨an HR.out.symm,rfl⟩
   ·have hb:((62:Int)==c)=false:=by simp;omega
    have HI2:Hid (∀ x∈aJ.take 6,x≠c):=fun x hx=>by
     have e:aJ.take 6=aJ.take 5++[62]:=rfl;rw[e,List.mem_append]at hx;rcases hx with hx | hx
     ·exact HI.out x hx
     ·rw[List.mem_singleton.1 hx];omega
    clear HI hc;go_wp2;exact⟨⟨6,by omega,by go_num,HI2⟩,by simp[intOf]⟩
  ·have hg:((((⟨#[32,35,47,58,60,62,63,64,91,92,93,94,124]⟩:ByteArray)[6]'(by decide)).toNat:Nat):Int)=63:=rfl
   by_cases hc:c=63
   ·have hb:((63:Int)==c)=true:=by rw[hc];rfl
    have HR:=hid (HY.out (by rw[hc];decide));clear HY HN HI hc;go_wp2;go_ret;exact⟨an HR.out.symm,rfl⟩
   ·have hb:((63:Int)==c)=false:=by simp;omega
    have HI2:Hid (∀ x∈aJ.take 7,x≠c):=fun x hx=>by
     have e:aJ.take 7=aJ.take 6++[63]:=rfl;rw[e,List.mem_append]at hx;rcases hx with hx | hx
     ·exact HI.out x hx
     ·rw[List.mem_singleton.1 hx];omega
    clear HI hc;go_wp2;exact⟨⟨7,by omega,by go_num,HI2⟩,by simp[intOf]⟩
  ·have hg:((((⟨#[32,35,47,58,60,62,63,64,91,92,93,94,124]⟩:ByteArray)[7]'(by decide)).toNat:Nat):Int)=64:=rfl
   by_cases hc:c=64
   ·have hb:((64:Int)==c)=true:=by rw[hc];rfl
    have HR:=hid (HY.out (by rw[hc];decide));clear HY HN HI hc;go_wp2;go_ret;exact⟨an HR.out.symm,rfl⟩
   ·have hb:((64:Int)==c)=false:=by simp;omega
    have HI2:Hid (∀ x∈aJ.take 8,x≠c):=fun x hx=>by
     have e:aJ.take 8=aJ.take 7++[64]:=rfl;rw[e,List.mem_append]at hx;rcases hx with hx | hx
     ·exact HI.out x hx
     ·rw[List.mem_singleton.1 hx];omega
    clear HI hc;go_wp2;exact⟨⟨8,by omega,by go_num,HI2⟩,by simp[intOf]⟩
  ·have hg:((((⟨#[32,35,47,58,60,62,63,64,91,92,93,94,124]⟩:ByteArray)[8]'(by decide)).toNat:Nat):Int)=91:=rfl
   by_cases hc:c=91
   ·have hb:((91:Int)==c)=true:=by rw[hc];rfl
    have HR:=hid (HY.out (by rw[hc];decide));clear HY HN HI hc;go_wp2;go_ret;exact⟨an HR.out.symm,rfl⟩
   ·have hb:((91:Int)==c)=false:=by simp;omega
    have HI2:Hid (∀ x∈aJ.take 9,x≠c):=fun x hx=>by
     have e:aJ.take 9=aJ.take 8++[91]:=rfl;rw[e,List.mem_append]at hx;rcases hx with hx | hx
     ·exact HI.out x hx
     ·rw[List.mem_singleton.1 hx];omega
    clear HI hc;go_wp2;exact⟨⟨9,by omega,by go_num,HI2⟩,by simp[intOf]⟩
  ·have hg:((((⟨#[32,35,47,58,60,62,63,64,91,92,93,94,124]⟩:ByteArray)[9]'(by decide)).toNat:Nat):Int)=92:=rfl
   by_cases hc:c=92
   ·have hb:((92:Int)==c)=true:=by rw[hc];rfl
    have HR:=hid (HY.out (by rw[hc];decide));clear HY HN HI hc;go_wp2;go_ret;exact⟨an HR.out.symm,rfl⟩
   ·have hb:((92:Int)==c)=false:=by simp;omega
    have HI2:Hid (∀ x∈aJ.take 10,x≠c):=fun x hx=>by
     have e:aJ.take 10=aJ.take 9++[92]:=rfl;rw[e,List.mem_append]at hx;rcases hx with hx | hx
     ·exact HI.out x hx
     ·rw[List.mem_singleton.1 hx];omega
    clear HI hc;go_wp2;exact⟨⟨10,by omega,by go_num,HI2⟩,by simp[intOf]⟩
  ·have hg:((((⟨#[32,35,47,58,60,62,63,64,91,92,93,94,124]⟩:ByteArray)[10]'(by decide)).toNat:Nat):Int)=93:=rfl
   by_cases hc:c=93
   ·have hb:((93:Int)==c)=true:=by rw[hc];rfl
    have HR:=hid (HY.out (by rw[hc];decide));clear HY HN HI hc;go_wp2;go_ret;exact⟨an HR.out.symm,rfl⟩
   ·have hb:((93:Int)==c)=false:=by simp;omega
    have HI2:Hid (∀ x∈aJ.take 11,x≠c):=fun x hx=>by
     have e:aJ.take 11=aJ.take 10++[93]:=rfl;rw[e,List.mem_append]at hx;rcases hx with hx | hx
     ·exact HI.out x hx
     ·rw[List.mem_singleton.1 hx];omega
    clear HI hc;go_wp2;exact⟨⟨11,by omega,by go_num,HI2⟩,by simp[intOf]⟩
  ·have hg:((((⟨#[32,35,47,58,60,62,63,64,91,92,93,94,124]⟩:ByteArray)[11]'(by decide)).toNat:Nat):Int)=94:=rfl
   by_cases hc:c=94
   ·have hb:((94:Int)==c)=true:=by rw[hc];rfl
    have HR:=hid (HY.out (by rw[hc];decide));clear HY HN HI hc;go_wp2;go_ret;exact⟨an HR.out.symm,rfl⟩
   ·have hb:((94:Int)==c)=false:=by simp;omega
    have HI2:Hid (∀ x∈aJ.take 12,x≠c):=fun x hx=>by
     have e:aJ.take 12=aJ.take 11++[94]:=rfl;rw[e,List.mem_append]at hx;rcases hx with hx | hx
     ·exact HI.out x hx
     ·rw[List.mem_singleton.1 hx];omega
    clear HI hc;go_wp2;exact⟨⟨12,by omega,by go_num,HI2⟩,by simp[intOf]⟩
  ·have hg:((((⟨#[32,35,47,58,60,62,63,64,91,92,93,94,124]⟩:ByteArray)[12]'(by decide)).toNat:Nat):Int)=124:=rfl
   by_cases hc:c=124
   ·have hb:((124:Int)==c)=true:=by rw[hc];rfl
    have HR:=hid (HY.out (by rw[hc];decide));clear HY HN HI hc;go_wp2;go_ret;exact⟨an HR.out.symm,rfl⟩
   ·have hb:((124:Int)==c)=false:=by simp;omega
    have HI2:Hid (∀ x∈aJ.take 13,x≠c):=fun x hx=>by
     have e:aJ.take 13=aJ.take 12++[124]:=rfl;rw[e,List.mem_append]at hx;rcases hx with hx | hx
     ·exact HI.out x hx
     ·rw[List.mem_singleton.1 hx];omega
    clear HI hc;go_wp2;exact⟨⟨13,by omega,by go_num,HI2⟩,by simp[intOf]⟩
  ·have HR:=hid (HN.out HI.out)
   clear HY HN HI;cases dm with
   | true =>
    go_wp2
    all_goals
     go_ret;refine⟨an ?_,rfl⟩;rw[HR.out]
     first
      | decide
      | (rw[Bool.eq_iff_iff];simp only[Bool.or_eq_true,Bool.and_eq_true,beq_iff_eq,decide_eq_true_eq,Bool.false_and,Bool.true_and,Bool.or_false];omega)
      | (rw[Bool.eq_iff_iff];simp;omega)
   | false =>
    go_wp2
    all_goals
     go_ret;refine⟨an ?_,rfl⟩;rw[HR.out]
     first
      | decide
      | (rw[Bool.eq_iff_iff];simp only[Bool.or_eq_true,Bool.and_eq_true,beq_iff_eq,decide_eq_true_eq,Bool.false_and,Bool.true_and,Bool.or_false];omega)
      | (rw[Bool.eq_iff_iff];simp;omega)
theorem HP.nlen{A:List Int→List Int→Int→Prop}(hA:Asc A){s:List Int}{sp:Bool}{h:Hst}(hb:U.Bytes s)(x:HP A s sp h):h.2.1.length≤400000000:=by
 unfold HP at x
 split at x
 ·rw[x];unfold non;simp
 rename_i hl
 split at x
 ·unfold six at x
  split at x
  ·cases hp:X.prs ((s.drop 1).dropLast) with
   | none=>rw[hp]at x;rw[x];unfold non;simp
   | some a=>rw[hp]at x;rw[x];simp
  ·rw[x];unfold non;simp
 split at x
 ·unfold opq at x
  split at x
  ·rw[x];unfold non;simp
  split at x
  ·rw[x];unfold non;simp
  ·rw[x]
   have h1:=E.Al 0 (U.dec s);have h2:=U.fZ s.length s (Nat.le_refl _) hb;show(E.en 0 (U.dec s)).length≤_
   omega
 ·obtain⟨d,r,h1,rfl⟩:=x
  unfold dom;split
  ·unfold non;simp
  rename_i hn
  split
  ·split
   ·simp
   ·unfold non;simp
  ·have hr:r=0:=Decidable.byContradiction fun e=>hn (.inl e)
   rw[hr]at h1;have h2:=E.mU s.length s (Nat.le_refl _);have h3:=hA.len h1 (E.eB s.length s (Nat.le_refl _) hb) (by omega);show d.length≤_
   omega
end Go.Proofs.YtkekkbciiohbkaaGreatDoor.H
