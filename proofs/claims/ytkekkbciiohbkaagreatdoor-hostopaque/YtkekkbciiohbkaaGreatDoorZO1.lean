/- Texts one behind the other: VB VC EX UQ UY UZ. -/
import Derived.Test.YtkekkbciiohbkaaGreatDoorProg
import Derived.Test.YtkekkbciiohbkaaGreatDoorZ4
import Derived.Test.YtkekkbciiohbkaaGreatDoorZ2
import Derived.Test.YtkekkbciiohbkaaGreatDoorZ19
import Derived.Test.YtkekkbciiohbkaaGreatDoorZ22
import Derived.WalkKit
import Derived.Laws.StructEq
import Derived.Lib.IndexBytes
import Derived.WalkSpells
import Derived.WalkLawsBesides
import Derived.Below
import Derived.RegionTactic
set_option maxRecDepth 100000
set_option maxHeartbeats 16000000
set_option linter.unusedVariables false
set_option linter.unnecessarySimpa false
namespace Go.Proofs.YtkekkbciiohbkaaGreatDoor.H
open Go.RowKit
theorem cV(k:Int)(n:ByteArray)(f:Int)(a:List Int):eqh k n f a k n f a=true:=by
 unfold eqh;simp
open Go.Proofs.YtkekkbciiohbkaaGreatDoor.F (bn aa av aq ar hid aj ab ah aR aK)
theorem Ctr.cpIs{A:List Int→List Int→Int→Prop}{G:World→Prop}(C:Ctr A G){s:ByteArray}{sp:Bool}{h:Hst}{n:ByteArray}(hs:s.size≤100000)(x:HP A (bn s) sp h)(hn:bn n=h.2.1)(W:World)(hG:G W):
  Calls Tryz.prog 9 #[.string s,.bool sp] W fun e W'=>e=.returned (.tuple #[hvl h.1 n h.2.2.1 h.2.2.2.1,.int .i64 h.2.2.2.2])∧Below W.heap.size W W' :=
 (C.cp s sp W hs hG).mono (by
   rintro e W' ⟨⟨h',n',x',hn',rfl⟩,hB⟩
   obtain rfl:=HP.one C.asc x x'
   obtain rfl:=av (hn.trans hn'.symm)
   exact⟨rfl,hB⟩)
theorem Ctr.ctIs{A:List Int→List Int→Int→Prop}{G:World→Prop}(C:Ctr A G){k:Nat}{n:ByteArray}{f:Nat}{a:List Nat}{t:ByteArray}(hz:n.size≤400000000)(hk:k<256)(hf:f<4294967296)(ha:a.length=8)(hs:X.Small a)(h:txt (k,bn n,f,a,0)=bn t)(W:World)(hG:G W):
  Calls Tryz.prog 11 #[hvl k n f a] W fun e W'=>e=.returned (.string t)∧Below W.heap.size W W' :=
 (C.ct k n f a W hz hk hf ha hs hG).mono (by
   rintro e W' ⟨⟨u,rfl,hu⟩,hB⟩
   obtain rfl:=av (hu.trans h)
   exact⟨rfl,hB⟩)
def em:ByteArray:=⟨#[]⟩
theorem hp4{A:List Int→List Int→Int→Prop}:HP A (bn w4) false (3,[],0,[0,0,0,0,0,0,0,1],0):=by
 unfold HP;rw[if_neg (by decide),if_pos (by decide)]
 decide +kernel
theorem hp3{A:List Int→List Int→Int→Prop}(hA:Asc A){h:Hst}(x:HP A (bn w3) true h):h=non 70:=by
 unfold HP at x
 rw[if_neg (by decide),if_neg (by decide),if_neg (by decide)]at x;obtain⟨d,r,h1,rfl⟩:=x;rw[show E.de (bn w3)=[97,32,98] by decide]at h1;unfold dom;rw[if_pos (hA.bln h1)]
theorem df:X.Small [0,0,0,0,0,0,0,1]:=by unfold X.Small;decide
theorem bI(t:ByteArray):(t.toList==t.toList)=true:=aK rfl
theorem da{A:List Int→List Int→Int→Prop}{G:World→Prop}(C:Ctr A G)(w:World)(hG:G w):Calls Tryz.prog 8 #[] w fun e W'=>e=.returned (.bool true)∧Below w.heap.size w W':=by
 have H1:Hid (∀ W,G W→Calls Tryz.prog 9 #[.string ⟨#[69,88,65,77,80,76,69,46,99,111,109]⟩,.bool true] W fun e W'=>e=.returned (.tuple #[hv 1 ⟨#[101,120,97,109,112,108,101,46,99,111,109]⟩ 0 0 0 0 0 0 0 0 0,.int .i64 0])∧Below W.heap.size W W'):=fun W h=>C.cpIs (s:=w1) (n:=x1) (by decide) (hp1 C.asc) rfl W h
 have H2:Hid (∀ W,G W→Calls Tryz.prog 9 #[.string ⟨#[48,120,55,102,46,49]⟩,.bool true] W fun e W'=>e=.returned (.tuple #[hv 2 ⟨#[]⟩ 2130706433 0 0 0 0 0 0 0 0,.int .i64 0])∧Below W.heap.size W W'):=fun W h=>C.cpIs (s:=w2) (n:=em) (by decide) (hp2 C.asc) rfl W h
 have H3:Hid (∀ W,G W→Calls Tryz.prog 9 #[.string ⟨#[97,32,98]⟩,.bool true] W fun e W'=>e=.returned (.tuple #[hv 0 ⟨#[]⟩ 0 0 0 0 0 0 0 0 0,.int .i64 70])∧Below W.heap.size W W'):=fun W h=>(C.cp w3 true W (by decide) h).mono (by
   rintro e W' ⟨⟨h',n',x',hn',rfl⟩,hB⟩
   obtain rfl:=hp3 C.asc x'
   obtain rfl:=av (s:=n') (t:=em) (hn'.trans rfl)
   exact⟨rfl,hB⟩)
 have H4:Hid (∀ W,G W→Calls Tryz.prog 9 #[.string ⟨#[91,58,58,49,93]⟩,.bool false] W fun e W'=>e=.returned (.tuple #[hv 3 ⟨#[]⟩ 0 0 0 0 0 0 0 0 1,.int .i64 0])∧Below W.heap.size W W'):=fun W h=>C.cpIs (s:=w4) (n:=em) (by decide) hp4 rfl W h
 have T1:Hid (∀ W,G W→Calls Tryz.prog 11 #[hv 1 ⟨#[101,120,97,109,112,108,101,46,99,111,109]⟩ 0 0 0 0 0 0 0 0 0] W fun e W'=>e=.returned (.string ⟨#[101,120,97,109,112,108,101,46,99,111,109]⟩)∧Below W.heap.size W W'):=fun W h=>C.ctIs (k:=1) (n:=x1) (f:=0) (a:=z8) (t:=x1) (by decide) (by decide) (by decide) rfl bq rfl W h
 have T2:Hid (∀ W,G W→Calls Tryz.prog 11 #[hv 2 ⟨#[]⟩ 2130706433 0 0 0 0 0 0 0 0] W fun e W'=>e=.returned (.string ⟨#[49,50,55,46,48,46,48,46,49]⟩)∧Below W.heap.size W W'):=fun W h=>C.ctIs (k:=2) (n:=em) (f:=2130706433) (a:=z8) (t:=x2) (by decide) (by decide) (by decide) rfl bq (by decide +kernel) W h
 have T4:Hid (∀ W,G W→Calls Tryz.prog 11 #[hv 3 ⟨#[]⟩ 0 0 0 0 0 0 0 0 1] W fun e W'=>e=.returned (.string ⟨#[91,58,58,49,93]⟩)∧Below W.heap.size W W'):=fun W h=>C.ctIs (k:=3) (n:=em) (f:=0) (a:=[0,0,0,0,0,0,0,1]) (t:=w4) (by decide) (by decide) (by decide) rfl df (by decide +kernel) W h
 have M1:Hid (∀ W,G W→Calls Tryz.prog 13 #[hv 0 ⟨#[]⟩ 0 0 0 0 0 0 0 0 0] W fun e W'=>e=.returned (.bool true)∧Below W.heap.size W W'):=fun W h=>(C.cm 0 em 0 z8 W (by decide) (by decide) (by decide) rfl bq h).mono (by
   rintro e W' ⟨⟨b,hb,rfl⟩,hB⟩
   unfold May at hb
   rw[if_pos (show((0,bn em,0,z8,0):Hst)=non 0 from rfl)]at hb
   rw[hb]
   exact⟨rfl,hB⟩)
 have HB:Hid (Below w.heap.size w w):=Below.refl _ _;have HK:Hid (∀ W,Below w.heap.size w W→G W):=fun W h=>C.keep w W hG h
 have e1:=bI ⟨#[101,120,97,109,112,108,101,46,99,111,109]⟩;have e2:=bI ⟨#[49,50,55,46,48,46,48,46,49]⟩;have e4:=bI ⟨#[91,58,58,49,93]⟩;clear C hG;go_enter Tryz.func8,Tryz.ntmps8
 go_wp2_with fail;refine(H1.out _ (HK.out _ HB.out)).mono ?_;rintro e v1 ⟨rfl,B⟩
 have A1:=hid (heap_alloc_new v1 (.cells #[.int .u8 1,.string ⟨#[101,120,97,109,112,108,101,46,99,111,109]⟩,.int .u32 0,.int .u16 0,.int .u16 0,.int .u16 0,.int .u16 0,.int .u16 0,.int .u16 0,.int .u16 0,.int .u16 0] 26))
 replace HB:=hid (HB.out.trans (B.mono HB.out.size))
 replace HB:=hid (HB.out.alloc HB.out.size (.cells #[.int .u8 1,.string ⟨#[101,120,97,109,112,108,101,46,99,111,109]⟩,.int .u32 0,.int .u16 0,.int .u16 0,.int .u16 0,.int .u16 0,.int .u16 0,.int .u16 0,.int .u16 0,.int .u16 0] 26))
 clear B H1
 go_wp2_with fail;refine(H2.out _ (HK.out _ HB.out)).mono ?_;rintro e v2 ⟨rfl,B⟩
 replace A1:=hid (aA (ag A1.out B) (.cells #[.int .u8 2,.string ⟨#[]⟩,.int .u32 2130706433,.int .u16 0,.int .u16 0,.int .u16 0,.int .u16 0,.int .u16 0,.int .u16 0,.int .u16 0,.int .u16 0] 26))
 have A2:=hid (heap_alloc_new v2 (.cells #[.int .u8 2,.string ⟨#[]⟩,.int .u32 2130706433,.int .u16 0,.int .u16 0,.int .u16 0,.int .u16 0,.int .u16 0,.int .u16 0,.int .u16 0,.int .u16 0] 26))
 replace HB:=hid (HB.out.trans (B.mono HB.out.size))
 replace HB:=hid (HB.out.alloc HB.out.size (.cells #[.int .u8 2,.string ⟨#[]⟩,.int .u32 2130706433,.int .u16 0,.int .u16 0,.int .u16 0,.int .u16 0,.int .u16 0,.int .u16 0,.int .u16 0,.int .u16 0] 26))
 clear B H2
 go_wp2_with fail;refine(H3.out _ (HK.out _ HB.out)).mono ?_;rintro e v3 ⟨rfl,B⟩
 replace A1:=hid (aA (ag A1.out B) (.cells #[.int .u8 0,.string ⟨#[]⟩,.int .u32 0,.int .u16 0,.int .u16 0,.int .u16 0,.int .u16 0,.int .u16 0,.int .u16 0,.int .u16 0,.int .u16 0] 26))
 replace A2:=hid (aA (ag A2.out B) (.cells #[.int .u8 0,.string ⟨#[]⟩,.int .u32 0,.int .u16 0,.int .u16 0,.int .u16 0,.int .u16 0,.int .u16 0,.int .u16 0,.int .u16 0,.int .u16 0] 26))
 replace HB:=hid (HB.out.trans (B.mono HB.out.size))
 replace HB:=hid (HB.out.alloc HB.out.size (.cells #[.int .u8 0,.string ⟨#[]⟩,.int .u32 0,.int .u16 0,.int .u16 0,.int .u16 0,.int .u16 0,.int .u16 0,.int .u16 0,.int .u16 0,.int .u16 0] 26))
 clear B H3
 go_wp2_with fail;refine(H4.out _ (HK.out _ HB.out)).mono ?_;rintro e v4 ⟨rfl,B⟩
 replace A1:=hid (aA (ag A1.out B) (.cells #[.int .u8 3,.string ⟨#[]⟩,.int .u32 0,.int .u16 0,.int .u16 0,.int .u16 0,.int .u16 0,.int .u16 0,.int .u16 0,.int .u16 0,.int .u16 1] 26))
 replace A2:=hid (aA (ag A2.out B) (.cells #[.int .u8 3,.string ⟨#[]⟩,.int .u32 0,.int .u16 0,.int .u16 0,.int .u16 0,.int .u16 0,.int .u16 0,.int .u16 0,.int .u16 0,.int .u16 1] 26))
 have A4:=hid (heap_alloc_new v4 (.cells #[.int .u8 3,.string ⟨#[]⟩,.int .u32 0,.int .u16 0,.int .u16 0,.int .u16 0,.int .u16 0,.int .u16 0,.int .u16 0,.int .u16 0,.int .u16 1] 26))
 replace HB:=hid (HB.out.trans (B.mono HB.out.size))
 replace HB:=hid (HB.out.alloc HB.out.size (.cells #[.int .u8 3,.string ⟨#[]⟩,.int .u32 0,.int .u16 0,.int .u16 0,.int .u16 0,.int .u16 0,.int .u16 0,.int .u16 0,.int .u16 0,.int .u16 1] 26))
 clear B H4;have F1_0:World.cell? _ ⟨v1.heap.size,0,none⟩=some (.int .u8 1):=cell_of_row _ _ 0 _ _ _ A1.out;have F1_1:World.cell? _ ⟨v1.heap.size,1,none⟩=some (.string ⟨#[101,120,97,109,112,108,101,46,99,111,109]⟩):=cell_of_row _ _ 1 _ _ _ A1.out;have F1_2:World.cell? _ ⟨v1.heap.size,2,none⟩=some (.int .u32 0):=cell_of_row _ _ 2 _ _ _ A1.out;have F1_3:World.cell? _ ⟨v1.heap.size,3,none⟩=some (.int .u16 0):=cell_of_row _ _ 3 _ _ _ A1.out;have F1_4:World.cell? _ ⟨v1.heap.size,4,none⟩=some (.int .u16 0):=cell_of_row _ _ 4 _ _ _ A1.out;have F1_5:World.cell? _ ⟨v1.heap.size,5,none⟩=some (.int .u16 0):=cell_of_row _ _ 5 _ _ _ A1.out;have F1_6:World.cell? _ ⟨v1.heap.size,6,none⟩=some (.int .u16 0):=cell_of_row _ _ 6 _ _ _ A1.out;have F1_7:World.cell? _ ⟨v1.heap.size,7,none⟩=some (.int .u16 0):=cell_of_row _ _ 7 _ _ _ A1.out;have F1_8:World.cell? _ ⟨v1.heap.size,8,none⟩=some (.int .u16 0):=cell_of_row _ _ 8 _ _ _ A1.out;have F1_9:World.cell? _ ⟨v1.heap.size,9,none⟩=some (.int .u16 0):=cell_of_row _ _ 9 _ _ _ A1.out;have F1_10:World.cell? _ ⟨v1.heap.size,10,none⟩=some (.int .u16 0):=cell_of_row _ _ 10 _ _ _ A1.out
 go_wp2_with fail;refine(T1.out _ (HK.out _ HB.out)).mono ?_;rintro e u1 ⟨rfl,B⟩
 replace A1:=hid (ag A1.out B)
 replace A2:=hid (ag A2.out B)
 replace A4:=hid (ag A4.out B)
 replace HB:=hid (HB.out.trans (B.mono HB.out.size))
 clear B T1;clear F1_0 F1_1 F1_2 F1_3 F1_4 F1_5 F1_6 F1_7 F1_8 F1_9 F1_10;have F2_0:World.cell? _ ⟨v2.heap.size,0,none⟩=some (.int .u8 2):=cell_of_row _ _ 0 _ _ _ A2.out;have F2_1:World.cell? _ ⟨v2.heap.size,1,none⟩=some (.string ⟨#[]⟩):=cell_of_row _ _ 1 _ _ _ A2.out;have F2_2:World.cell? _ ⟨v2.heap.size,2,none⟩=some (.int .u32 2130706433):=cell_of_row _ _ 2 _ _ _ A2.out;have F2_3:World.cell? _ ⟨v2.heap.size,3,none⟩=some (.int .u16 0):=cell_of_row _ _ 3 _ _ _ A2.out;have F2_4:World.cell? _ ⟨v2.heap.size,4,none⟩=some (.int .u16 0):=cell_of_row _ _ 4 _ _ _ A2.out;have F2_5:World.cell? _ ⟨v2.heap.size,5,none⟩=some (.int .u16 0):=cell_of_row _ _ 5 _ _ _ A2.out;have F2_6:World.cell? _ ⟨v2.heap.size,6,none⟩=some (.int .u16 0):=cell_of_row _ _ 6 _ _ _ A2.out;have F2_7:World.cell? _ ⟨v2.heap.size,7,none⟩=some (.int .u16 0):=cell_of_row _ _ 7 _ _ _ A2.out;have F2_8:World.cell? _ ⟨v2.heap.size,8,none⟩=some (.int .u16 0):=cell_of_row _ _ 8 _ _ _ A2.out;have F2_9:World.cell? _ ⟨v2.heap.size,9,none⟩=some (.int .u16 0):=cell_of_row _ _ 9 _ _ _ A2.out;have F2_10:World.cell? _ ⟨v2.heap.size,10,none⟩=some (.int .u16 0):=cell_of_row _ _ 10 _ _ _ A2.out;have F1_0:World.cell? _ ⟨v1.heap.size,0,none⟩=some (.int .u8 1):=cell_of_row _ _ 0 _ _ _ A1.out
 go_wp2_with fail;refine(T2.out _ (HK.out _ HB.out)).mono ?_;rintro e u2 ⟨rfl,B⟩
 replace A1:=hid (ag A1.out B)
 replace A2:=hid (ag A2.out B)
 replace A4:=hid (ag A4.out B)
 replace HB:=hid (HB.out.trans (B.mono HB.out.size))
 clear B T2;clear F2_0 F2_1 F2_2 F2_3 F2_4 F2_5 F2_6 F2_7 F2_8 F2_9 F2_10;clear F1_0;have F4_0:World.cell? _ ⟨v4.heap.size,0,none⟩=some (.int .u8 3):=cell_of_row _ _ 0 _ _ _ A4.out;have F4_1:World.cell? _ ⟨v4.heap.size,1,none⟩=some (.string ⟨#[]⟩):=cell_of_row _ _ 1 _ _ _ A4.out;have F4_2:World.cell? _ ⟨v4.heap.size,2,none⟩=some (.int .u32 0):=cell_of_row _ _ 2 _ _ _ A4.out;have F4_3:World.cell? _ ⟨v4.heap.size,3,none⟩=some (.int .u16 0):=cell_of_row _ _ 3 _ _ _ A4.out;have F4_4:World.cell? _ ⟨v4.heap.size,4,none⟩=some (.int .u16 0):=cell_of_row _ _ 4 _ _ _ A4.out;have F4_5:World.cell? _ ⟨v4.heap.size,5,none⟩=some (.int .u16 0):=cell_of_row _ _ 5 _ _ _ A4.out;have F4_6:World.cell? _ ⟨v4.heap.size,6,none⟩=some (.int .u16 0):=cell_of_row _ _ 6 _ _ _ A4.out;have F4_7:World.cell? _ ⟨v4.heap.size,7,none⟩=some (.int .u16 0):=cell_of_row _ _ 7 _ _ _ A4.out;have F4_8:World.cell? _ ⟨v4.heap.size,8,none⟩=some (.int .u16 0):=cell_of_row _ _ 8 _ _ _ A4.out;have F4_9:World.cell? _ ⟨v4.heap.size,9,none⟩=some (.int .u16 0):=cell_of_row _ _ 9 _ _ _ A4.out;have F4_10:World.cell? _ ⟨v4.heap.size,10,none⟩=some (.int .u16 1):=cell_of_row _ _ 10 _ _ _ A4.out
 go_wp2_with fail;refine(T4.out _ (HK.out _ HB.out)).mono ?_;rintro e u4 ⟨rfl,B⟩
 replace A1:=hid (ag A1.out B)
 replace A4:=hid (ag A4.out B)
 replace HB:=hid (HB.out.trans (B.mono HB.out.size))
 clear B T4;clear F4_0 F4_1 F4_2 F4_3 F4_4 F4_5 F4_6 F4_7 F4_8 F4_9 F4_10
 go_wp2_with fail;refine(M1.out _ (HK.out _ HB.out)).mono ?_;rintro e u5 ⟨rfl,B⟩
 replace HB:=hid (HB.out.trans (B.mono HB.out.size))
 go_wp2;go_ret;exact⟨rfl,HB.out⟩
end Go.Proofs.YtkekkbciiohbkaaGreatDoor.H
namespace Go.Proofs.YtkekkbciiohbkaaGreatDoor.E
open Go.RowKit
theorem Gq{l:List Int}{r:Int}(h:∀ j,j<l.length→¬ l[j]?.getD 0=r):l.contains r=false:=by
 rw[Bool.eq_false_iff];intro hc
 obtain⟨j,hj,e⟩:=List.mem_iff_getElem.1 (List.contains_iff_mem.1 hc);exact h j hj (by rw[List.getElem?_eq_getElem hj];exact e)
theorem Db{l:List Int}{r:Int}{j:Nat}(hj:j<l.length)(h:l[j]?.getD 0=r):l.contains r=true:=by
 rw[List.getElem?_eq_getElem hj]at h;exact List.contains_iff_mem.2 (h ▸ List.getElem_mem hj)
end Go.Proofs.YtkekkbciiohbkaaGreatDoor.E
namespace Go.Proofs.YtkekkbciiohbkaaGreatDoor.U
open Go.RowKit
theorem iJ(c:Int)(w:World):
  Calls Tryz.prog 89 #[.int .i32 c] w fun e w'=>e=.returned (.bool (az c))∧w'=w:=by
 go_enter Tryz.func89,Tryz.ntmps89
 go_wp2
 all_goals (go_ret;exact⟨an (by unfold az;rw[Bool.eq_iff_iff];simp;try omega),rfl⟩)
theorem GP(c:Int)(h0:0≤c)(h1:c<128)(w:World):
  Calls Tryz.prog 36 #[.int .i32 c] w fun e W'=>(∃ t,e=.returned (.string t)∧bn t=[c])∧Below w.heap.size w W':=by
 obtain⟨i0,hi,hz0,hz1,hz2⟩:=info_parts Tryz.info5;have HB:Hid (Bytes [c]):=fun b hb=>by simp at hb;omega
 go_enter Tryz.func36,Tryz.ntmps36
 go_wp2_with(at_builtin;refine wpList_append_own _ rfl _ _ 36 rfl w.heap.size 5 i0 (.int .u8 0) 1 1 Tryz.underlying36 hi hz0 hz1 hz2 rfl (by decide) _ 0 [] rfl (World.ownsRow_nil _ _ _ _) ⟨w.heap.size,0,none⟩ 1 1 [.int .u8 (c)] rfl rfl (bZ _ _ _) (by simp[Value.oneCell']) (by unfold maxLen;omega) (by omega) (by simp) ?_;intro v' w1 hown' hgrow _;obtain⟨t,hcv,ht⟩:=aO w1 w.heap.size v' 1 [c] rfl HB.out (by simpa using hown'))
 go_ret;exact⟨⟨t,rfl,ht⟩,below_grow (v:=.slice none 0 0) (n:=0) (xs:=[]) ((Below.refl w.heap.size w).alloc (Nat.le_refl _) _) (by simp) (World.ownsRow_nil _ _ 5 1) hgrow⟩
theorem GO(c:Int)(h0:128≤c)(h1:c<2048)(w:World):
  Calls Tryz.prog 36 #[.int .i32 c] w fun e W'=>(∃ t,e=.returned (.string t)∧bn t=[192+c / 64,128+c % 64])∧Below w.heap.size w W':=by
 obtain⟨i0,hi,hz0,hz1,hz2⟩:=info_parts Tryz.info5;have HB:Hid (Bytes [192+c / 64,128+c % 64]):=fun b hb=>by simp at hb;omega
 go_enter Tryz.func36,Tryz.ntmps36
 go_wp2_with(at_builtin;refine wpList_append_own _ rfl _ _ 36 rfl w.heap.size 5 i0 (.int .u8 0) 1 1 Tryz.underlying36 hi hz0 hz1 hz2 rfl (by decide) _ 0 [] rfl (World.ownsRow_nil _ _ _ _) ⟨w.heap.size,0,none⟩ 2 2 [.int .u8 (192+c / 64),.int .u8 (128+c % 64)] rfl rfl (bZ _ _ _) (by simp[Value.oneCell']) (by unfold maxLen;omega) (by omega) (by simp) ?_;intro v' w1 hown' hgrow _;obtain⟨t,hcv,ht⟩:=aO w1 w.heap.size v' 2 [192+c / 64,128+c % 64] rfl HB.out (by simpa using hown'))
 go_ret;exact⟨⟨t,rfl,ht⟩,below_grow (v:=.slice none 0 0) (n:=0) (xs:=[]) ((Below.refl w.heap.size w).alloc (Nat.le_refl _) _) (by simp) (World.ownsRow_nil _ _ 5 1) hgrow⟩
theorem GN(c:Int)(h0:2048≤c)(h1:c<65536)(w:World):
  Calls Tryz.prog 36 #[.int .i32 c] w fun e W'=>(∃ t,e=.returned (.string t)∧bn t=[224+c / 4096,128+c / 64 % 64,128+c % 64])∧Below w.heap.size w W':=by
 obtain⟨i0,hi,hz0,hz1,hz2⟩:=info_parts Tryz.info5;have HB:Hid (Bytes [224+c / 4096,128+c / 64 % 64,128+c % 64]):=fun b hb=>by simp at hb;omega
 go_enter Tryz.func36,Tryz.ntmps36
 go_wp2_with(at_builtin;refine wpList_append_own _ rfl _ _ 36 rfl w.heap.size 5 i0 (.int .u8 0) 1 1 Tryz.underlying36 hi hz0 hz1 hz2 rfl (by decide) _ 0 [] rfl (World.ownsRow_nil _ _ _ _) ⟨w.heap.size,0,none⟩ 3 3 [.int .u8 (224+c / 4096),.int .u8 (128+c / 64 % 64),.int .u8 (128+c % 64)] rfl rfl (bZ _ _ _) (by simp[Value.oneCell']) (by unfold maxLen;omega) (by omega) (by simp) ?_;intro v' w1 hown' hgrow _;obtain⟨t,hcv,ht⟩:=aO w1 w.heap.size v' 3 [224+c / 4096,128+c / 64 % 64,128+c % 64] rfl HB.out (by simpa using hown'))
 go_ret;exact⟨⟨t,rfl,ht⟩,below_grow (v:=.slice none 0 0) (n:=0) (xs:=[]) ((Below.refl w.heap.size w).alloc (Nat.le_refl _) _) (by simp) (World.ownsRow_nil _ _ 5 1) hgrow⟩
theorem GM(c:Int)(h0:65536≤c)(h1:c<1114112)(w:World):
  Calls Tryz.prog 36 #[.int .i32 c] w fun e W'=>(∃ t,e=.returned (.string t)∧bn t=[240+c / 262144,128+c / 4096 % 64,128+c / 64 % 64,128+c % 64])∧Below w.heap.size w W':=by
 obtain⟨i0,hi,hz0,hz1,hz2⟩:=info_parts Tryz.info5;have HB:Hid (Bytes [240+c / 262144,128+c / 4096 % 64,128+c / 64 % 64,128+c % 64]):=fun b hb=>by simp at hb;omega
 go_enter Tryz.func36,Tryz.ntmps36
 go_wp2_with(at_builtin;refine wpList_append_own _ rfl _ _ 36 rfl w.heap.size 5 i0 (.int .u8 0) 1 1 Tryz.underlying36 hi hz0 hz1 hz2 rfl (by decide) _ 0 [] rfl (World.ownsRow_nil _ _ _ _) ⟨w.heap.size,0,none⟩ 4 4 [.int .u8 (240+c / 262144),.int .u8 (128+c / 4096 % 64),.int .u8 (128+c / 64 % 64),.int .u8 (128+c % 64)] rfl rfl (bZ _ _ _) (by simp[Value.oneCell']) (by unfold maxLen;omega) (by omega) (by simp) ?_;intro v' w1 hown' hgrow _;obtain⟨t,hcv,ht⟩:=aO w1 w.heap.size v' 4 [240+c / 262144,128+c / 4096 % 64,128+c / 64 % 64,128+c % 64] rfl HB.out (by simpa using hown'))
 go_ret;exact⟨⟨t,rfl,ht⟩,below_grow (v:=.slice none 0 0) (n:=0) (xs:=[]) ((Below.refl w.heap.size w).alloc (Nat.le_refl _) _) (by simp) (World.ownsRow_nil _ _ 5 1) hgrow⟩
theorem jm(c:Int)(h0:0≤c)(h1:c≤1114111)(w:World):
  Calls Tryz.prog 36 #[.int .i32 c] w fun e W'=>(∃ t,e=.returned (.string t)∧bn t=enc c)∧Below w.heap.size w W':=by
 unfold enc;by_cases q1:c<128
 ·rw[if_pos q1];exact GP c h0 q1 w
 ·rw[if_neg q1]
  by_cases q2:c<2048
  ·rw[if_pos q2];exact GO c (by omega) q2 w
  ·rw[if_neg q2]
   by_cases q3:c<65536
   ·rw[if_pos q3];exact GN c (by omega) q3 w
   ·rw[if_neg q3];exact GM c (by omega) (by omega) w
def ee:List Int→Int
 | [a]=>a
 | [a,b]=>(a - 192) * 64+b - 128
 | [a,b,c]=>((a - 224) * 64+b - 128) * 64+c - 128
 | [a,b,c,d]=>(((a - 240) * 64+b - 128) * 64+c - 128) * 64+d - 128
 | _=>0
def dI(l:List Int):Bool:=az (ee l)&&decide (enc (ee l)=l)
def cI:List Int→Bool
 | [a,b]=>decide ((194≤a∧a≤223∧128≤b∧b≤191)∨(224≤a∧a≤244∧aP a≤b∧b≤aG a))
 | [a,b,c]=>decide (224≤a∧a≤244∧aP a≤b∧b≤aG a∧128≤c∧c≤191)
 | _=>false
theorem Bw(c:Int):ee (enc c)=c:=by
 unfold enc;by_cases q1:c<128
 ·rw[if_pos q1];rfl
 ·rw[if_neg q1]
  by_cases q2:c<2048
  ·rw[if_pos q2];simp only[ee];omega
  ·rw[if_neg q2]
   by_cases q3:c<65536
   ·rw[if_pos q3];simp only[ee];omega
   ·rw[if_neg q3];simp only[ee];omega
theorem nJ(l:List Int)(hne:l≠[])(hl:Bytes l)(n:Nat)(_h1:1≤n)(hn:n≤l.length):
  (dI (l.take n)=true→nx l=(ee (l.take n),n,true))∧((nx l).2.2=true→(nx l).2.1=n→dI (l.take n)=true):=by
 constructor
 ·intro h
  unfold dI at h
  rw[Bool.and_eq_true,decide_eq_true_eq]at h;have hx:=pv _ h.1 (l.drop n);rw[h.2,List.take_append_drop]at hx;rw[hx,List.length_take]
  congr 2
  omega
 ·intro hw hn'
  have he:=(mg l hne hl hw).2.1;have hs:=pq l hne hl;rw[hn']at he;unfold dI;rw[←he,Bw,hs];simp
theorem CE(l:List Int)(hne:l≠[])(hl:Bytes l)(hw:(nx l).2.2=false):
  nx l=(65533,(nx l).2.1,false)∧(nx l).2.1≤3∧(∀ k,1≤k→k<(nx l).2.1→cI (l.take (k+1))=true)∧((nx l).2.1<l.length→(nx l).2.1<3→cI (l.take ((nx l).2.1+1))=false):=by
 match l with
 | []=>exact absurd rfl hne
 | a::t =>
  have ha:=hl a (by simp);by_cases h8:a<128
  ·rw[kv a t h8]at hw;cases hw
  rcases fS a with hf | ⟨hf,h1,h2⟩ | ⟨hf,h1,h2⟩ | ⟨hf,h1,h2⟩
  ·have e:nx (a::t)=(65533,1,false):=by rw[nx,if_neg h8,if_pos hf]
   rw[e];refine⟨rfl,by decide,fun k g1 g2=>by simp only at g2;omega,fun g1 _=>?_⟩
   match t with
   | []=>simp at g1
   | b::t =>
    show cI [a,b]=false
    have hout:¬ (194≤a∧a≤244):=by
     unfold follow at hf
     by_cases q3:240≤a∧a≤244
     ·rw[if_pos q3]at hf;cases hf
     ·rw[if_neg q3]at hf
      by_cases q2:224≤a∧a≤239
      ·rw[if_pos q2]at hf;cases hf
      ·rw[if_neg q2]at hf
       by_cases q1:194≤a∧a≤223
       ·rw[if_pos q1]at hf;cases hf
       ·omega
    simp only[cI,decide_eq_false_iff_not];omega
  ·have hl1:aP a=128:=by unfold aP;rw[if_neg (by omega),if_neg (by omega)]
   have hh1:aG a=191:=by unfold aG;rw[if_neg (by omega),if_neg (by omega)]
   have e:nx (a::t)=nxl 1 t 1 (a % 32) 128 191:=by rw[nx,if_neg h8,hf,hl1,hh1];rfl
   match t with
   | [] =>
    have e2:nx [a]=(65533,1,false):=by rw[e];rfl
    rw[e2];exact⟨rfl,by decide,fun k g1 g2=>by simp only at g2;omega,fun g1 _=>by simp at g1⟩
   | b::t =>
    by_cases hb:b<128∨191<b
    ·have e2:nx (a::b::t)=(65533,1,false):=by rw[e,nxl,if_pos hb]
     rw[e2];refine⟨rfl,by decide,fun k g1 g2=>by simp only at g2;omega,fun _ _=>?_⟩;show cI [a,b]=false
     simp only[cI,decide_eq_false_iff_not];omega
    ·rw[uy a b t h1 h2 (by omega) (by omega)]at hw;cases hw
  ·have q1:=gJ a
   have q2:=fR a;have e:=fun t=>uz a t h1 h2
   match t with
   | [] =>
    have e2:nx [a]=(65533,1,false):=by rw[e];rfl
    rw[e2];exact⟨rfl,by decide,fun k g1 g2=>by simp only at g2;omega,fun g1 _=>by simp at g1⟩
   | b::t =>
    by_cases hb:b<aP a∨aG a<b
    ·have e2:nx (a::b::t)=(65533,1,false):=by rw[e,nxl,if_pos hb]
     rw[e2];refine⟨rfl,by decide,fun k g1 g2=>by simp only at g2;omega,fun _ _=>?_⟩;show cI [a,b]=false
     simp only[cI,decide_eq_false_iff_not];omega
    ·have hb1:cI [a,b]=true:=by simp only[cI,decide_eq_true_eq];omega
     match t with
     | [] =>
      have e2:nx [a,b]=(65533,2,false):=by rw[e,nxl,if_neg hb];rfl
      rw[e2];refine⟨rfl,by decide,fun k g1 g2=>?_,fun g1 _=>by simp at g1⟩;obtain rfl:k=1:=by simp only at g2;omega
      exact hb1
     | c::t =>
      by_cases hc:c<128∨191<c
      ·have e2:nx (a::b::c::t)=(65533,2,false):=by rw[e,nxl,if_neg hb,nxl,if_pos hc]
       rw[e2];refine⟨rfl,by decide,fun k g1 g2=>?_,fun _ _=>?_⟩
       ·obtain rfl:k=1:=by simp only at g2;omega
        exact hb1
       ·show cI [a,b,c]=false
        simp only[cI,decide_eq_false_iff_not];omega
      ·rw[ux a b c t h1 h2 (by omega) (by omega) (by omega) (by omega)]at hw;cases hw
  ·have q1:=gJ a
   have q2:=fR a;have e:=fun t=>qU a t h1 h2
   match t with
   | [] =>
    have e2:nx [a]=(65533,1,false):=by rw[e];rfl
    rw[e2];exact⟨rfl,by decide,fun k g1 g2=>by simp only at g2;omega,fun g1 _=>by simp at g1⟩
   | b::t =>
    by_cases hb:b<aP a∨aG a<b
    ·have e2:nx (a::b::t)=(65533,1,false):=by rw[e,nxl,if_pos hb]
     rw[e2];refine⟨rfl,by decide,fun k g1 g2=>by simp only at g2;omega,fun _ _=>?_⟩;show cI [a,b]=false
     simp only[cI,decide_eq_false_iff_not];omega
    ·have hb1:cI [a,b]=true:=by simp only[cI,decide_eq_true_eq];omega
     match t with
     | [] =>
      have e2:nx [a,b]=(65533,2,false):=by rw[e,nxl,if_neg hb];rfl
      rw[e2];refine⟨rfl,by decide,fun k g1 g2=>?_,fun g1 _=>by simp at g1⟩;obtain rfl:k=1:=by simp only at g2;omega
      exact hb1
     | c::t =>
      by_cases hc:c<128∨191<c
      ·have e2:nx (a::b::c::t)=(65533,2,false):=by rw[e,nxl,if_neg hb,nxl,if_pos hc]
       rw[e2];refine⟨rfl,by decide,fun k g1 g2=>?_,fun _ _=>?_⟩
       ·obtain rfl:k=1:=by simp only at g2;omega
        exact hb1
       ·show cI [a,b,c]=false
        simp only[cI,decide_eq_false_iff_not];omega
      ·have hc1:cI [a,b,c]=true:=by simp only[cI,decide_eq_true_eq];omega
       have hk:∀ r k,1≤k→k<3→cI ((a::b::c::r).take (k+1))=true:=fun r k g1 g2=>by
        have:k=1∨k=2:=by omega
        rcases this with rfl | rfl
        ·exact hb1
        ·exact hc1
       match t with
       | [] =>
        have e2:nx [a,b,c]=(65533,3,false):=by rw[e,nxl,if_neg hb,nxl,if_neg hc];rfl
        rw[e2];exact⟨rfl,by decide,fun k g1 g2=>hk [] k g1 g2,fun g1 _=>by simp at g1⟩
       | d::t =>
        by_cases hd:d<128∨191<d
        ·have e2:nx (a::b::c::d::t)=(65533,3,false):=by rw[e,nxl,if_neg hb,nxl,if_neg hc,nxl,if_pos hd]
         rw[e2];exact⟨rfl,by decide,fun k g1 g2=>hk _ k g1 g2,fun _ g2=>by simp at g2⟩
        ·rw[uw a b c d t h1 h2 (by omega) (by omega) (by omega) (by omega) (by omega) (by omega)]at hw;cases hw
def fG(z:Int)(l:List Int):Int:=l.foldl (fun c b=>c * 64+b - 128) z
theorem ic(z:Int)(l:List Int)(b:Int):fG z (l++[b])=fG z l * 64+b - 128:=by simp[fG]
theorem dT(s:ByteArray)(k:Nat)(h:k<s.size):((bn s).drop 1).take k=((bn s).drop 1).take (k - 1)++(if 1≤k then [(s[k].toNat:Int)] else []):=by
 by_cases hk:1≤k
 ·rw[if_pos hk]
  obtain⟨m,rfl⟩:∃ m,k=m+1:=⟨k - 1,by omega⟩;have hm:m<((bn s).drop 1).length:=by rw[List.length_drop,aa];omega
  rw[List.take_succ_eq_append_getElem hm,Nat.add_sub_cancel]
  congr 2
  rw[List.getElem_drop];simp only[bn,List.getElem_map,Nat.add_comm 1 m];rfl
 ·have:k=0:=by omega
  subst this;simp
theorem four(s:ByteArray)(m:Nat)(hm:s.size=m)(h0:0<s.size):bn s=(s[0].toNat:Int)::((bn s).drop 1).take (m - 1):=by
 rw[List.take_of_length_le (by rw[List.length_drop,aa];omega)];exact gm s h0
theorem E4(s:ByteArray)(hm:s.size=1)(w:World):
  Calls Tryz.prog 98 #[.string s] w fun e w'=>e=.returned (.int .i32 (ee (bn s)))∧w'=w:=by
 have hp:0<s.size:=by omega
 have HM:Hid (s.size=1):=hm
 have hV:Hid (ee (bn s)=fG ((s[0].toNat:Int) - 0) (((bn s).drop 1).take (1 - 1))):=by
  show _=_
  have hl:(((bn s).drop 1).take (1 - 1)).length=1 - 1:=by rw[List.length_take,List.length_drop,aa];omega
  rw[four s 1 hm hp];simp only[List.drop_succ_cons,List.drop_zero]
  generalize ((bn s).drop 1).take (1 - 1)=r at hl ⊢
  obtain rfl:=List.length_eq_zero_iff.1 hl;simp[ee,fG]
 have hz1:1≤s.size:=by omega
 have hz2:s.size≤1:=by omega
 have hb0:(s[0].toNat:Int)≤255:=by have:=s[0].toNat_lt;omega
 clear hm;have g2:((s.size:Int)==2)=false:=by simp;omega
 have g3:((s.size:Int)==3)=false:=by simp;omega
 have g4:((s.size:Int)==4)=false:=by simp;omega
 go_enter Tryz.func98,Tryz.ntmps98
 go_wp2_with fail
 go_loop [3,4] (fun c i=>∃(k:Nat) (C:Int),1≤k∧k≤s.size∧i=.int .i64 k∧c=.int .i32 C∧Hid (C=fG ((s[0].toNat:Int) - 0) (((bn s).drop 1).take (k - 1)))∧(k=1∧-240≤C∧C≤255∨k=2∧-15488≤C∧C≤16447∨k=3∧-991360≤C∧C≤1052735∨k=4)) (fun _ i=>s.size - (intOf i).toNat)
 case atStart=>exact⟨1,_,Nat.le_refl _,by omega,rfl,rfl,by show _=_;simp[fG],by omega⟩
 case round =>
  obtain⟨k,C,hk1,hk2,rfl,rfl,HC,hbd⟩:=hrel;by_cases hlt:k<s.size
  ·have hbk:(s[k].toNat:Int)≤255:=by have:=s[k].toNat_lt;omega
   have HT:Hid (((bn s).drop 1).take k=((bn s).drop 1).take (k - 1)++[(s[k].toNat:Int)]):=by
    show _=_;rw[dT s k hlt,if_pos hk1]
   go_wp2
   go_round
   case rel=>exact⟨k+1,_,by omega,by omega,by go_num,rfl,by show _=_;rw[Nat.add_sub_cancel,HT.out,ic,HC.out],by omega⟩
   case measure=>simp[intOf];omega
  ·have hkm:k=1:=by omega
   have HK:Hid (k=1):=hkm;clear hkm;go_wp2;go_ret;exact⟨aX (by rw[hV.out,HC.out,HK.out]),rfl⟩
theorem E3(s:ByteArray)(hm:s.size=2)(w:World):
  Calls Tryz.prog 98 #[.string s] w fun e w'=>e=.returned (.int .i32 (ee (bn s)))∧w'=w:=by
 have hp:0<s.size:=by omega
 have HM:Hid (s.size=2):=hm
 have hV:Hid (ee (bn s)=fG ((s[0].toNat:Int) - 192) (((bn s).drop 1).take (2 - 1))):=by
  show _=_
  have hl:(((bn s).drop 1).take (2 - 1)).length=2 - 1:=by rw[List.length_take,List.length_drop,aa];omega
  rw[four s 2 hm hp];simp only[List.drop_succ_cons,List.drop_zero]
  generalize ((bn s).drop 1).take (2 - 1)=r at hl ⊢
  match r,hl with
  | [x],_=>simp[ee,fG]
 have hz1:2≤s.size:=by omega
 have hz2:s.size≤2:=by omega
 have hb0:(s[0].toNat:Int)≤255:=by have:=s[0].toNat_lt;omega
 clear hm;have g2:((s.size:Int)==2)=true:=by simp;omega
 have g3:((s.size:Int)==3)=false:=by simp;omega
 have g4:((s.size:Int)==4)=false:=by simp;omega
 go_enter Tryz.func98,Tryz.ntmps98
 go_wp2_with fail
 go_loop [3,4] (fun c i=>∃(k:Nat) (C:Int),1≤k∧k≤s.size∧i=.int .i64 k∧c=.int .i32 C∧Hid (C=fG ((s[0].toNat:Int) - 192) (((bn s).drop 1).take (k - 1)))∧(k=1∧-240≤C∧C≤255∨k=2∧-15488≤C∧C≤16447∨k=3∧-991360≤C∧C≤1052735∨k=4)) (fun _ i=>s.size - (intOf i).toNat)
 case atStart=>exact⟨1,_,Nat.le_refl _,by omega,rfl,rfl,by show _=_;simp[fG],by omega⟩
 case round =>
  obtain⟨k,C,hk1,hk2,rfl,rfl,HC,hbd⟩:=hrel;by_cases hlt:k<s.size
  ·have hbk:(s[k].toNat:Int)≤255:=by have:=s[k].toNat_lt;omega
   have HT:Hid (((bn s).drop 1).take k=((bn s).drop 1).take (k - 1)++[(s[k].toNat:Int)]):=by
    show _=_;rw[dT s k hlt,if_pos hk1]
   go_wp2
   go_round
   case rel=>exact⟨k+1,_,by omega,by omega,by go_num,rfl,by show _=_;rw[Nat.add_sub_cancel,HT.out,ic,HC.out],by omega⟩
   case measure=>simp[intOf];omega
  ·have hkm:k=2:=by omega
   have HK:Hid (k=2):=hkm;clear hkm;go_wp2;go_ret;exact⟨aX (by rw[hV.out,HC.out,HK.out]),rfl⟩
theorem E2(s:ByteArray)(hm:s.size=3)(w:World):
  Calls Tryz.prog 98 #[.string s] w fun e w'=>e=.returned (.int .i32 (ee (bn s)))∧w'=w:=by
 have hp:0<s.size:=by omega
 have HM:Hid (s.size=3):=hm
 have hV:Hid (ee (bn s)=fG ((s[0].toNat:Int) - 224) (((bn s).drop 1).take (3 - 1))):=by
  show _=_
  have hl:(((bn s).drop 1).take (3 - 1)).length=3 - 1:=by rw[List.length_take,List.length_drop,aa];omega
  rw[four s 3 hm hp];simp only[List.drop_succ_cons,List.drop_zero]
  generalize ((bn s).drop 1).take (3 - 1)=r at hl ⊢
  match r,hl with
  | [x,y],_=>simp[ee,fG]
 have hz1:3≤s.size:=by omega
 have hz2:s.size≤3:=by omega
 have hb0:(s[0].toNat:Int)≤255:=by have:=s[0].toNat_lt;omega
 clear hm;have g2:((s.size:Int)==2)=false:=by simp;omega
 have g3:((s.size:Int)==3)=true:=by simp;omega
 have g4:((s.size:Int)==4)=false:=by simp;omega
 go_enter Tryz.func98,Tryz.ntmps98
 go_wp2_with fail
 go_loop [3,4] (fun c i=>∃(k:Nat) (C:Int),1≤k∧k≤s.size∧i=.int .i64 k∧c=.int .i32 C∧Hid (C=fG ((s[0].toNat:Int) - 224) (((bn s).drop 1).take (k - 1)))∧(k=1∧-240≤C∧C≤255∨k=2∧-15488≤C∧C≤16447∨k=3∧-991360≤C∧C≤1052735∨k=4)) (fun _ i=>s.size - (intOf i).toNat)
 case atStart=>exact⟨1,_,Nat.le_refl _,by omega,rfl,rfl,by show _=_;simp[fG],by omega⟩
 case round =>
  obtain⟨k,C,hk1,hk2,rfl,rfl,HC,hbd⟩:=hrel;by_cases hlt:k<s.size
  ·have hbk:(s[k].toNat:Int)≤255:=by have:=s[k].toNat_lt;omega
   have HT:Hid (((bn s).drop 1).take k=((bn s).drop 1).take (k - 1)++[(s[k].toNat:Int)]):=by
    show _=_;rw[dT s k hlt,if_pos hk1]
   go_wp2
   go_round
   case rel=>exact⟨k+1,_,by omega,by omega,by go_num,rfl,by show _=_;rw[Nat.add_sub_cancel,HT.out,ic,HC.out],by omega⟩
   case measure=>simp[intOf];omega
  ·have hkm:k=3:=by omega
   have HK:Hid (k=3):=hkm;clear hkm;go_wp2;go_ret;exact⟨aX (by rw[hV.out,HC.out,HK.out]),rfl⟩
theorem E1(s:ByteArray)(hm:s.size=4)(w:World):
  Calls Tryz.prog 98 #[.string s] w fun e w'=>e=.returned (.int .i32 (ee (bn s)))∧w'=w:=by
 have hp:0<s.size:=by omega
 have HM:Hid (s.size=4):=hm
 have hV:Hid (ee (bn s)=fG ((s[0].toNat:Int) - 240) (((bn s).drop 1).take (4 - 1))):=by
  show _=_
  have hl:(((bn s).drop 1).take (4 - 1)).length=4 - 1:=by rw[List.length_take,List.length_drop,aa];omega
  rw[four s 4 hm hp];simp only[List.drop_succ_cons,List.drop_zero]
  generalize ((bn s).drop 1).take (4 - 1)=r at hl ⊢
  match r,hl with
  | [x,y,z],_=>simp[ee,fG]
 have hz1:4≤s.size:=by omega
 have hz2:s.size≤4:=by omega
 have hb0:(s[0].toNat:Int)≤255:=by have:=s[0].toNat_lt;omega
 clear hm;have g2:((s.size:Int)==2)=false:=by simp;omega
 have g3:((s.size:Int)==3)=false:=by simp;omega
 have g4:((s.size:Int)==4)=true:=by simp;omega
 go_enter Tryz.func98,Tryz.ntmps98
 go_wp2_with fail
 go_loop [3,4] (fun c i=>∃(k:Nat) (C:Int),1≤k∧k≤s.size∧i=.int .i64 k∧c=.int .i32 C∧Hid (C=fG ((s[0].toNat:Int) - 240) (((bn s).drop 1).take (k - 1)))∧(k=1∧-240≤C∧C≤255∨k=2∧-15488≤C∧C≤16447∨k=3∧-991360≤C∧C≤1052735∨k=4)) (fun _ i=>s.size - (intOf i).toNat)
 case atStart=>exact⟨1,_,Nat.le_refl _,by omega,rfl,rfl,by show _=_;simp[fG],by omega⟩
 case round =>
  obtain⟨k,C,hk1,hk2,rfl,rfl,HC,hbd⟩:=hrel;by_cases hlt:k<s.size
  ·have hbk:(s[k].toNat:Int)≤255:=by have:=s[k].toNat_lt;omega
   have HT:Hid (((bn s).drop 1).take k=((bn s).drop 1).take (k - 1)++[(s[k].toNat:Int)]):=by
    show _=_;rw[dT s k hlt,if_pos hk1]
   go_wp2
   go_round
   case rel=>exact⟨k+1,_,by omega,by omega,by go_num,rfl,by show _=_;rw[Nat.add_sub_cancel,HT.out,ic,HC.out],by omega⟩
   case measure=>simp[intOf];omega
  ·have hkm:k=4:=by omega
   have HK:Hid (k=4):=hkm;clear hkm;go_wp2;go_ret;exact⟨aX (by rw[hV.out,HC.out,HK.out]),rfl⟩
theorem cj(s:ByteArray)(h0:1≤s.size)(h1:s.size≤4)(w:World):
  Calls Tryz.prog 98 #[.string s] w fun e w'=>e=.returned (.int .i32 (ee (bn s)))∧w'=w:=by
 rcases(show s.size=1∨s.size=2∨s.size=3∨s.size=4 by omega) with h | h | h | h
 ·exact E4 s h w
 ·exact E3 s h w
 ·exact E2 s h w
 ·exact E1 s h w
theorem vG(t s:ByteArray):(t.toList==s.toList)=decide (bn t=bn s):=by
 rw[Bool.eq_iff_iff,beq_iff_eq,decide_eq_true_eq,ByteArray.toList_eq,ByteArray.toList_eq]
 constructor
 ·intro h;unfold bn;rw[h]
 ·intro h;rw[av h]
theorem nK(s:ByteArray)(h0:1≤s.size)(h1:s.size≤4)(w:World):
  Calls Tryz.prog 97 #[.string s] w fun e w'=>e=.returned (.bool (dI (bn s)))∧Below w.heap.size w w':=by
 obtain⟨c,hc⟩:∃ c,c=ee (bn s):=⟨_,rfl⟩;have HC:Hid (c=ee (bn s)):=hc;clear hc;cases hs:az c with
 | false =>
  have HS:Hid (az c=false):=hs;clear hs;go_enter Tryz.func97,Tryz.ntmps97
  go_wp2_with fail;refine(cj _ h0 h1 _).mono ?_;rw[←HC.out];rintro e w' ⟨rfl,rfl⟩
  go_wp2_with fail;refine(iJ _ _).mono ?_;rw[HS.out];rintro e w' ⟨rfl,rfl⟩
  go_wp2;go_ret;exact⟨an (by unfold dI;rw[←HC.out,HS.out];rfl),Below.refl _ _⟩
 | true =>
  have hbd:=bu hs;have HS:Hid (az c=true):=hs;clear hs;go_enter Tryz.func97,Tryz.ntmps97
  go_wp2_with fail;refine(cj _ h0 h1 _).mono ?_;rw[←HC.out];rintro e w' ⟨rfl,rfl⟩
  go_wp2_with fail;refine(iJ _ _).mono ?_;rw[HS.out];rintro e w' ⟨rfl,rfl⟩
  go_wp2_with fail;refine(jm _ hbd.1 hbd.2 _).mono ?_;rintro e w1 ⟨⟨t,rfl,ht⟩,hB⟩
  have HT:Hid (bn t=enc c):=ht;clear ht;go_wp2;go_ret;exact⟨an (by unfold dI;rw[←HC.out,HS.out,←HT.out,←vG];rfl),hB⟩
end Go.Proofs.YtkekkbciiohbkaaGreatDoor.U
