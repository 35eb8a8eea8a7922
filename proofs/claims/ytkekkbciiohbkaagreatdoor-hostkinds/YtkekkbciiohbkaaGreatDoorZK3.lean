/- Texts one behind the other: VC XE XL VF. -/
import Derived.Test.YtkekkbciiohbkaaGreatDoorZ4
import Derived.Test.YtkekkbciiohbkaaGreatDoorZK2
import Derived.Test.YtkekkbciiohbkaaGreatDoorProg
import Derived.Test.YtkekkbciiohbkaaGreatDoorZ3
import Derived.Test.YtkekkbciiohbkaaGreatDoorZ33
import Derived.Test.YtkekkbciiohbkaaGreatDoorZ36
import Derived.Test.YtkekkbciiohbkaaGreatDoorZ39
import Derived.Test.YtkekkbciiohbkaaGreatDoorZ29
import Derived.WalkSpells
import Derived.WalkLawsBesides
import Derived.Below
import Derived.WalkKit
import Derived.Laws.AppendOwnNone
import Derived.Laws.StructEq
set_option maxRecDepth 100000
set_option maxHeartbeats 16000000
set_option linter.unusedVariables false
set_option linter.unnecessarySimpa false
namespace Go.Proofs.YtkekkbciiohbkaaGreatDoor.H
open Go.RowKit
open Go.Proofs.YtkekkbciiohbkaaGreatDoor.F (bn aa av aq ar hid aj ab ah aR aK)
theorem Ctr.cpIs{A:List Int→List Int→Int→Prop}{G:World→Prop}(C:Ctr A G){s:ByteArray}{sp:Bool}{h:Hst}{n:ByteArray}(hs:s.size≤100000)(x:HP A (bn s) sp h)(hn:bn n=h.2.1)(W:World)(hG:G W):
  Calls Tryz.prog 9 #[.string s,.bool sp] W fun e W'=>e=.returned (.tuple #[hvl h.1 n h.2.2.1 h.2.2.2.1,.int .i64 h.2.2.2.2])∧Below W.heap.size W W' :=
 (C.cp s sp W hs hG).mono (by
   rintro e W' ⟨⟨h',n',x',hn',rfl⟩,hB⟩
   obtain rfl:=HP.one C.asc x x'
   obtain rfl:=av (hn.trans hn'.symm)
   exact⟨rfl,hB⟩)
theorem Ctr.ctIs{A:List Int→List Int→Int→Prop}{G:World→Prop}(C:Ctr A G){k:Nat}{n:ByteArray}{f:Nat}{a:List Nat}{t:ByteArray}(hz:n.size≤400000000)(hk:k<256)(hf:f<4294967296)(ha:a.length=8)(hs:X.Small a)(h:txt (k,bn n,f,a,0)=bn t)(W:World)(hG:G W):
  Calls Tryz.prog 11 #[hvl k n f a] W fun e W'=>e=.returned (.string t)∧Below W.heap.size W W' :=
 (C.ct k n f a W hz hk hf ha hs hG).mono (by
   rintro e W' ⟨⟨u,rfl,hu⟩,hB⟩
   obtain rfl:=av (hu.trans h)
   exact⟨rfl,hB⟩)
def em:ByteArray:=⟨#[]⟩
theorem hp4{A:List Int→List Int→Int→Prop}:HP A (bn w4) false (3,[],0,[0,0,0,0,0,0,0,1],0):=by
 unfold HP;rw[if_neg (by decide),if_pos (by decide)]
 decide +kernel
theorem hp3{A:List Int→List Int→Int→Prop}(hA:Asc A){h:Hst}(x:HP A (bn w3) true h):h=non 70:=by
 unfold HP at x
 rw[if_neg (by decide),if_neg (by decide),if_neg (by decide)]at x;obtain⟨d,r,h1,rfl⟩:=x;rw[show E.de (bn w3)=[97,32,98] by decide]at h1;unfold dom;rw[if_pos (hA.bln h1)]
theorem df:X.Small [0,0,0,0,0,0,0,1]:=by unfold X.Small;decide
theorem bI(t:ByteArray):(t.toList==t.toList)=true:=aK rfl
theorem da{A:List Int→List Int→Int→Prop}{G:World→Prop}(C:Ctr A G)(w:World)(hG:G w):Calls Tryz.prog 8 #[] w fun e W'=>e=.returned (.bool true)∧Below w.heap.size w W':=by
 have H1:Hid (∀ W,G W→Calls Tryz.prog 9 #[.string ⟨#[69,88,65,77,80,76,69,46,99,111,109]⟩,.bool true] W fun e W'=>e=.returned (.tuple #[hv 1 ⟨#[101,120,97,109,112,108,101,46,99,111,109]⟩ 0 0 0 0 0 0 0 0 0,.int .i64 0])∧Below W.heap.size W W'):=fun W h=>C.cpIs (s:=w1) (n:=x1) (by decide) (hp1 C.asc) rfl W h
 have H2:Hid (∀ W,G W→Calls Tryz.prog 9 #[.string ⟨#[48,120,55,102,46,49]⟩,.bool true] W fun e W'=>e=.returned (.tuple #[hv 2 ⟨#[]⟩ 2130706433 0 0 0 0 0 0 0 0,.int .i64 0])∧Below W.heap.size W W'):=fun W h=>C.cpIs (s:=w2) (n:=em) (by decide) (hp2 C.asc) rfl W h
 have H3:Hid (∀ W,G W→Calls Tryz.prog 9 #[.string ⟨#[97,32,98]⟩,.bool true] W fun e W'=>e=.returned (.tuple #[hv 0 ⟨#[]⟩ 0 0 0 0 0 0 0 0 0,.int .i64 70])∧Below W.heap.size W W'):=fun W h=>(C.cp w3 true W (by decide) h).mono (by
   rintro e W' ⟨⟨h',n',x',hn',rfl⟩,hB⟩
   obtain rfl:=hp3 C.asc x'
   obtain rfl:=av (s:=n') (t:=em) (hn'.trans rfl)
   exact⟨rfl,hB⟩)
 have H4:Hid (∀ W,G W→Calls Tryz.prog 9 #[.string ⟨#[91,58,58,49,93]⟩,.bool false] W fun e W'=>e=.returned (.tuple #[hv 3 ⟨#[]⟩ 0 0 0 0 0 0 0 0 1,.int .i64 0])∧Below W.heap.size W W'):=fun W h=>C.cpIs (s:=w4) (n:=em) (by decide) hp4 rfl W h
 have T1:Hid (∀ W,G W→Calls Tryz.prog 11 #[hv 1 ⟨#[101,120,97,109,112,108,101,46,99,111,109]⟩ 0 0 0 0 0 0 0 0 0] W fun e W'=>e=.returned (.string ⟨#[101,120,97,109,112,108,101,46,99,111,109]⟩)∧Below W.heap.size W W'):=fun W h=>C.ctIs (k:=1) (n:=x1) (f:=0) (a:=z8) (t:=x1) (by decide) (by decide) (by decide) rfl bq rfl W h
 have T2:Hid (∀ W,G W→Calls Tryz.prog 11 #[hv 2 ⟨#[]⟩ 2130706433 0 0 0 0 0 0 0 0] W fun e W'=>e=.returned (.string ⟨#[49,50,55,46,48,46,48,46,49]⟩)∧Below W.heap.size W W'):=fun W h=>C.ctIs (k:=2) (n:=em) (f:=2130706433) (a:=z8) (t:=x2) (by decide) (by decide) (by decide) rfl bq (by decide +kernel) W h
 have T4:Hid (∀ W,G W→Calls Tryz.prog 11 #[hv 3 ⟨#[]⟩ 0 0 0 0 0 0 0 0 1] W fun e W'=>e=.returned (.string ⟨#[91,58,58,49,93]⟩)∧Below W.heap.size W W'):=fun W h=>C.ctIs (k:=3) (n:=em) (f:=0) (a:=[0,0,0,0,0,0,0,1]) (t:=w4) (by decide) (by decide) (by decide) rfl df (by decide +kernel) W h
 have M1:Hid (∀ W,G W→Calls Tryz.prog 13 #[hv 0 ⟨#[]⟩ 0 0 0 0 0 0 0 0 0] W fun e W'=>e=.returned (.bool true)∧Below W.heap.size W W'):=fun W h=>(C.cm 0 em 0 z8 W (by decide) (by decide) (by decide) rfl bq h).mono (by
   rintro e W' ⟨⟨b,hb,rfl⟩,hB⟩
   unfold May at hb
   rw[if_pos (show((0,bn em,0,z8,0):Hst)=non 0 from rfl)]at hb
   rw[hb]
   exact⟨rfl,hB⟩)
 have HB:Hid (Below w.heap.size w w):=Below.refl _ _;have HK:Hid (∀ W,Below w.heap.size w W→G W):=fun W h=>C.keep w W hG h
 have e1:=bI ⟨#[101,120,97,109,112,108,101,46,99,111,109]⟩;have e2:=bI ⟨#[49,50,55,46,48,46,48,46,49]⟩;have e4:=bI ⟨#[91,58,58,49,93]⟩;clear C hG;go_enter Tryz.func8,Tryz.ntmps8
 go_wp2_with fail;refine(H1.out _ (HK.out _ HB.out)).mono ?_;rintro e v1 ⟨rfl,B⟩
 have A1:=hid (heap_alloc_new v1 (.cells #[.int .u8 1,.string ⟨#[101,120,97,109,112,108,101,46,99,111,109]⟩,.int .u32 0,.int .u16 0,.int .u16 0,.int .u16 0,.int .u16 0,.int .u16 0,.int .u16 0,.int .u16 0,.int .u16 0] 26))
 replace HB:=hid (HB.out.trans (B.mono HB.out.size))
 replace HB:=hid (HB.out.alloc HB.out.size (.cells #[.int .u8 1,.string ⟨#[101,120,97,109,112,108,101,46,99,111,109]⟩,.int .u32 0,.int .u16 0,.int .u16 0,.int .u16 0,.int .u16 0,.int .u16 0,.int .u16 0,.int .u16 0,.int .u16 0] 26))
 clear B H1
 go_wp2_with fail;refine(H2.out _ (HK.out _ HB.out)).mono ?_;rintro e v2 ⟨rfl,B⟩
 replace A1:=hid (aA (ag A1.out B) (.cells #[.int .u8 2,.string ⟨#[]⟩,.int .u32 2130706433,.int .u16 0,.int .u16 0,.int .u16 0,.int .u16 0,.int .u16 0,.int .u16 0,.int .u16 0,.int .u16 0] 26))
 have A2:=hid (heap_alloc_new v2 (.cells #[.int .u8 2,.string ⟨#[]⟩,.int .u32 2130706433,.int .u16 0,.int .u16 0,.int .u16 0,.int .u16 0,.int .u16 0,.int .u16 0,.int .u16 0,.int .u16 0] 26))
 replace HB:=hid (HB.out.trans (B.mono HB.out.size))
 replace HB:=hid (HB.out.alloc HB.out.size (.cells #[.int .u8 2,.string ⟨#[]⟩,.int .u32 2130706433,.int .u16 0,.int .u16 0,.int .u16 0,.int .u16 0,.int .u16 0,.int .u16 0,.int .u16 0,.int .u16 0] 26))
 clear B H2
 go_wp2_with fail;refine(H3.out _ (HK.out _ HB.out)).mono ?_;rintro e v3 ⟨rfl,B⟩
 replace A1:=hid (aA (ag A1.out B) (.cells #[.int .u8 0,.string ⟨#[]⟩,.int .u32 0,.int .u16 0,.int .u16 0,.int .u16 0,.int .u16 0,.int .u16 0,.int .u16 0,.int .u16 0,.int .u16 0] 26))
 replace A2:=hid (aA (ag A2.out B) (.cells #[.int .u8 0,.string ⟨#[]⟩,.int .u32 0,.int .u16 0,.int .u16 0,.int .u16 0,.int .u16 0,.int .u16 0,.int .u16 0,.int .u16 0,.int .u16 0] 26))
 replace HB:=hid (HB.out.trans (B.mono HB.out.size))
 replace HB:=hid (HB.out.alloc HB.out.size (.cells #[.int .u8 0,.string ⟨#[]⟩,.int .u32 0,.int .u16 0,.int .u16 0,.int .u16 0,.int .u16 0,.int .u16 0,.int .u16 0,.int .u16 0,.int .u16 0] 26))
 clear B H3
 go_wp2_with fail;refine(H4.out _ (HK.out _ HB.out)).mono ?_;rintro e v4 ⟨rfl,B⟩
 replace A1:=hid (aA (ag A1.out B) (.cells #[.int .u8 3,.string ⟨#[]⟩,.int .u32 0,.int .u16 0,.int .u16 0,.int .u16 0,.int .u16 0,.int .u16 0,.int .u16 0,.int .u16 0,.int .u16 1] 26))
 replace A2:=hid (aA (ag A2.out B) (.cells #[.int .u8 3,.string ⟨#[]⟩,.int .u32 0,.int .u16 0,.int .u16 0,.int .u16 0,.int .u16 0,.int .u16 0,.int .u16 0,.int .u16 0,.int .u16 1] 26))
 have A4:=hid (heap_alloc_new v4 (.cells #[.int .u8 3,.string ⟨#[]⟩,.int .u32 0,.int .u16 0,.int .u16 0,.int .u16 0,.int .u16 0,.int .u16 0,.int .u16 0,.int .u16 0,.int .u16 1] 26))
 replace HB:=hid (HB.out.trans (B.mono HB.out.size))
 replace HB:=hid (HB.out.alloc HB.out.size (.cells #[.int .u8 3,.string ⟨#[]⟩,.int .u32 0,.int .u16 0,.int .u16 0,.int .u16 0,.int .u16 0,.int .u16 0,.int .u16 0,.int .u16 0,.int .u16 1] 26))
 clear B H4;have F1_0:World.cell? _ ⟨v1.heap.size,0,none⟩=some (.int .u8 1):=cell_of_row _ _ 0 _ _ _ A1.out;have F1_1:World.cell? _ ⟨v1.heap.size,1,none⟩=some (.string ⟨#[101,120,97,109,112,108,101,46,99,111,109]⟩):=cell_of_row _ _ 1 _ _ _ A1.out;have F1_2:World.cell? _ ⟨v1.heap.size,2,none⟩=some (.int .u32 0):=cell_of_row _ _ 2 _ _ _ A1.out;have F1_3:World.cell? _ ⟨v1.heap.size,3,none⟩=some (.int .u16 0):=cell_of_row _ _ 3 _ _ _ A1.out;have F1_4:World.cell? _ ⟨v1.heap.size,4,none⟩=some (.int .u16 0):=cell_of_row _ _ 4 _ _ _ A1.out;have F1_5:World.cell? _ ⟨v1.heap.size,5,none⟩=some (.int .u16 0):=cell_of_row _ _ 5 _ _ _ A1.out;have F1_6:World.cell? _ ⟨v1.heap.size,6,none⟩=some (.int .u16 0):=cell_of_row _ _ 6 _ _ _ A1.out;have F1_7:World.cell? _ ⟨v1.heap.size,7,none⟩=some (.int .u16 0):=cell_of_row _ _ 7 _ _ _ A1.out;have F1_8:World.cell? _ ⟨v1.heap.size,8,none⟩=some (.int .u16 0):=cell_of_row _ _ 8 _ _ _ A1.out;have F1_9:World.cell? _ ⟨v1.heap.size,9,none⟩=some (.int .u16 0):=cell_of_row _ _ 9 _ _ _ A1.out;have F1_10:World.cell? _ ⟨v1.heap.size,10,none⟩=some (.int .u16 0):=cell_of_row _ _ 10 _ _ _ A1.out
 go_wp2_with fail;refine(T1.out _ (HK.out _ HB.out)).mono ?_;rintro e u1 ⟨rfl,B⟩
 replace A1:=hid (ag A1.out B)
 replace A2:=hid (ag A2.out B)
 replace A4:=hid (ag A4.out B)
 replace HB:=hid (HB.out.trans (B.mono HB.out.size))
 clear B T1;clear F1_0 F1_1 F1_2 F1_3 F1_4 F1_5 F1_6 F1_7 F1_8 F1_9 F1_10;have F2_0:World.cell? _ ⟨v2.heap.size,0,none⟩=some (.int .u8 2):=cell_of_row _ _ 0 _ _ _ A2.out;have F2_1:World.cell? _ ⟨v2.heap.size,1,none⟩=some (.string ⟨#[]⟩):=cell_of_row _ _ 1 _ _ _ A2.out;have F2_2:World.cell? _ ⟨v2.heap.size,2,none⟩=some (.int .u32 2130706433):=cell_of_row _ _ 2 _ _ _ A2.out;have F2_3:World.cell? _ ⟨v2.heap.size,3,none⟩=some (.int .u16 0):=cell_of_row _ _ 3 _ _ _ A2.out;have F2_4:World.cell? _ ⟨v2.heap.size,4,none⟩=some (.int .u16 0):=cell_of_row _ _ 4 _ _ _ A2.out;have F2_5:World.cell? _ ⟨v2.heap.size,5,none⟩=some (.int .u16 0):=cell_of_row _ _ 5 _ _ _ A2.out;have F2_6:World.cell? _ ⟨v2.heap.size,6,none⟩=some (.int .u16 0):=cell_of_row _ _ 6 _ _ _ A2.out;have F2_7:World.cell? _ ⟨v2.heap.size,7,none⟩=some (.int .u16 0):=cell_of_row _ _ 7 _ _ _ A2.out;have F2_8:World.cell? _ ⟨v2.heap.size,8,none⟩=some (.int .u16 0):=cell_of_row _ _ 8 _ _ _ A2.out;have F2_9:World.cell? _ ⟨v2.heap.size,9,none⟩=some (.int .u16 0):=cell_of_row _ _ 9 _ _ _ A2.out;have F2_10:World.cell? _ ⟨v2.heap.size,10,none⟩=some (.int .u16 0):=cell_of_row _ _ 10 _ _ _ A2.out;have F1_0:World.cell? _ ⟨v1.heap.size,0,none⟩=some (.int .u8 1):=cell_of_row _ _ 0 _ _ _ A1.out
 go_wp2_with fail;refine(T2.out _ (HK.out _ HB.out)).mono ?_;rintro e u2 ⟨rfl,B⟩
 replace A1:=hid (ag A1.out B)
 replace A2:=hid (ag A2.out B)
 replace A4:=hid (ag A4.out B)
 replace HB:=hid (HB.out.trans (B.mono HB.out.size))
 clear B T2;clear F2_0 F2_1 F2_2 F2_3 F2_4 F2_5 F2_6 F2_7 F2_8 F2_9 F2_10;clear F1_0;have F4_0:World.cell? _ ⟨v4.heap.size,0,none⟩=some (.int .u8 3):=cell_of_row _ _ 0 _ _ _ A4.out;have F4_1:World.cell? _ ⟨v4.heap.size,1,none⟩=some (.string ⟨#[]⟩):=cell_of_row _ _ 1 _ _ _ A4.out;have F4_2:World.cell? _ ⟨v4.heap.size,2,none⟩=some (.int .u32 0):=cell_of_row _ _ 2 _ _ _ A4.out;have F4_3:World.cell? _ ⟨v4.heap.size,3,none⟩=some (.int .u16 0):=cell_of_row _ _ 3 _ _ _ A4.out;have F4_4:World.cell? _ ⟨v4.heap.size,4,none⟩=some (.int .u16 0):=cell_of_row _ _ 4 _ _ _ A4.out;have F4_5:World.cell? _ ⟨v4.heap.size,5,none⟩=some (.int .u16 0):=cell_of_row _ _ 5 _ _ _ A4.out;have F4_6:World.cell? _ ⟨v4.heap.size,6,none⟩=some (.int .u16 0):=cell_of_row _ _ 6 _ _ _ A4.out;have F4_7:World.cell? _ ⟨v4.heap.size,7,none⟩=some (.int .u16 0):=cell_of_row _ _ 7 _ _ _ A4.out;have F4_8:World.cell? _ ⟨v4.heap.size,8,none⟩=some (.int .u16 0):=cell_of_row _ _ 8 _ _ _ A4.out;have F4_9:World.cell? _ ⟨v4.heap.size,9,none⟩=some (.int .u16 0):=cell_of_row _ _ 9 _ _ _ A4.out;have F4_10:World.cell? _ ⟨v4.heap.size,10,none⟩=some (.int .u16 1):=cell_of_row _ _ 10 _ _ _ A4.out
 go_wp2_with fail;refine(T4.out _ (HK.out _ HB.out)).mono ?_;rintro e u4 ⟨rfl,B⟩
 replace A1:=hid (ag A1.out B)
 replace A4:=hid (ag A4.out B)
 replace HB:=hid (HB.out.trans (B.mono HB.out.size))
 clear B T4;clear F4_0 F4_1 F4_2 F4_3 F4_4 F4_5 F4_6 F4_7 F4_8 F4_9 F4_10
 go_wp2_with fail;refine(M1.out _ (HK.out _ HB.out)).mono ?_;rintro e u5 ⟨rfl,B⟩
 replace HB:=hid (HB.out.trans (B.mono HB.out.size))
 go_wp2;go_ret;exact⟨rfl,HB.out⟩
end Go.Proofs.YtkekkbciiohbkaaGreatDoor.H
namespace Go.Proofs.YtkekkbciiohbkaaGreatDoor.X
open Go.RowKit
open Go.Proofs.YtkekkbciiohbkaaGreatDoor.F (hx bw vl bn aa aC av aq ar hid aj ab ah aR aK)
theorem PI.skip{b:Int}{l:List Int}{i fr:Nat}{qs:List (List Int)}(hi:i<l.length)(hc:l[i]?.getD 0≠b)(h:PI b l i fr qs):PI b l (i+1) fr qs:=by
 rcases h with⟨_,h2,h3,h4⟩ | ⟨h,_⟩
 ·refine .inl ⟨by omega,by omega,h3,fun j hj hji=>?_⟩
  by_cases e:j=i
  ·rw[e];exact hc
  ·exact h4 j hj (by omega)
 ·omega
theorem PI.last{b:Int}{l:List Int}{fr:Nat}{qs:List (List Int)}(h:PI b l l.length fr qs)(f2:Nat):PI b l (l.length+1) f2 (qs++[(l.drop fr).take (l.length - fr)]):=by
 rcases h with⟨_,h2,h3,h4⟩ | ⟨h,_⟩
 ·refine .inr ⟨rfl,?_⟩
  have e:(l.drop fr).take (l.length - fr)=l.drop fr:=List.take_of_length_le (by rw[List.length_drop];exact Nat.le_refl _);have hn:=gG (Nat.le_refl _) h4;rw[e]at hn ⊢;rw[h3,ei b _ hn]
 ·omega
theorem Tryz.info9:(Tryz.prog.info? 9).map (fun i=>(i.zero,i.size,i.bytes))=some (some (.string ⟨#[]⟩),1,16):=by kernel_rfl
structure Ctr(G:World→Prop):Prop where
 keep:∀(w w':World),G w→Below w.heap.size w w'→G w'
 cp:∀(s:ByteArray) (w:World),s.size≤100000→G w→Calls Tryz.prog 41 #[.string s] w fun e W'=>e=.returned (.tuple #[.agg (ak ((prs (bn s)).getD z8)).toArray,.int .i64 (err (prs (bn s)))])∧Below w.heap.size w W'
 ct:∀(a:List Nat) (w:World),a.length=8→Small a→G w→Calls Tryz.prog 30 #[.agg (ak a).toArray] w fun e W'=>ia a w e W'
theorem Ctr.cpIs{G:World→Prop}(C:Ctr G){s:ByteArray}{a0 a1 a2 a3 a4 a5 a6 a7:Nat}(hs:s.size≤100000)(h:prs (bn s)=some [a0,a1,a2,a3,a4,a5,a6,a7])(W:World)(hG:G W):Calls Tryz.prog 41 #[.string s] W fun e W'=>e=.returned (.tuple #[.agg #[.int .u16 a0,.int .u16 a1,.int .u16 a2,.int .u16 a3,.int .u16 a4,.int .u16 a5,.int .u16 a6,.int .u16 a7],.int .i64 0])∧Below W.heap.size W W' :=
 (C.cp s W hs hG).mono (by
   rintro e W' ⟨rfl,hB⟩
   rw[h];exact⟨rfl,hB⟩)
theorem Ctr.ctIs{G:World→Prop}(C:Ctr G){a:List Nat}{t:ByteArray}(hl:a.length=8)(hs:Small a)(h:txt a=bn t)(W:World)(hG:G W):Calls Tryz.prog 30 #[.agg (ak a).toArray] W fun e W'=>e=.returned (.string t)∧Below W.heap.size W W' :=
 (C.ct a W hl hs hG).mono (by
   rintro e W' ⟨⟨u,rfl,hu⟩,hB⟩
   obtain rfl:=av (hu.trans h)
   exact⟨rfl,hB⟩)
end Go.Proofs.YtkekkbciiohbkaaGreatDoor.X
namespace Go.Proofs.YtkekkbciiohbkaaGreatDoor.H
open Go.RowKit
open Go.Proofs.YtkekkbciiohbkaaGreatDoor.F (bn aa av aq ar hid aj ab ah aR aK)
theorem AR(W:World):(binOp .eql 24 (.agg #[.int .u16 0,.int .u16 0,.int .u16 0,.int .u16 0,.int .u16 0,.int .u16 0,.int .u16 0,.int .u16 0]) (.agg #[.int .u16 0,.int .u16 0,.int .u16 0,.int .u16 0,.int .u16 0,.int .u16 0,.int .u16 0,.int .u16 0])).run Tryz.prog W=.ok (.bool true) W:=by
 rw[run_eql_struct,Ie 9998 _ _ (fun _=>0) (fun _=>0) (fun i hi=>by
   obtain rfl | rfl | rfl | rfl | rfl | rfl | rfl | rfl:i=0∨i=1∨i=2∨i=3∨i=4∨i=5∨i=6∨i=7:=by omega
   all_goals rfl) (fun i hi=>by
   obtain rfl | rfl | rfl | rfl | rfl | rfl | rfl | rfl:i=0∨i=1∨i=2∨i=3∨i=4∨i=5∨i=6∨i=7:=by omega
   all_goals rfl)]
 rfl
theorem HP.kinds{A:List Int→List Int→Int→Prop}(hA:Asc A){s:List Int}{h:Hst}(hs:U.Bytes s)(x:HP A s true h)(h0:h.2.2.2.2=0):
  (h.1=1∧F.ends h.2.1=false∧h.2.1≠[]∧h.2.2.1=0∧h.2.2.2.1=z8∧h.2.1.length≤200000000)∨(h.1=2∧h.2.1=[]∧h.2.2.2.1=z8)∨(h.1=3∧h.2.1=[]∧h.2.2.1=0∧s.head? = some 91):=by
 unfold HP at x
 split at x
 ·rw[x]at h0;cases h0
 rename_i hl
 split at x
 ·rename_i hh
  unfold six at x
  split at x
  ·split at x
   ·rw[x];exact .inr (.inr ⟨rfl,rfl,rfl,hh⟩)
   ·rw[x]at h0;cases h0
  ·rw[x]at h0;cases h0
 rw[if_neg (by simp)]at x;obtain⟨d,r,hAd,x⟩:=x;unfold dom at x
 split at x
 ·rw[x]at h0;cases h0
 ·rename_i hd
  have hr:r=0:=by
   by_cases h:r=0
   ·exact h
   ·exact absurd (.inl h) hd
  subst hr;split at x
  ·split at x
   ·rw[x];exact .inr (.inl ⟨rfl,rfl,rfl⟩)
   ·rw[x]at h0;cases h0
  ·rename_i hend
   rw[x];refine .inl ⟨rfl,by simpa using hend,fun h=>hd (.inr (.inl h)),rfl,rfl,?_⟩;exact hA.len hAd (E.eB _ _ (Nat.le_refl _) hs) (by have:=E.mU s.length s (Nat.le_refl _);omega)
theorem kinds_walk{A:List Int→List Int→Int→Prop}{G:World→Prop}(C:Ctr A G)(s:ByteArray)(w:World)(hG:G w)(hs:s.size≤maxLen):
  Calls Tryz.prog 6 #[.string s] w fun e W'=>e=.returned (.bool true)∧Below w.heap.size w W':=by
 unfold maxLen at hs
 have HK:Hid (∀ W,Below w.heap.size w W→G W):=fun W h=>C.keep w W hG h
 have HW:Hid (∀ W,Below w.heap.size w W→Calls Tryz.prog 8 #[] W fun e W'=>e=.returned (.bool true)∧Below W.heap.size W W'):=fun W h=>da C W (HK.out W h)
 have HB:Hid (Below w.heap.size w w):=Below.refl _ _;by_cases h6:600<s.size
 ·have h6z:(600:Int)<(s.size:Int):=by omega
  clear C hG;go_enter Tryz.func6,Tryz.ntmps6
  go_wp2_with(go_at_call 8;refine(HW.out _ HB.out).mono ?_;rintro e w2 ⟨rfl,B2⟩)
  go_ret;exact⟨rfl,B2⟩
 ·have h6z:¬ (600:Int)<(s.size:Int):=by omega
  have HCP:=hid (C.cp s true w (by omega) hG);have HC:=hid C;clear C hG;go_enter Tryz.func6,Tryz.ntmps6
  go_wp2_with fail;refine HCP.out.mono ?_;rintro e v1 ⟨⟨⟨k,nm,f,a,er⟩,n,x,hn,rfl⟩,B⟩
  obtain⟨hk,hf,ha,hsm,_,_,_⟩:=x.fine;simp only at hk hf ha hsm hn
  obtain⟨a0,a1,a2,a3,a4,a5,a6,a7,rfl⟩:=eight ha;show _
  replace HB:=hid (HB.out.trans (B.mono HB.out.size))
  have A1:=hid (heap_alloc_new v1 (.cells #[.int .u8 (k:Int),.string n,.int .u32 (f:Int),.int .u16 (a0:Int),.int .u16 (a1:Int),.int .u16 (a2:Int),.int .u16 (a3:Int),.int .u16 (a4:Int),.int .u16 (a5:Int),.int .u16 (a6:Int),.int .u16 (a7:Int)] 26))
  replace HB:=hid (HB.out.alloc HB.out.size (.cells #[.int .u8 (k:Int),.string n,.int .u32 (f:Int),.int .u16 (a0:Int),.int .u16 (a1:Int),.int .u16 (a2:Int),.int .u16 (a3:Int),.int .u16 (a4:Int),.int .u16 (a5:Int),.int .u16 (a6:Int),.int .u16 (a7:Int)] 26))
  clear B HCP;by_cases he0:er=0
  ·subst he0
   subst hn;rcases HP.kinds HC.out.asc (aM s) x rfl with⟨r1,r2,r3,r4,r5,r6⟩ | ⟨r1,r2,r3⟩ | ⟨r1,r2,r3,r4⟩
   ·simp only at r1 r2 r3 r4 r5 r6
    subst r1 r4;unfold z8 at r5
    simp only[List.cons.injEq,and_true]at r5;obtain⟨rfl,rfl,rfl,rfl,rfl,rfl,rfl,rfl⟩:=r5
    have HE:Hid (∀ W,Calls Tryz.prog 17 #[.string n] W fun e W'=>e=.returned (.bool false)∧Below W.heap.size W W'):=fun W=>(F.nV n W (by rw[←aa];omega)).mono (by
      rintro e W' ⟨rfl,hB⟩
      rw[r2]
      exact⟨rfl,hB⟩)
    have hne:n.toList.isEmpty=false:=ab n (by
      rw[←aa]
      exact List.length_pos_iff.2 r3)
    have HAZ:=AR;clear r2 r3 r6 x hk hf ha hsm;have F0:World.cell? _ ⟨v1.heap.size,0,none⟩=some (.int .u8 1):=cell_of_row _ _ 0 _ _ _ A1.out;have F1:World.cell? _ ⟨v1.heap.size,1,none⟩=some (.string n):=cell_of_row _ _ 1 _ _ _ A1.out;have F2:World.cell? _ ⟨v1.heap.size,2,none⟩=some (.int .u32 0):=cell_of_row _ _ 2 _ _ _ A1.out;have F3:World.cell? _ ⟨v1.heap.size,3,none⟩=some (.int .u16 0):=cell_of_row _ _ 3 _ _ _ A1.out;have F4:World.cell? _ ⟨v1.heap.size,4,none⟩=some (.int .u16 0):=cell_of_row _ _ 4 _ _ _ A1.out;have F5:World.cell? _ ⟨v1.heap.size,5,none⟩=some (.int .u16 0):=cell_of_row _ _ 5 _ _ _ A1.out;have F6:World.cell? _ ⟨v1.heap.size,6,none⟩=some (.int .u16 0):=cell_of_row _ _ 6 _ _ _ A1.out;have F7:World.cell? _ ⟨v1.heap.size,7,none⟩=some (.int .u16 0):=cell_of_row _ _ 7 _ _ _ A1.out;have F8:World.cell? _ ⟨v1.heap.size,8,none⟩=some (.int .u16 0):=cell_of_row _ _ 8 _ _ _ A1.out;have F9:World.cell? _ ⟨v1.heap.size,9,none⟩=some (.int .u16 0):=cell_of_row _ _ 9 _ _ _ A1.out;have F10:World.cell? _ ⟨v1.heap.size,10,none⟩=some (.int .u16 0):=cell_of_row _ _ 10 _ _ _ A1.out
    go_wp2_with fail;refine(HE.out _).mono ?_;rintro e v2 ⟨rfl,B⟩
    replace A1:=hid (ag A1.out B)
    replace HB:=hid (HB.out.trans (B.mono HB.out.size))
    clear B HE F0 F1 F2 F3 F4 F5 F6 F7 F8 F9 F10;have F0:World.cell? _ ⟨v1.heap.size,0,none⟩=some (.int .u8 1):=cell_of_row _ _ 0 _ _ _ A1.out;have F1:World.cell? _ ⟨v1.heap.size,1,none⟩=some (.string n):=cell_of_row _ _ 1 _ _ _ A1.out;have F2:World.cell? _ ⟨v1.heap.size,2,none⟩=some (.int .u32 0):=cell_of_row _ _ 2 _ _ _ A1.out;have F3:World.cell? _ ⟨v1.heap.size,3,none⟩=some (.int .u16 0):=cell_of_row _ _ 3 _ _ _ A1.out;have F4:World.cell? _ ⟨v1.heap.size,4,none⟩=some (.int .u16 0):=cell_of_row _ _ 4 _ _ _ A1.out;have F5:World.cell? _ ⟨v1.heap.size,5,none⟩=some (.int .u16 0):=cell_of_row _ _ 5 _ _ _ A1.out;have F6:World.cell? _ ⟨v1.heap.size,6,none⟩=some (.int .u16 0):=cell_of_row _ _ 6 _ _ _ A1.out;have F7:World.cell? _ ⟨v1.heap.size,7,none⟩=some (.int .u16 0):=cell_of_row _ _ 7 _ _ _ A1.out;have F8:World.cell? _ ⟨v1.heap.size,8,none⟩=some (.int .u16 0):=cell_of_row _ _ 8 _ _ _ A1.out;have F9:World.cell? _ ⟨v1.heap.size,9,none⟩=some (.int .u16 0):=cell_of_row _ _ 9 _ _ _ A1.out;have F10:World.cell? _ ⟨v1.heap.size,10,none⟩=some (.int .u16 0):=cell_of_row _ _ 10 _ _ _ A1.out
    go_wp2_with(go_at_call 8;refine(HW.out _ HB.out).mono ?_;rintro e w2 ⟨rfl,B2⟩)
    go_ret;exact⟨rfl,HB.out.trans (B2.mono HB.out.size)⟩
   ·simp only at r1 r2 r3
    subst r1;obtain rfl:n=em:=av (r2.trans rfl);unfold z8 at r3
    simp only[List.cons.injEq,and_true]at r3;obtain⟨rfl,rfl,rfl,rfl,rfl,rfl,rfl,rfl⟩:=r3;have HT:=hid (fun W h=>HC.out.ct 2 em f [0,0,0,0,0,0,0,0] W (by decide) (by decide) hf rfl bq h)
    have HE:Hid (∀ W t,bn t=F.txt f→Calls Tryz.prog 17 #[.string t] W fun e W'=>e=.returned (.bool true)∧Below W.heap.size W W'):=fun W t ht=>(F.nV t W (by
      have h1:t.size=(F.txt f).length:=by rw[←aa,ht]
      have:=qk hf
      omega)).mono (by
      rintro e W' ⟨rfl,hB⟩
      rw[ht,(jV hf).2.1]
      exact⟨rfl,hB⟩)
    unfold em at A1 HB HT ⊢
    clear r2 x hk hf ha hsm;have F0:World.cell? _ ⟨v1.heap.size,0,none⟩=some (.int .u8 2):=cell_of_row _ _ 0 _ _ _ A1.out;have F1:World.cell? _ ⟨v1.heap.size,1,none⟩=some (.string ⟨#[]⟩):=cell_of_row _ _ 1 _ _ _ A1.out;have F2:World.cell? _ ⟨v1.heap.size,2,none⟩=some (.int .u32 (f:Int)):=cell_of_row _ _ 2 _ _ _ A1.out;have F3:World.cell? _ ⟨v1.heap.size,3,none⟩=some (.int .u16 0):=cell_of_row _ _ 3 _ _ _ A1.out;have F4:World.cell? _ ⟨v1.heap.size,4,none⟩=some (.int .u16 0):=cell_of_row _ _ 4 _ _ _ A1.out;have F5:World.cell? _ ⟨v1.heap.size,5,none⟩=some (.int .u16 0):=cell_of_row _ _ 5 _ _ _ A1.out;have F6:World.cell? _ ⟨v1.heap.size,6,none⟩=some (.int .u16 0):=cell_of_row _ _ 6 _ _ _ A1.out;have F7:World.cell? _ ⟨v1.heap.size,7,none⟩=some (.int .u16 0):=cell_of_row _ _ 7 _ _ _ A1.out;have F8:World.cell? _ ⟨v1.heap.size,8,none⟩=some (.int .u16 0):=cell_of_row _ _ 8 _ _ _ A1.out;have F9:World.cell? _ ⟨v1.heap.size,9,none⟩=some (.int .u16 0):=cell_of_row _ _ 9 _ _ _ A1.out;have F10:World.cell? _ ⟨v1.heap.size,10,none⟩=some (.int .u16 0):=cell_of_row _ _ 10 _ _ _ A1.out
    go_wp2_with fail;refine(HT.out _ (HK.out _ HB.out)).mono ?_;rintro e v2 ⟨⟨t,rfl,ht⟩,B⟩
    replace A1:=hid (ag A1.out B)
    replace HB:=hid (HB.out.trans (B.mono HB.out.size))
    have HE2:=hid (fun W=>HE.out W t ht);clear B HT HE ht F0 F1 F2 F3 F4 F5 F6 F7 F8 F9 F10
    go_wp2_with fail;refine(HE2.out _).mono ?_;rintro e v3 ⟨rfl,B⟩
    replace HB:=hid (HB.out.trans (B.mono HB.out.size))
    clear B HE2
    go_wp2_with(go_at_call 8;refine(HW.out _ HB.out).mono ?_;rintro e w2 ⟨rfl,B2⟩)
    go_ret;exact⟨rfl,HB.out.trans (B2.mono HB.out.size)⟩
   ·simp only at r1 r2 r3 r4
    subst r1 r3;obtain rfl:n=em:=av (r2.trans rfl)
    have hs0:0<s.size:=by
     rcases Nat.eq_zero_or_pos s.size with h | h
     ·have:bn s=[]:=List.length_eq_zero_iff.1 (by rw[aa];exact h)
      rw[this]at r4;cases r4
     ·exact h
    have hg:=(aq s 0 hs0).symm;have h91:(bn s)[0]?.getD 0=91:=by rw[←List.head?_eq_getElem?,r4];rfl
    rw[h91]at hg;unfold em at A1 HB ⊢
    clear r2 r4 x hk hf ha hsm h91;have F0:World.cell? _ ⟨v1.heap.size,0,none⟩=some (.int .u8 3):=cell_of_row _ _ 0 _ _ _ A1.out;have F1:World.cell? _ ⟨v1.heap.size,1,none⟩=some (.string ⟨#[]⟩):=cell_of_row _ _ 1 _ _ _ A1.out;have F2:World.cell? _ ⟨v1.heap.size,2,none⟩=some (.int .u32 0):=cell_of_row _ _ 2 _ _ _ A1.out;have F3:World.cell? _ ⟨v1.heap.size,3,none⟩=some (.int .u16 (a0:Int)):=cell_of_row _ _ 3 _ _ _ A1.out;have F4:World.cell? _ ⟨v1.heap.size,4,none⟩=some (.int .u16 (a1:Int)):=cell_of_row _ _ 4 _ _ _ A1.out;have F5:World.cell? _ ⟨v1.heap.size,5,none⟩=some (.int .u16 (a2:Int)):=cell_of_row _ _ 5 _ _ _ A1.out;have F6:World.cell? _ ⟨v1.heap.size,6,none⟩=some (.int .u16 (a3:Int)):=cell_of_row _ _ 6 _ _ _ A1.out;have F7:World.cell? _ ⟨v1.heap.size,7,none⟩=some (.int .u16 (a4:Int)):=cell_of_row _ _ 7 _ _ _ A1.out;have F8:World.cell? _ ⟨v1.heap.size,8,none⟩=some (.int .u16 (a5:Int)):=cell_of_row _ _ 8 _ _ _ A1.out;have F9:World.cell? _ ⟨v1.heap.size,9,none⟩=some (.int .u16 (a6:Int)):=cell_of_row _ _ 9 _ _ _ A1.out;have F10:World.cell? _ ⟨v1.heap.size,10,none⟩=some (.int .u16 (a7:Int)):=cell_of_row _ _ 10 _ _ _ A1.out
    go_wp2_with(go_at_call 8;refine(HW.out _ HB.out).mono ?_;rintro e w2 ⟨rfl,B2⟩)
    go_ret;exact⟨rfl,HB.out.trans (B2.mono HB.out.size)⟩
  ·have heb:(er==0)=false:=by simpa using he0
   clear x
   go_wp2_with(go_at_call 8;refine(HW.out _ HB.out).mono ?_;rintro e w2 ⟨rfl,B2⟩)
   go_ret;exact⟨rfl,HB.out.trans (B2.mono HB.out.size)⟩
end Go.Proofs.YtkekkbciiohbkaaGreatDoor.H
