/- Texts one behind the other: HB HC HD HE. -/
import Derived.Test.YtkekkbciiohbkaaGreatDoorZ5
import Derived.Test.YtkekkbciiohbkaaGreatDoorZ4
import Derived.Laws.BitsLemmas
set_option maxRecDepth 100000
set_option maxHeartbeats 16000000
set_option linter.unusedVariables false
set_option linter.unnecessarySimpa false
namespace Go.Proofs.YtkekkbciiohbkaaGreatDoor.E
open Go.RowKit
theorem nd{t:ByteArray}(h:t.data.toList.all (fun b=>decide (b.toNat<128))=true):Asc t:=fun b hb=>by
 have:=List.all_eq_true.1 h b hb;exact of_decide_eq_true this
def a6:List Int:=[36,37,38,43,44]
theorem Iy(r:Int)(hr:U.az r=true)(w:World):Calls Tryz.prog 118 #[.string ⟨#[36,37,38,43,44]⟩,.int .i32 r] w fun e W'=>e=.returned (.bool (a6.contains r))∧Below w.heap.size w W' :=
 bT ⟨#[36,37,38,43,44]⟩ (nd (by decide)) (by decide) r hr w
def a5:List Int:=[47,58,59,61,64,91,92,93,124]
theorem Ic(r:Int)(hr:U.az r=true)(w:World):Calls Tryz.prog 118 #[.string ⟨#[47,58,59,61,64,91,92,93,124]⟩,.int .i32 r] w fun e W'=>e=.returned (.bool (a5.contains r))∧Below w.heap.size w W' :=
 bT ⟨#[47,58,59,61,64,91,92,93,124]⟩ (nd (by decide)) (by decide) r hr w
def a4:List Int:=[63,94,96,123,125]
theorem Gt(r:Int)(hr:U.az r=true)(w:World):Calls Tryz.prog 118 #[.string ⟨#[63,94,96,123,125]⟩,.int .i32 r] w fun e W'=>e=.returned (.bool (a4.contains r))∧Below w.heap.size w W' :=
 bT ⟨#[63,94,96,123,125]⟩ (nd (by decide)) (by decide) r hr w
def a2:List Int:=[32,34,35,60,62]
theorem Dd(r:Int)(hr:U.az r=true)(w:World):Calls Tryz.prog 118 #[.string ⟨#[32,34,35,60,62]⟩,.int .i32 r] w fun e W'=>e=.returned (.bool (a2.contains r))∧Below w.heap.size w W' :=
 bT ⟨#[32,34,35,60,62]⟩ (nd (by decide)) (by decide) r hr w
def a1:List Int:=[32,34,60,62,96]
theorem Iz(r:Int)(hr:U.az r=true)(w:World):Calls Tryz.prog 118 #[.string ⟨#[32,34,60,62,96]⟩,.int .i32 r] w fun e W'=>e=.returned (.bool (a1.contains r))∧Below w.heap.size w W' :=
 bT ⟨#[32,34,60,62,96]⟩ (nd (by decide)) (by decide) r hr w
theorem in0(r:Int):inS r 0=ctl r:=by unfold inS;simp[sgn]
theorem in2(r:Int):inS r 2=(a2.contains r||ctl r):=by
 unfold inS;rw[Bool.or_comm];rfl
theorem in4(r:Int):inS r 4=(a4.contains r||(a2.contains r||ctl r)):=by
 have e:sgn 4=a2++a4:=rfl;unfold inS;rw[e,List.contains_eq_any_beq,List.any_append,←List.contains_eq_any_beq,←List.contains_eq_any_beq];cases ctl r <;> cases a4.contains r <;> cases a2.contains r <;> rfl
theorem in5(r:Int):inS r 5=(a5.contains r||(a4.contains r||(a2.contains r||ctl r))):=by
 have e:sgn 5=a2++(a4++a5):=rfl;unfold inS;rw[e,List.contains_eq_any_beq,List.any_append,List.any_append,←List.contains_eq_any_beq,←List.contains_eq_any_beq,←List.contains_eq_any_beq];cases ctl r <;> cases a5.contains r <;> cases a4.contains r <;> cases a2.contains r <;> rfl
theorem in6(r:Int):inS r 6=(a6.contains r||(a5.contains r||(a4.contains r||(a2.contains r||ctl r)))):=by
 have e:sgn 6=a2++(a4++(a5++a6)):=rfl;unfold inS;rw[e,List.contains_eq_any_beq,List.any_append,List.any_append,List.any_append,←List.contains_eq_any_beq,←List.contains_eq_any_beq,←List.contains_eq_any_beq,←List.contains_eq_any_beq];cases ctl r <;> cases a6.contains r <;> cases a5.contains r <;> cases a4.contains r <;> cases a2.contains r <;> rfl
theorem in1(r:Int):inS r 1=(a1.contains r||ctl r):=by
 unfold inS;rw[Bool.or_comm];rfl
theorem in3(r:Int):inS r 3=((r==39)||inS r 2):=by
 have e:sgn 3=a2++[39]:=rfl;rw[in2];unfold inS;rw[e,List.contains_eq_any_beq,List.any_append,←List.contains_eq_any_beq];have e2:([39]:List Int).any (fun x=>r==x)=(r==39):=by simp
 rw[e2];cases ctl r <;> cases a2.contains r <;> cases (r==39) <;> rfl
theorem Hl(r:Int)(hr:U.az r=true)(w:World):Calls Tryz.prog 79 #[.int .i32 r,.int .u8 0] w fun e W'=>e=.returned (.bool (inS r 0))∧Below w.heap.size w W':=by
 obtain⟨h0,h1⟩:=bu hr;have hct:ctl r=(decide (r<32)||decide (126<r)):=rfl
 have hcc:(r<32∧ctl r=true)∨(¬ r<32∧126<r∧ctl r=true)∨(¬ r<32∧¬ 126<r∧ctl r=false):=by
  by_cases c1:r<32
  ·left;exact⟨c1,by rw[hct,decide_eq_true c1];rfl⟩
  ·by_cases c2:126<r
   ·right;left;exact⟨c1,c2,by rw[hct,decide_eq_true c2];simp⟩
   ·right;right;exact⟨c1,c2,by rw[hct,decide_eq_false c1,decide_eq_false c2];rfl⟩
 rw[in0];obtain⟨x,ex⟩:∃ x,ctl r=x:=⟨_,rfl⟩;rw[ex]at hcc ⊢;clear ex hct hr;have HB:Hid (Below w.heap.size w w):=Below.refl _ _;go_enter Tryz.func79,Tryz.ntmps79
 rcases hcc with⟨c1,rfl⟩ | ⟨c1,c2,rfl⟩ | ⟨c1,c2,rfl⟩
 all_goals (go_wp2;go_ret;first | exact⟨rfl,HB.out⟩ | exact⟨U.an (by rw[decide_eq_false (by omega:¬ r<32),decide_eq_false (by omega:¬ 126<r)] <;> rfl),HB.out⟩ | exact⟨U.an (by rw[decide_eq_true (by omega:126<r)];simp),HB.out⟩ | exact⟨U.an (by rw[decide_eq_true (by omega:r<32)];rfl),HB.out⟩)
theorem Hk(r:Int)(hr:U.az r=true)(w:World):Calls Tryz.prog 79 #[.int .i32 r,.int .u8 2] w fun e W'=>e=.returned (.bool (inS r 2))∧Below w.heap.size w W':=by
 obtain⟨h0,h1⟩:=bu hr;have hct:ctl r=(decide (r<32)||decide (126<r)):=rfl
 have hcc:(r<32∧ctl r=true)∨(¬ r<32∧126<r∧ctl r=true)∨(¬ r<32∧¬ 126<r∧ctl r=false):=by
  by_cases c1:r<32
  ·left;exact⟨c1,by rw[hct,decide_eq_true c1];rfl⟩
  ·by_cases c2:126<r
   ·right;left;exact⟨c1,c2,by rw[hct,decide_eq_true c2];simp⟩
   ·right;right;exact⟨c1,c2,by rw[hct,decide_eq_false c1,decide_eq_false c2];rfl⟩
 rw[in2];have H2:=hid (fun W=>Dd r hr W);obtain⟨b2,e2⟩:∃ b,a2.contains r=b:=⟨_,rfl⟩;rw[e2]at H2 ⊢;clear e2;obtain⟨x,ex⟩:∃ x,ctl r=x:=⟨_,rfl⟩;rw[ex]at hcc ⊢;clear ex hct hr;have HB:Hid (Below w.heap.size w w):=Below.refl _ _;go_enter Tryz.func79,Tryz.ntmps79
 go_wp2_with fail;refine(H2.out _).mono ?_;rintro e w' ⟨rfl,B⟩
 replace HB:=hid (HB.out.trans (B.mono HB.out.size))
 clear B H2;cases b2
 case true=>(go_wp2;go_ret;exact⟨rfl,HB.out⟩)
 rcases hcc with⟨c1,rfl⟩ | ⟨c1,c2,rfl⟩ | ⟨c1,c2,rfl⟩
 all_goals (go_wp2;go_ret;first | exact⟨rfl,HB.out⟩ | exact⟨U.an (by rw[decide_eq_false (by omega:¬ r<32),decide_eq_false (by omega:¬ 126<r)] <;> rfl),HB.out⟩ | exact⟨U.an (by rw[decide_eq_true (by omega:126<r)];simp),HB.out⟩ | exact⟨U.an (by rw[decide_eq_true (by omega:r<32)];rfl),HB.out⟩)
theorem Is(r:Int)(hr:U.az r=true)(w:World):Calls Tryz.prog 79 #[.int .i32 r,.int .u8 4] w fun e W'=>e=.returned (.bool (inS r 4))∧Below w.heap.size w W':=by
 obtain⟨h0,h1⟩:=bu hr;have hct:ctl r=(decide (r<32)||decide (126<r)):=rfl
 have hcc:(r<32∧ctl r=true)∨(¬ r<32∧126<r∧ctl r=true)∨(¬ r<32∧¬ 126<r∧ctl r=false):=by
  by_cases c1:r<32
  ·left;exact⟨c1,by rw[hct,decide_eq_true c1];rfl⟩
  ·by_cases c2:126<r
   ·right;left;exact⟨c1,c2,by rw[hct,decide_eq_true c2];simp⟩
   ·right;right;exact⟨c1,c2,by rw[hct,decide_eq_false c1,decide_eq_false c2];rfl⟩
 rw[in4];have H4:=hid (fun W=>Gt r hr W);obtain⟨b4,e4⟩:∃ b,a4.contains r=b:=⟨_,rfl⟩;rw[e4]at H4 ⊢;clear e4;have H2:=hid (fun W=>Dd r hr W);obtain⟨b2,e2⟩:∃ b,a2.contains r=b:=⟨_,rfl⟩;rw[e2]at H2 ⊢;clear e2;obtain⟨x,ex⟩:∃ x,ctl r=x:=⟨_,rfl⟩;rw[ex]at hcc ⊢;clear ex hct hr;have HB:Hid (Below w.heap.size w w):=Below.refl _ _;go_enter Tryz.func79,Tryz.ntmps79
 go_wp2_with fail;refine(H4.out _).mono ?_;rintro e w' ⟨rfl,B⟩
 replace HB:=hid (HB.out.trans (B.mono HB.out.size))
 clear B H4;cases b4
 case true=>(go_wp2;go_ret;exact⟨rfl,HB.out⟩)
 go_wp2_with fail;refine(H2.out _).mono ?_;rintro e w' ⟨rfl,B⟩
 replace HB:=hid (HB.out.trans (B.mono HB.out.size))
 clear B H2;cases b2
 case true=>(go_wp2;go_ret;exact⟨rfl,HB.out⟩)
 rcases hcc with⟨c1,rfl⟩ | ⟨c1,c2,rfl⟩ | ⟨c1,c2,rfl⟩
 all_goals (go_wp2;go_ret;first | exact⟨rfl,HB.out⟩ | exact⟨U.an (by rw[decide_eq_false (by omega:¬ r<32),decide_eq_false (by omega:¬ 126<r)] <;> rfl),HB.out⟩ | exact⟨U.an (by rw[decide_eq_true (by omega:126<r)];simp),HB.out⟩ | exact⟨U.an (by rw[decide_eq_true (by omega:r<32)];rfl),HB.out⟩)
theorem Ir(r:Int)(hr:U.az r=true)(w:World):Calls Tryz.prog 79 #[.int .i32 r,.int .u8 5] w fun e W'=>e=.returned (.bool (inS r 5))∧Below w.heap.size w W':=by
 obtain⟨h0,h1⟩:=bu hr;have hct:ctl r=(decide (r<32)||decide (126<r)):=rfl
 have hcc:(r<32∧ctl r=true)∨(¬ r<32∧126<r∧ctl r=true)∨(¬ r<32∧¬ 126<r∧ctl r=false):=by
  by_cases c1:r<32
  ·left;exact⟨c1,by rw[hct,decide_eq_true c1];rfl⟩
  ·by_cases c2:126<r
   ·right;left;exact⟨c1,c2,by rw[hct,decide_eq_true c2];simp⟩
   ·right;right;exact⟨c1,c2,by rw[hct,decide_eq_false c1,decide_eq_false c2];rfl⟩
 rw[in5];have H5:=hid (fun W=>Ic r hr W);obtain⟨b5,e5⟩:∃ b,a5.contains r=b:=⟨_,rfl⟩;rw[e5]at H5 ⊢;clear e5;have H4:=hid (fun W=>Gt r hr W);obtain⟨b4,e4⟩:∃ b,a4.contains r=b:=⟨_,rfl⟩;rw[e4]at H4 ⊢;clear e4;have H2:=hid (fun W=>Dd r hr W);obtain⟨b2,e2⟩:∃ b,a2.contains r=b:=⟨_,rfl⟩;rw[e2]at H2 ⊢;clear e2;obtain⟨x,ex⟩:∃ x,ctl r=x:=⟨_,rfl⟩;rw[ex]at hcc ⊢;clear ex hct hr;have HB:Hid (Below w.heap.size w w):=Below.refl _ _;go_enter Tryz.func79,Tryz.ntmps79
 go_wp2_with fail;refine(H5.out _).mono ?_;rintro e w' ⟨rfl,B⟩
 replace HB:=hid (HB.out.trans (B.mono HB.out.size))
 clear B H5;cases b5
 case true=>(go_wp2;go_ret;exact⟨rfl,HB.out⟩)
 go_wp2_with fail;refine(H4.out _).mono ?_;rintro e w' ⟨rfl,B⟩
 replace HB:=hid (HB.out.trans (B.mono HB.out.size))
 clear B H4;cases b4
 case true=>(go_wp2;go_ret;exact⟨rfl,HB.out⟩)
 go_wp2_with fail;refine(H2.out _).mono ?_;rintro e w' ⟨rfl,B⟩
 replace HB:=hid (HB.out.trans (B.mono HB.out.size))
 clear B H2;cases b2
 case true=>(go_wp2;go_ret;exact⟨rfl,HB.out⟩)
 rcases hcc with⟨c1,rfl⟩ | ⟨c1,c2,rfl⟩ | ⟨c1,c2,rfl⟩
 all_goals (go_wp2;go_ret;first | exact⟨rfl,HB.out⟩ | exact⟨U.an (by rw[decide_eq_false (by omega:¬ r<32),decide_eq_false (by omega:¬ 126<r)] <;> rfl),HB.out⟩ | exact⟨U.an (by rw[decide_eq_true (by omega:126<r)];simp),HB.out⟩ | exact⟨U.an (by rw[decide_eq_true (by omega:r<32)];rfl),HB.out⟩)
theorem Iq(r:Int)(hr:U.az r=true)(w:World):Calls Tryz.prog 79 #[.int .i32 r,.int .u8 6] w fun e W'=>e=.returned (.bool (inS r 6))∧Below w.heap.size w W':=by
 obtain⟨h0,h1⟩:=bu hr;have hct:ctl r=(decide (r<32)||decide (126<r)):=rfl
 have hcc:(r<32∧ctl r=true)∨(¬ r<32∧126<r∧ctl r=true)∨(¬ r<32∧¬ 126<r∧ctl r=false):=by
  by_cases c1:r<32
  ·left;exact⟨c1,by rw[hct,decide_eq_true c1];rfl⟩
  ·by_cases c2:126<r
   ·right;left;exact⟨c1,c2,by rw[hct,decide_eq_true c2];simp⟩
   ·right;right;exact⟨c1,c2,by rw[hct,decide_eq_false c1,decide_eq_false c2];rfl⟩
 rw[in6];have H6:=hid (fun W=>Iy r hr W);obtain⟨b6,e6⟩:∃ b,a6.contains r=b:=⟨_,rfl⟩;rw[e6]at H6 ⊢;clear e6;have H5:=hid (fun W=>Ic r hr W);obtain⟨b5,e5⟩:∃ b,a5.contains r=b:=⟨_,rfl⟩;rw[e5]at H5 ⊢;clear e5;have H4:=hid (fun W=>Gt r hr W);obtain⟨b4,e4⟩:∃ b,a4.contains r=b:=⟨_,rfl⟩;rw[e4]at H4 ⊢;clear e4;have H2:=hid (fun W=>Dd r hr W);obtain⟨b2,e2⟩:∃ b,a2.contains r=b:=⟨_,rfl⟩;rw[e2]at H2 ⊢;clear e2;obtain⟨x,ex⟩:∃ x,ctl r=x:=⟨_,rfl⟩;rw[ex]at hcc ⊢;clear ex hct hr;have HB:Hid (Below w.heap.size w w):=Below.refl _ _;go_enter Tryz.func79,Tryz.ntmps79
 go_wp2_with fail;refine(H6.out _).mono ?_;rintro e w' ⟨rfl,B⟩
 replace HB:=hid (HB.out.trans (B.mono HB.out.size))
 clear B H6;cases b6
 case true=>(go_wp2;go_ret;exact⟨rfl,HB.out⟩)
 go_wp2_with fail;refine(H5.out _).mono ?_;rintro e w' ⟨rfl,B⟩
 replace HB:=hid (HB.out.trans (B.mono HB.out.size))
 clear B H5;cases b5
 case true=>(go_wp2;go_ret;exact⟨rfl,HB.out⟩)
 go_wp2_with fail;refine(H4.out _).mono ?_;rintro e w' ⟨rfl,B⟩
 replace HB:=hid (HB.out.trans (B.mono HB.out.size))
 clear B H4;cases b4
 case true=>(go_wp2;go_ret;exact⟨rfl,HB.out⟩)
 go_wp2_with fail;refine(H2.out _).mono ?_;rintro e w' ⟨rfl,B⟩
 replace HB:=hid (HB.out.trans (B.mono HB.out.size))
 clear B H2;cases b2
 case true=>(go_wp2;go_ret;exact⟨rfl,HB.out⟩)
 rcases hcc with⟨c1,rfl⟩ | ⟨c1,c2,rfl⟩ | ⟨c1,c2,rfl⟩
 all_goals (go_wp2;go_ret;first | exact⟨rfl,HB.out⟩ | exact⟨U.an (by rw[decide_eq_false (by omega:¬ r<32),decide_eq_false (by omega:¬ 126<r)] <;> rfl),HB.out⟩ | exact⟨U.an (by rw[decide_eq_true (by omega:126<r)];simp),HB.out⟩ | exact⟨U.an (by rw[decide_eq_true (by omega:r<32)];rfl),HB.out⟩)
theorem Iu(r:Int)(hr:U.az r=true)(w:World):Calls Tryz.prog 79 #[.int .i32 r,.int .u8 1] w fun e W'=>e=.returned (.bool (inS r 1))∧Below w.heap.size w W':=by
 obtain⟨h0,h1⟩:=bu hr;rw[in1];have H1:=hid (fun W=>Iz r hr W);have H0:=hid (fun W=>Hl r hr W);rw[in0]at H0;obtain⟨b1,e1⟩:∃ b,a1.contains r=b:=⟨_,rfl⟩;rw[e1]at H1 ⊢;obtain⟨x,ex⟩:∃ x,ctl r=x:=⟨_,rfl⟩;rw[ex]at H0 ⊢;clear ex e1 hr;have HB:Hid (Below w.heap.size w w):=Below.refl _ _;go_enter Tryz.func79,Tryz.ntmps79
 go_wp2_with fail;refine(H1.out _).mono ?_;rintro e w' ⟨rfl,B⟩
 replace HB:=hid (HB.out.trans (B.mono HB.out.size))
 clear B H1;cases b1
 case true=>(go_wp2;go_ret;exact⟨rfl,HB.out⟩)
 go_wp2_with fail;refine(H0.out _).mono ?_;rintro e w' ⟨rfl,B⟩
 replace HB:=hid (HB.out.trans (B.mono HB.out.size))
 clear B H0;go_wp2;go_ret;exact⟨rfl,HB.out⟩
theorem It(r:Int)(hr:U.az r=true)(w:World):Calls Tryz.prog 79 #[.int .i32 r,.int .u8 3] w fun e W'=>e=.returned (.bool (inS r 3))∧Below w.heap.size w W':=by
 obtain⟨h0,h1⟩:=bu hr;rw[in3];have H2:=hid (fun W=>Hk r hr W);obtain⟨x,ex⟩:∃ x,inS r 2=x:=⟨_,rfl⟩;rw[ex]at H2 ⊢;clear ex hr;by_cases h39:r=39
 ·subst h39
  go_enter Tryz.func79,Tryz.ntmps79
  go_wp2;go_ret;exact⟨rfl,Below.refl _ _⟩
 ·have h39b:(r==39)=false:=by simpa using h39
  rw[h39b];clear h39;go_enter Tryz.func79,Tryz.ntmps79
  go_wp2_with fail;refine(H2.out _).mono ?_;rintro e w' ⟨rfl,B⟩
  have HB:=hid B;clear B;go_wp2;go_ret;exact⟨rfl,HB.out⟩
theorem yM(r:Int)(k:Nat)(hr:U.az r=true)(hk:6<k)(w:World):Calls Tryz.prog 79 #[.int .i32 r,.int .u8 k] w fun e W'=>e=.returned (.bool (inS r k))∧Below w.heap.size w W':=by
 obtain⟨h0,h1⟩:=bu hr;rw[mA hk];have q6:((k:Int)==6)=false:=by simp;omega
 have q5:((k:Int)==5)=false:=by simp;omega
 have q4:((k:Int)==4)=false:=by simp;omega
 have q2:((k:Int)==2)=false:=by simp;omega
 have q0:((k:Int)==0)=false:=by simp;omega
 have q3:((k:Int)==3)=false:=by simp;omega
 have q1:((k:Int)==1)=false:=by simp;omega
 clear hr;go_enter Tryz.func79,Tryz.ntmps79
 go_wp2;go_ret;exact⟨rfl,Below.refl _ _⟩
theorem Cu(r:Int)(k:Nat)(w:World)(hr:U.az r=true):Calls Tryz.prog 79 #[.int .i32 r,.int .u8 k] w fun e W'=>e=.returned (.bool (inS r k))∧Below w.heap.size w W':=by
 by_cases h6:6<k
 ·exact yM r k hr h6 w
 obtain rfl | rfl | rfl | rfl | rfl | rfl | rfl:k=0∨k=1∨k=2∨k=3∨k=4∨k=5∨k=6:=by omega
 ·exact Hl r hr w
 ·exact Iu r hr w
 ·exact Hk r hr w
 ·exact It r hr w
 ·exact Is r hr w
 ·exact Ir r hr w
 ·exact Iq r hr w
theorem cq{base n:Nat}{v:Value}{X:List Value}{W:World}(h:W.ownsRow base 5 1 v n X):∃ a cap,v=.slice a n cap:=by
 rcases h.2 with⟨rfl,h0⟩ | ⟨g,cap,cur,rfl,_⟩
 ·exact⟨none,0,by rw[h0]⟩
 ·exact⟨_,cap,rfl⟩
theorem take_one(L:List Int)(k:Nat)(h:k<L.length):L.take (k+1)=L.take k++[L[k]?.getD 0]:=by
 rw[List.take_succ_eq_append_getElem h,List.getElem?_eq_getElem h];rfl
theorem nG:∀ p:Fin 16,(((⟨#[48,49,50,51,52,53,54,55,56,57,65,66,67,68,69,70]⟩:ByteArray)[p.val]'(by simp[ByteArray.size])).toNat:Int)=dg p.val:=by decide
theorem Ap{p:Int}(h0:0≤p)(h1:p≤15)(h:p.toNat<(⟨#[48,49,50,51,52,53,54,55,56,57,65,66,67,68,69,70]⟩:ByteArray).size):(((⟨#[48,49,50,51,52,53,54,55,56,57,65,66,67,68,69,70]⟩:ByteArray)[p.toNat]'h).toNat:Int)=dg p:=by
 have:=nG ⟨p.toNat,by omega⟩;simp only at this
 rw[this]
 congr 1
 omega
theorem Ep:∀ y:Fin 256,bits BinOp.and IntKind.u8 y.val 15=((y.val % 16:Nat):Int):=by decide +kernel
theorem Il{y:Int}(h0:0≤y)(h1:y≤255):bits BinOp.and IntKind.u8 y 15=y % 16:=by
 have:=Ep ⟨y.toNat,by omega⟩;simp only at this
 rw[show((y.toNat:Nat):Int)=y by omega]at this;rw[this];omega
theorem yP(l:List Int)(j:Nat)(h:j<l.length):(l.take (j+1)).flatMap pe=(l.take j).flatMap pe++pe (l[j]?.getD 0):=by
 rw[take_one l j h,List.flatMap_append];simp
def Ba(base:Nat)(Z:List Int)(w:World)(e:Ending)(W':World):Prop:=∃ a c,e=.returned (.slice a Z.length c)∧W'.ownsRow base 5 1 (.slice a Z.length c) Z.length (Z.map (Value.int .u8))∧Below base w W'
theorem xR(base:Nat)(a:Option Addr)(n c:Nat)(X:List Int)(t:ByteArray)(w:World)(hn:n=X.length)(hrow:w.ownsRow base 5 1 (.slice a n c) n (X.map (Value.int .u8)))(hb:base≤w.heap.size)(hX:n≤4000000)(ht:t.size≤100):
  Calls Tryz.prog 80 #[.slice a n c,.string t] w fun e W'=>Ba base (X++(U.bn t).flatMap pe) w e W':=by
 obtain⟨i0,hi,hz0,hz1,hz2⟩:=info_parts U.Tryz.info5
 have HGS:Hid (∀ a c W,W.ownsRow base 5 1 (.slice a (n+3 * t.size) c) (n+3 * t.size) ((X++(U.bn t).flatMap pe).map (Value.int .u8))→Below base w W→Ba base (X++(U.bn t).flatMap pe) w (.returned (.slice a (n+3 * t.size) c)) W):=fun a c W h hB=>by
  have e:n+3 * t.size=(X++(U.bn t).flatMap pe).length:=by rw[List.length_append,js,U.aa,hn]
  rw[e]at h ⊢;exact⟨a,c,rfl,h,hB⟩
 have HR0:=hid hrow;have HST:Hid (∀ j,j<t.size→_):=fun j (h:j<t.size)=>yP (U.bn t) j (by rw[U.aa];exact h)
 have HGT:=hid (aq t);have HBD:=hid (fun j (h:j<t.size)=>ar (s:=t) h);have HFU:Hid ((U.bn t).take t.size=U.bn t):=List.take_of_length_le (by rw[U.aa];exact Nat.le_refl _);clear hrow hn;obtain⟨l,hl⟩:∃ l,U.bn t=l:=⟨_,rfl⟩;rw[hl]at HGS HST HGT HBD HFU ⊢;clear hl;go_enter Tryz.func80,Tryz.ntmps80
 go_wp2_with fail
 go_loopw [0,8] (fun v0 v8 wr=>∃(j m c:Nat) (a:Option Addr),j≤t.size∧m≤n+3 * j∧n+3 * j≤m∧v0=.slice a m c∧v8=.int .i64 j∧Hid (wr.ownsRow base 5 1 (.slice a m c) m ((X++(l.take j).flatMap pe).map (Value.int .u8)))∧Hid (Below base w wr)) (fun _ v8 _=>t.size - (intOf v8).toNat)
 case atStart=>exact⟨0,n,c,a,Nat.zero_le _,by omega,by omega,rfl,rfl,by show World.ownsRow _ _ _ _ _ _ _;rw[List.take_zero];simpa using HR0.out,Below.refl _ _⟩
 case round =>
  obtain⟨j,m,c,a,hj,hm1,hm2,rfl,rfl,HR,HB⟩:=hrel;by_cases hlt:j<t.size
  ·have hg0:=(HGT.out j hlt).symm
   obtain⟨hy0,hy1⟩:=HBD.out j hlt;have HS:=hid (HST.out j hlt);have zj:=Nat.le_trans hb HB.out.size;obtain⟨y,hy⟩:∃ y,l[j]?.getD 0=y:=⟨_,rfl⟩;rw[hy]at hg0 hy0 hy1 HS;have HPE:Hid (pe y=[37,dg (y / 16),dg (y % 16)]):=rfl;have hD1:=fun h=>Ap (p:=y / 16) (by omega) (by omega) h
   have hD2:=fun h=>Ap (p:=y % 16) (by omega) (by omega) h
   obtain⟨p1,hp1⟩:∃ p1,y / 16=p1:=⟨_,rfl⟩;obtain⟨p2,hp2⟩:∃ p2,y % 16=p2:=⟨_,rfl⟩;have hand:bits BinOp.and IntKind.u8 y 15=p2:=by rw[Il hy0 hy1];exact hp2
   have hp1a:0≤p1∧p1≤15:=by omega
   have hp2a:0≤p2∧p2≤15:=by omega
   rw[hp1]at HPE hD1;rw[hp2]at HPE hD2;obtain⟨q1,q2⟩:=hp1a;obtain⟨q3,q4⟩:=hp2a;obtain⟨d1,hd1⟩:∃ d1,dg p1=d1:=⟨_,rfl⟩;obtain⟨d2,hd2⟩:∃ d2,dg p2=d2:=⟨_,rfl⟩;rw[hd1]at HPE hD1;rw[hd2]at HPE hD2;obtain⟨Z,hZ⟩:∃ Z,X++(l.take j).flatMap pe=Z:=⟨_,rfl⟩;have HZ:Hid (X++(l.take (j+1)).flatMap pe=Z++[37,d1,d2]):=by show _=_;rw[HS.out,HPE.out,←List.append_assoc,hZ]
   rw[hZ]at HR;clear hd1 hd2 hy hZ HPE HS
   go_wp2_with fail;refine bP 11 (by kernel_rfl) (by kernel_rfl) ?_;simp only[List.take_succ_cons,List.take_zero,List.drop_succ_cons,List.drop_zero];refine ai (.slice a m c) rfl (fun W=>by go_simp) ?_;refine ai (.string t) rfl (fun W=>by go_simp) ?_;refine ai (.int .i64 j) rfl (fun W=>by go_simp) ?_;refine ai (.int .u8 y) rfl (fun W=>by go_simp) ?_;refine ai (.int .u8 p1) rfl (fun W=>by go_simp) ?_;refine ai (.int .u8 d1) rfl (fun W=>by go_simp;intro h;omega) ?_;refine ai (.string t) rfl (fun W=>by go_simp) ?_;refine ai (.int .i64 j) rfl (fun W=>by go_simp) ?_;refine ai (.int .u8 y) rfl (fun W=>by go_simp) ?_;refine ai (.int .u8 p2) rfl (fun W=>by go_simp) ?_;refine ai (.int .u8 d2) rfl (fun W=>by go_simp;intro h;omega) ?_;refine c9 ?_;show wpList _ _ _ _ _ wr.drew
   clear hD1 hD2
   go_wp2_with(at_builtin;refine wpList_append_own _ rfl _ _ 36 rfl base 5 i0 (.int .u8 0) 1 1 Tryz.underlying36 hi hz0 hz1 hz2 rfl (by decide) _ _ _ rfl ((HR.out.drew).alloc _) ⟨wr.heap.size,0,none⟩ 3 3 [.int .u8 37,.int .u8 d1,.int .u8 d2] rfl rfl (U.bZ wr.drew _ _) (by simp[Value.oneCell']) (by unfold maxLen;omega) (by omega) (by simp;omega) ?_;intro v3 w3 r3 g3 _;obtain⟨a3,c3,rfl⟩:=cq r3)
   have G3:Hid ((wr.alloc (.cells #[.int .u8 37,.int .u8 d1,.int .u8 d2] 5)).drew.grownBy w3 (Value.slice a m c).ownBlock):=g3;have R3:=hid r3;clear r3 g3;refine⟨rfl,?_⟩
   go_wp2_with fail
   go_roundw
   case rel =>
    refine⟨j+1,m+3,c3,a3,by omega,by omega,by omega,rfl,by go_num,?_,U.below_grow (w1:=(wr.alloc (.cells #[.int .u8 37,.int .u8 d1,.int .u8 d2] 5)).drew) ((HB.out.alloc zj _).drew) (Nat.le_trans zj (by simp)) ((HR.out.alloc _).drew) G3.out⟩;show World.ownsRow _ _ _ _ _ _ _
    rw[HZ.out,List.map_append];exact R3.out
   case measure=>simp[intOf];omega
  ·obtain rfl:j=t.size:=by omega
   obtain rfl:m=n+3 * t.size:=by omega
   rw[HFU.out]at HR;go_wp2;go_ret;exact HGS.out _ _ _ HR.out HB.out
def vlu(c:Int):Int:=if 0≤hx c then hx c else 0
theorem cj(c:Int)(h0:0≤c)(h1:c≤255)(w:World):Calls Tryz.prog 116 #[.int .u8 c] w fun e W'=>e=.returned (.tuple #[.int .u8 (vlu c),.bool (decide (0≤hx c))])∧W'=w:=by
 by_cases a1:48≤c∧c≤57
 ·obtain⟨x1,x2⟩:=a1
  have e1:hx c=c - 48:=by unfold hx;(repeat' split) <;> omega
  have e2:vlu c=c - 48:=by unfold vlu;rw[e1,if_pos (by omega)]
  rw[e2,e1,decide_eq_true (by omega:0≤c - 48)];clear e1 e2;go_enter Tryz.func116,Tryz.ntmps116
  go_wp2
  go_ret2;exact⟨rfl,rfl⟩
 by_cases a2:65≤c∧c≤70
 ·obtain⟨x1,x2⟩:=a2
  have e1:hx c=c - 65+10:=by unfold hx;(repeat' split) <;> omega
  have e2:vlu c=c - 65+10:=by unfold vlu;rw[e1,if_pos (by omega)]
  rw[e2,e1,decide_eq_true (by omega:0≤c - 65+10)];clear e1 e2;go_enter Tryz.func116,Tryz.ntmps116
  go_wp2
  go_ret2;exact⟨rfl,rfl⟩
 by_cases a3:97≤c∧c≤102
 ·obtain⟨x1,x2⟩:=a3
  have e1:hx c=c - 97+10:=by unfold hx;(repeat' split) <;> omega
  have e2:vlu c=c - 97+10:=by unfold vlu;rw[e1,if_pos (by omega)]
  rw[e2,e1,decide_eq_true (by omega:0≤c - 97+10)];clear e1 e2;go_enter Tryz.func116,Tryz.ntmps116
  go_wp2
  go_ret2;exact⟨rfl,rfl⟩
 have e1:hx c=-1:=by unfold hx;(repeat' split) <;> omega
 have e2:vlu c=0:=by unfold vlu;rw[e1];rfl
 rw[e2,e1,decide_eq_false (by omega:¬ (0:Int)≤-1)];clear e1 e2;go_enter Tryz.func116,Tryz.ntmps116
 go_wp2
 all_goals first
  | (go_ret2;exact⟨rfl,rfl⟩)
  | (exfalso;omega)
def gN(l:List Int):Prop:=l[0]?.getD 0=37∧2<l.length∧0≤hx (l[1]?.getD 0)∧0≤hx (l[2]?.getD 0)
theorem FC:∀ x y:Fin 16,bits BinOp.or IntKind.u8 ((16 * x.val:Nat):Int) y.val=((16 * x.val+y.val:Nat):Int):=by decide +kernel
theorem Hq{x y:Int}(x0:0≤x)(x1:x≤15)(y0:0≤y)(y1:y≤15):bits BinOp.or IntKind.u8 (16 * x) y=16 * x+y:=by
 have:=FC ⟨x.toNat,by omega⟩ ⟨y.toNat,by omega⟩;simp only at this
 rw[show((16 * x.toNat:Nat):Int)=16 * x by omega,show((y.toNat:Nat):Int)=y by omega]at this;rw[this];omega
theorem wJ(s:ByteArray)(hp:0<s.size)(hs:s.size≤1000000)(w:World):Calls Tryz.prog 71 #[.string s] w fun e W' =>
  ((∃ b:Int,e=.returned (.tuple #[.int .u8 b,.int .i64 1])∧b=(U.bn s)[0]?.getD 0∧¬ gN (U.bn s))∨(∃ b:Int,e=.returned (.tuple #[.int .u8 b,.int .i64 3])∧b=16 * hx ((U.bn s)[1]?.getD 0)+hx ((U.bn s)[2]?.getD 0)∧gN (U.bn s)))∧W'=w:=by
 have HT:Hid (gN (U.bn s)↔((U.bn s)[0]?.getD 0=37∧2<s.size∧0≤hx ((U.bn s)[1]?.getD 0)∧0≤hx ((U.bn s)[2]?.getD 0))):=by
  show _↔_
  unfold gN;rw[U.aa]
 have hg0:=(aq s 0 hp).symm;obtain⟨hb0,hb1⟩:=ar hp;obtain⟨T,hT⟩:∃ T,gN (U.bn s)=T:=⟨_,rfl⟩;obtain⟨y,hy⟩:∃ y,(U.bn s)[0]?.getD 0=y:=⟨_,rfl⟩;have HG1:=hid (fun h=>aq s 1 h);have HG2:=hid (fun h=>aq s 2 h);have HB1:=hid (fun h=>ar (s:=s) (i:=1) h);have HB2:=hid (fun h=>ar (s:=s) (i:=2) h);rw[hT,hy]at HT;rw[hy]at hg0 hb0 hb1;rw[hT,hy];clear hT hy;by_cases h37:y=37
 ·by_cases h2:2<s.size
  ·have g1:=(HG1.out (by omega)).symm
   have g2:=(HG2.out h2).symm;obtain⟨c0,c1⟩:=HB1.out (by omega);obtain⟨d0,d1⟩:=HB2.out h2;obtain⟨x1,hx1⟩:∃ x,(U.bn s)[1]?.getD 0=x:=⟨_,rfl⟩;obtain⟨x2,hx2⟩:∃ x,(U.bn s)[2]?.getD 0=x:=⟨_,rfl⟩;rw[hx1]at g1 c0 c1 HT ⊢;rw[hx2]at g2 d0 d1 HT ⊢;have HV1:=hid (fun W=>cj x1 c0 c1 W);have HV2:=hid (fun W=>cj x2 d0 d1 W);have q1:=bw x1;have q2:=bw x2;have HU1:Hid (0≤hx x1→vlu x1=hx x1):=fun h=>by unfold vlu;rw[if_pos h]
   have HU2:Hid (0≤hx x2→vlu x2=hx x2):=fun h=>by unfold vlu;rw[if_pos h]
   obtain⟨z1,hz1⟩:∃ z,hx x1=z:=⟨_,rfl⟩;obtain⟨z2,hz2⟩:∃ z,hx x2=z:=⟨_,rfl⟩;obtain⟨v1,hv1⟩:∃ z,vlu x1=z:=⟨_,rfl⟩;obtain⟨v2,hv2⟩:∃ z,vlu x2=z:=⟨_,rfl⟩;rw[hz1]at q1 HT HV1 HU1 ⊢;rw[hz2]at q2 HT HV2 HU2 ⊢;rw[hv1]at HV1 HU1;rw[hv2]at HV2 HU2;clear hz1 hz2 hv1 hv2 hx1 hx2 HG1 HG2 HB1 HB2;have h37b:(y != 37)=false:=by simp[h37]
   have h2z:¬ (s.size:Int)<3:=by omega
   by_cases p1:0≤z1
   ·have e1:=HU1.out p1
    subst e1;by_cases p2:0≤z2
    ·have e2:=HU2.out p2
     subst e2;have HTT:=hid (HT.out.2 ⟨h37,h2,p1,p2⟩);obtain⟨_,q1b⟩:=q1;obtain⟨_,q2b⟩:=q2;have hor:=Hq p1 q1b p2 q2b;rw[decide_eq_true p1]at HV1;rw[decide_eq_true p2]at HV2;have hsh:IntKind.u8.wrap (v1 * 16)=16 * v1:=by rw[IntKind.wrap_u8];omega
     clear HT HU1 HU2 h37;go_enter Tryz.func71,Tryz.ntmps71
     go_wp2_with fail;refine(HV1.out _).mono ?_;rintro e w1 ⟨rfl,hw1⟩
     obtain rfl:=hw1.symm;clear HV1
     go_wp2_with fail;refine(HV2.out _).mono ?_;rintro e w1 ⟨rfl,hw1⟩
     obtain rfl:=hw1.symm;clear HV2;go_wp2
     go_ret2;exact⟨.inr ⟨_,rfl,rfl,HTT.out⟩,rfl⟩
    ·have HTT:=hid (fun h=>p2 (HT.out.1 h).2.2.2)
     rw[decide_eq_true p1]at HV1;rw[decide_eq_false p2]at HV2;clear HT HU1 HU2 h37;go_enter Tryz.func71,Tryz.ntmps71
     go_wp2_with fail;refine(HV1.out _).mono ?_;rintro e w1 ⟨rfl,hw1⟩
     obtain rfl:=hw1.symm;clear HV1
     go_wp2_with fail;refine(HV2.out _).mono ?_;rintro e w1 ⟨rfl,hw1⟩
     obtain rfl:=hw1.symm;clear HV2;go_wp2
     go_ret2;exact⟨.inl ⟨_,rfl,rfl,HTT.out⟩,rfl⟩
   ·have HTT:=hid (fun h=>p1 (HT.out.1 h).2.2.1)
    rw[decide_eq_false p1]at HV1;obtain⟨B2,hB2⟩:∃ B,decide (0≤z2)=B:=⟨_,rfl⟩;rw[hB2]at HV2;clear HT HU1 HU2 h37 hB2;go_enter Tryz.func71,Tryz.ntmps71
    go_wp2_with fail;refine(HV1.out _).mono ?_;rintro e w1 ⟨rfl,hw1⟩
    obtain rfl:=hw1.symm;clear HV1
    go_wp2_with fail;refine(HV2.out _).mono ?_;rintro e w1 ⟨rfl,hw1⟩
    obtain rfl:=hw1.symm;clear HV2;go_wp2
    go_ret2;exact⟨.inl ⟨_,rfl,rfl,HTT.out⟩,rfl⟩
  ·have HTT:=hid (fun h=>h2 (HT.out.1 h).2.1)
   have h37b:(y != 37)=false:=by simp[h37]
   have h2z:(s.size:Int)<3:=by omega
   clear HT h37;go_enter Tryz.func71,Tryz.ntmps71
   go_wp2
   go_ret2;exact⟨.inl ⟨_,rfl,rfl,HTT.out⟩,rfl⟩
 ·have HTT:=hid (fun h=>h37 (HT.out.1 h).1)
  have h37b:(y != 37)=true:=by simpa using h37
  clear HT h37;go_enter Tryz.func71,Tryz.ntmps71
  go_wp2
  go_ret2;exact⟨.inl ⟨_,rfl,rfl,HTT.out⟩,rfl⟩
theorem Ac{l:List Int}(hl:0<l.length)(h:¬ gN l):de l=l[0]?.getD 0::de (l.drop 1):=by
 match l,hl,h with
 | c::t,_,h =>
  refine rY (fun hh=>h ⟨hh.1,?_,?_,?_⟩)
  ·simp;omega
  ·exact hh.2.2.1
  ·exact hh.2.2.2
theorem wI{l:List Int}(h:gN l):de l=(16 * hx (l[1]?.getD 0)+hx (l[2]?.getD 0))::de (l.drop 3):=by
 match l,h with
 | [],h=>exact absurd h.2.1 (by simp)
 | [a],h=>exact absurd h.2.1 (by simp)
 | [a,b],h=>exact absurd h.2.1 (by simp)
 | c::a::b::t,h =>
  have hc:c=37:=h.1;rw[hc];exact pO h.2.2.1 h.2.2.2
theorem vB{l:List Int}(h:gN l):3≤l.length:=by have:=h.2.1;omega
theorem eB:∀(n:Nat) (l:List Int),l.length≤n→U.Bytes l→U.Bytes (de l)
 | _,[],_,h=>h
 | _,[a],_,h=>h
 | _,[a,b],_,h=>h
 | 0,c::a::b::t,h,_=>by simp at h
 | n+1,c::a::b::t,h,hB=>by
  rw[de];split
  ·have h1:=bw a
   have h2:=bw b
   rename_i hc
   have ih:=eB n t (by simp at h;omega) (fun x hx=>hB x (by simp[hx]));intro x hx
   rcases List.mem_cons.1 hx with rfl | hx
   ·omega
   ·exact ih x hx
  ·have ih:=eB n (a::b::t) (by simp at h ⊢;omega) (fun x hx=>hB x (by simp at hx ⊢;right;exact hx))
   intro x hx
   rcases List.mem_cons.1 hx with rfl | hx
   ·exact hB x (by simp)
   ·exact ih x hx
theorem gF(s:ByteArray)(w:World)(hs:s.size≤100000):
  Calls Tryz.prog 43 #[.string s] w fun e W'=>nr (U.bn s) w e W':=by
 obtain⟨i0,hi,hz0,hz1,hz2⟩:=info_parts U.Tryz.info5;have HGS:Hid (∀ e W,((∃ t,e=.returned (.string t)∧U.bn t=de (U.bn s))∧Below w.heap.size w W)→nr (U.bn s) w e W):=fun e W h=>h
 have HBY:=hid (eB _ (U.bn s) (Nat.le_refl _) (U.aM s))
 have HFR:Hid (∀ i,i<s.size→∀ W,Calls Tryz.prog 71 #[.string (s.extract i s.size)] W fun e W'=>(∃(b:Int) (n:Nat),e=.returned (.tuple #[.int .u8 b,.int .i64 n])∧i+n≤s.size∧1≤n∧Hid (de ((U.bn s).drop i)=b::de ((U.bn s).drop (i+n))))∧W'=W):=fun i h W=>by
  have hz:(s.extract i s.size).size=s.size - i:=by simp
  have hl:((U.bn s).drop i).length=s.size - i:=by rw[List.length_drop,U.aa]
  refine(wJ (s.extract i s.size) (by omega) (by omega) W).mono ?_;rintro e W' ⟨hh,rfl⟩
  refine⟨?_,rfl⟩;rw[U.aj]at hh;rcases hh with⟨b,rfl,rfl,ht⟩ | ⟨b,rfl,rfl,ht⟩
  ·refine⟨_,1,rfl,by omega,by omega,?_⟩
   show _=_
   rw[Ac (by omega) ht,List.drop_drop]
  ·have:=vB ht
   refine⟨_,3,rfl,by omega,by omega,?_⟩;show _=_
   rw[wI ht,List.drop_drop]
 go_enter Tryz.func43,Tryz.ntmps43
 go_wp2_with fail
 go_loopw [3,4] (fun v3 v4 wr=>∃(i m c:Nat) (a:Option Addr) (Y:List Int),i≤s.size∧m≤i∧v3=.slice a m c∧v4=.int .i64 i∧Hid (m=Y.length)∧Hid (de (U.bn s)=Y++de ((U.bn s).drop i))∧Hid (wr.ownsRow w.heap.size 5 1 (.slice a m c) m (Y.map (Value.int .u8)))∧Hid (Below w.heap.size w wr)) (fun _ v4 _=>s.size - (intOf v4).toNat)
 case atStart=>exact⟨0,0,0,none,[],Nat.zero_le _,Nat.le_refl _,rfl,rfl,rfl,by show _=_;rw[List.drop_zero];rfl,World.ownsRow_nil _ _ _ _,Below.refl _ _⟩
 case round =>
  obtain⟨i,m,c,a,Y,hin,hmi,rfl,rfl,HM,HD,HR,HB⟩:=hrel;by_cases hlt:i<s.size
  ·have HF:=hid (HFR.out i hlt)
   have zj:=HB.out.size
   go_wp2_with fail;refine(HF.out _).mono ?_;rintro e w1 ⟨⟨b,n,rfl,hn,hn1,HE⟩,hw1⟩
   obtain rfl:=hw1.symm;have HE2:Hid (de (U.bn s)=(Y++[b])++de ((U.bn s).drop (i+n))):=by show _=_;rw[HD.out,HE.out];simp
   clear HF HE HD;have hnz:(i:Int)+(n:Int)≤(s.size:Int):=by omega
   go_wp2_with(at_builtin;refine wpList_append_own _ rfl _ _ 36 rfl w.heap.size 5 i0 (.int .u8 0) 1 1 Tryz.underlying36 hi hz0 hz1 hz2 rfl (by decide) _ _ _ rfl (HR.out.alloc _) ⟨wr.heap.size,0,none⟩ 1 1 [.int .u8 b] rfl rfl (U.bZ _ _ _) (by simp[Value.oneCell']) (by unfold maxLen;omega) (by omega) (by simp;omega) ?_;intro v3 w3 r3 g3 _;obtain⟨a3,c3,rfl⟩:=cq r3)
   go_roundw
   case rel =>
    refine⟨i+n,m+1,c3,a3,Y++[b],by omega,by omega,rfl,by go_num,by show _=_;rw[List.length_append,←HM.out];rfl,HE2,?_,U.below_grow (w1:=wr.alloc (.cells #[.int .u8 b] 5)) (HB.out.alloc HB.out.size _) (Nat.le_trans HB.out.size (by simp)) (HR.out.alloc _) g3⟩;show World.ownsRow _ _ _ _ _ _ _
    rw[List.map_append];exact r3
   case measure=>simp[intOf];omega
  ·have hnil:(U.bn s).drop i=[]:=List.drop_eq_nil_of_le (by rw[U.aa];omega)
   have HE:Hid (de (U.bn s)=Y):=by show _=_;rw[HD.out,hnil];simp[de]
   obtain⟨t,hcv,htb⟩:=U.aO wr w.heap.size _ _ Y HM.out (by rw[←HE.out];exact HBY.out) HR.out;have HTB:=hid (htb.trans HE.out.symm);clear hnil htb HM HR HE HD HBY HFR;go_wp2;go_ret;exact HGS.out _ _ ⟨⟨t,rfl,HTB.out⟩,HB.out⟩
end Go.Proofs.YtkekkbciiohbkaaGreatDoor.E
