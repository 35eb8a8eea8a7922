/- Contracts and plain facts. -/
import Derived.Test.YtlmflmdmolcfhaaGreatDoorZ2
import Derived.Lib.AppendStr
import Derived.Laws.Tables
import Derived.Laws.Rows
import Derived.KernelRfl
import Derived.Shelf.SlSorted.Search
import Derived.Ground.SlsoProg
import Derived.Deep.MidRow
import Derived.BigRegion
set_option maxRecDepth 100000
set_option maxHeartbeats 16000000
set_option linter.unusedVariables false
set_option linter.unnecessarySimpa false
open Nat (le_refl le_trans zero_le)
open List (contains_eq_any_beq getElem?_eq_getElem length_append any_append drop_eq_getElem_cons append_assoc take_append_drop find?_eq_none filter_append map_append getElem_mem)
open Go.World (setRow_alloc_new)
open Array (getElem?_setIfInBounds_ne)
open Option (getD_some)
open Bool (and_eq_true)
namespace Go.Proofs.YtlmflmdmolcfhaaGreatDoor
open Tryz Go.RowKit
namespace E
theorem ph{t:ByteArray}(h:t.data.toList.all (fun b=>decide (b.toNat<128))=true):Asc t:=fun b hb=>by have:=List.all_eq_true.1 h b hb;exact of_decide_eq_true this
def a6:List Int:=[36,37,38,43,44]
theorem SU(r:Int)(hr:U.ab r=true)(w:World):Calls prog 173 #[.string ⟨#[36,37,38,43,44]⟩,.int .i32 r] w fun e W'=>e=.returned (.bool (a6.contains r))/\Below w.heap.size w W' :=
 bS ⟨#[36,37,38,43,44]⟩ (ph (by decide)) (by decide) r hr w
def a5:List Int:=[47,58,59,61,64,91,92,93,124]
theorem Si(r:Int)(hr:U.ab r=true)(w:World):Calls prog 173 #[.string ⟨#[47,58,59,61,64,91,92,93,124]⟩,.int .i32 r] w fun e W'=>e=.returned (.bool (a5.contains r))/\Below w.heap.size w W' :=
 bS ⟨#[47,58,59,61,64,91,92,93,124]⟩ (ph (by decide)) (by decide) r hr w
def a4:List Int:=[63,94,96,123,125]
theorem Qe(r:Int)(hr:U.ab r=true)(w:World):Calls prog 173 #[.string ⟨#[63,94,96,123,125]⟩,.int .i32 r] w fun e W'=>e=.returned (.bool (a4.contains r))/\Below w.heap.size w W' :=
 bS ⟨#[63,94,96,123,125]⟩ (ph (by decide)) (by decide) r hr w
def a2:List Int:=[32,34,35,60,62]
theorem Mw(r:Int)(hr:U.ab r=true)(w:World):Calls prog 173 #[.string ⟨#[32,34,35,60,62]⟩,.int .i32 r] w fun e W'=>e=.returned (.bool (a2.contains r))/\Below w.heap.size w W' :=
 bS ⟨#[32,34,35,60,62]⟩ (ph (by decide)) (by decide) r hr w
def a1:List Int:=[32,34,60,62,96]
theorem SV(r:Int)(hr:U.ab r=true)(w:World):Calls prog 173 #[.string ⟨#[32,34,60,62,96]⟩,.int .i32 r] w fun e W'=>e=.returned (.bool (a1.contains r))/\Below w.heap.size w W' :=
 bS ⟨#[32,34,60,62,96]⟩ (ph (by decide)) (by decide) r hr w
theorem in0(r:Int):inS r 0=ctl r:=by unfold inS;simp[sgn]
theorem in2(r:Int):inS r 2=(a2.contains r||ctl r):=by unfold inS;rw[Bool.or_comm];rfl
theorem in4(r:Int):inS r 4=(a4.contains r||(a2.contains r||ctl r)):=by have e:sgn 4=a2++a4:=rfl;unfold inS;rw[e,contains_eq_any_beq,any_append,<-contains_eq_any_beq,<-contains_eq_any_beq];cases ctl r <;> cases a4.contains r <;> cases a2.contains r <;> rfl
theorem in5(r:Int):inS r 5=(a5.contains r||(a4.contains r||(a2.contains r||ctl r))):=by have e:sgn 5=a2++(a4++a5):=rfl;unfold inS;rw[e,contains_eq_any_beq,any_append,any_append,<-contains_eq_any_beq,<-contains_eq_any_beq,<-contains_eq_any_beq];cases ctl r <;> cases a5.contains r <;> cases a4.contains r <;> cases a2.contains r <;> rfl
theorem in6(r:Int):inS r 6=(a6.contains r||(a5.contains r||(a4.contains r||(a2.contains r||ctl r)))):=by have e:sgn 6=a2++(a4++(a5++a6)):=rfl;unfold inS;rw[e,contains_eq_any_beq,any_append,any_append,any_append,<-contains_eq_any_beq,<-contains_eq_any_beq,<-contains_eq_any_beq,<-contains_eq_any_beq];cases ctl r <;> cases a6.contains r <;> cases a5.contains r <;> cases a4.contains r <;> cases a2.contains r <;> rfl
theorem in1(r:Int):inS r 1=(a1.contains r||ctl r):=by unfold inS;rw[Bool.or_comm];rfl
theorem in3(r:Int):inS r 3=((r==39)||inS r 2):=by
 have e:sgn 3=a2++[39]:=rfl;rw[in2];unfold inS;rw[e,contains_eq_any_beq,any_append,<-contains_eq_any_beq];have e2:([39]:List Int).any (fun x=>r==x)=(r==39):=by simp
 rw[e2];cases ctl r <;> cases a2.contains r <;> cases (r==39) <;> rfl
theorem RI(r:Int)(hr:U.ab r=true)(w:World):Calls prog 142 #[.int .i32 r,.int .u8 0] w fun e W'=>e=.returned (.bool (inS r 0))/\Below w.heap.size w W':=by
 obtain⟨h0,h1⟩:=aN hr;have hct:ctl r=(decide (r<32)||decide (126<r)):=rfl
 have hcc:(r<32/\ctl r=true)\/(¬ r<32/\126<r/\ctl r=true)\/(¬ r<32/\¬ 126<r/\ctl r=false):=by
  by_cases c1:r<32
  ·left;exact⟨c1,by rw[hct,decide_eq_true c1];rfl⟩
  ·by_cases c2:126<r
   ·right;left;exact⟨c1,c2,by rw[hct,decide_eq_true c2];simp⟩
   ·right;right;exact⟨c1,c2,by rw[hct,decide_eq_false c1,decide_eq_false c2];rfl⟩
 rw[in0];obtain⟨x,ex⟩:=Ex' (ctl r);rw[ex]at hcc ⊢;clear ex hct hr;have HB:Hid (Below w.heap.size w w):=Below.refl _ _;go_enter func142,ntmps142;rcases hcc with⟨c1,rfl⟩ | ⟨c1,c2,rfl⟩ | ⟨c1,c2,rfl⟩
 all_goals (go_wp2;go_ret;first | exact⟨rfl,HB.out⟩ | exact⟨U.aW (by rw[decide_eq_false (by omega:¬ r<32),decide_eq_false (by omega:¬ 126<r)] <;> rfl),HB.out⟩ | exact⟨U.aW (by rw[decide_eq_true (by omega:126<r)];simp),HB.out⟩ | exact⟨U.aW (by rw[decide_eq_true (by omega:r<32)];rfl),HB.out⟩)
theorem RH(r:Int)(hr:U.ab r=true)(w:World):Calls prog 142 #[.int .i32 r,.int .u8 2] w fun e W'=>e=.returned (.bool (inS r 2))/\Below w.heap.size w W':=by
 obtain⟨h0,h1⟩:=aN hr;have hct:ctl r=(decide (r<32)||decide (126<r)):=rfl
 have hcc:(r<32/\ctl r=true)\/(¬ r<32/\126<r/\ctl r=true)\/(¬ r<32/\¬ 126<r/\ctl r=false):=by
  by_cases c1:r<32
  ·left;exact⟨c1,by rw[hct,decide_eq_true c1];rfl⟩
  ·by_cases c2:126<r
   ·right;left;exact⟨c1,c2,by rw[hct,decide_eq_true c2];simp⟩
   ·right;right;exact⟨c1,c2,by rw[hct,decide_eq_false c1,decide_eq_false c2];rfl⟩
 rw[in2];have H2:=hid (fun W=>Mw r hr W);obtain⟨b2,e2⟩:=Ex' (a2.contains r);rw[e2]at H2 ⊢;clear e2;obtain⟨x,ex⟩:=Ex' (ctl r);rw[ex]at hcc ⊢;clear ex hct hr;have HB:Hid (Below w.heap.size w w):=Below.refl _ _;go_enter func142,ntmps142;go_wp2_with fail;refine(H2.out _).mono ?_;rintro e w' ⟨rfl,B⟩;replace HB:=Bt' HB B;clear B H2;cases b2
 case true=>(go_wp2;go_ret;exact⟨rfl,HB.out⟩)
 rcases hcc with⟨c1,rfl⟩ | ⟨c1,c2,rfl⟩ | ⟨c1,c2,rfl⟩
 all_goals (go_wp2;go_ret;first | exact⟨rfl,HB.out⟩ | exact⟨U.aW (by rw[decide_eq_false (by omega:¬ r<32),decide_eq_false (by omega:¬ 126<r)] <;> rfl),HB.out⟩ | exact⟨U.aW (by rw[decide_eq_true (by omega:126<r)];simp),HB.out⟩ | exact⟨U.aW (by rw[decide_eq_true (by omega:r<32)];rfl),HB.out⟩)
theorem SK(r:Int)(hr:U.ab r=true)(w:World):Calls prog 142 #[.int .i32 r,.int .u8 4] w fun e W'=>e=.returned (.bool (inS r 4))/\Below w.heap.size w W':=by
 obtain⟨h0,h1⟩:=aN hr;have hct:ctl r=(decide (r<32)||decide (126<r)):=rfl
 have hcc:(r<32/\ctl r=true)\/(¬ r<32/\126<r/\ctl r=true)\/(¬ r<32/\¬ 126<r/\ctl r=false):=by
  by_cases c1:r<32
  ·left;exact⟨c1,by rw[hct,decide_eq_true c1];rfl⟩
  ·by_cases c2:126<r
   ·right;left;exact⟨c1,c2,by rw[hct,decide_eq_true c2];simp⟩
   ·right;right;exact⟨c1,c2,by rw[hct,decide_eq_false c1,decide_eq_false c2];rfl⟩
 rw[in4];have H4:=hid (fun W=>Qe r hr W);obtain⟨b4,e4⟩:=Ex' (a4.contains r);rw[e4]at H4 ⊢;clear e4;have H2:=hid (fun W=>Mw r hr W);obtain⟨b2,e2⟩:=Ex' (a2.contains r);rw[e2]at H2 ⊢;clear e2;obtain⟨x,ex⟩:=Ex' (ctl r);rw[ex]at hcc ⊢;clear ex hct hr;have HB:Hid (Below w.heap.size w w):=Below.refl _ _;go_enter func142,ntmps142;go_wp2_with fail;refine(H4.out _).mono ?_;rintro e w' ⟨rfl,B⟩;replace HB:=Bt' HB B;clear B H4;cases b4
 case true=>(go_wp2;go_ret;exact⟨rfl,HB.out⟩)
 go_wp2_with fail;refine(H2.out _).mono ?_;rintro e w' ⟨rfl,B⟩;replace HB:=Bt' HB B;clear B H2;cases b2
 case true=>(go_wp2;go_ret;exact⟨rfl,HB.out⟩)
 rcases hcc with⟨c1,rfl⟩ | ⟨c1,c2,rfl⟩ | ⟨c1,c2,rfl⟩
 all_goals (go_wp2;go_ret;first | exact⟨rfl,HB.out⟩ | exact⟨U.aW (by rw[decide_eq_false (by omega:¬ r<32),decide_eq_false (by omega:¬ 126<r)] <;> rfl),HB.out⟩ | exact⟨U.aW (by rw[decide_eq_true (by omega:126<r)];simp),HB.out⟩ | exact⟨U.aW (by rw[decide_eq_true (by omega:r<32)];rfl),HB.out⟩)
theorem SJ(r:Int)(hr:U.ab r=true)(w:World):Calls prog 142 #[.int .i32 r,.int .u8 5] w fun e W'=>e=.returned (.bool (inS r 5))/\Below w.heap.size w W':=by
 obtain⟨h0,h1⟩:=aN hr;have hct:ctl r=(decide (r<32)||decide (126<r)):=rfl
 have hcc:(r<32/\ctl r=true)\/(¬ r<32/\126<r/\ctl r=true)\/(¬ r<32/\¬ 126<r/\ctl r=false):=by
  by_cases c1:r<32
  ·left;exact⟨c1,by rw[hct,decide_eq_true c1];rfl⟩
  ·by_cases c2:126<r
   ·right;left;exact⟨c1,c2,by rw[hct,decide_eq_true c2];simp⟩
   ·right;right;exact⟨c1,c2,by rw[hct,decide_eq_false c1,decide_eq_false c2];rfl⟩
 rw[in5];have H5:=hid (fun W=>Si r hr W);obtain⟨b5,e5⟩:=Ex' (a5.contains r);rw[e5]at H5 ⊢;clear e5;have H4:=hid (fun W=>Qe r hr W);obtain⟨b4,e4⟩:=Ex' (a4.contains r);rw[e4]at H4 ⊢;clear e4;have H2:=hid (fun W=>Mw r hr W);obtain⟨b2,e2⟩:=Ex' (a2.contains r);rw[e2]at H2 ⊢;clear e2;obtain⟨x,ex⟩:=Ex' (ctl r);rw[ex]at hcc ⊢;clear ex hct hr;have HB:Hid (Below w.heap.size w w):=Below.refl _ _;go_enter func142,ntmps142;go_wp2_with fail;refine(H5.out _).mono ?_;rintro e w' ⟨rfl,B⟩;replace HB:=Bt' HB B;clear B H5;cases b5
 case true=>(go_wp2;go_ret;exact⟨rfl,HB.out⟩)
 go_wp2_with fail;refine(H4.out _).mono ?_;rintro e w' ⟨rfl,B⟩;replace HB:=Bt' HB B;clear B H4;cases b4
 case true=>(go_wp2;go_ret;exact⟨rfl,HB.out⟩)
 go_wp2_with fail;refine(H2.out _).mono ?_;rintro e w' ⟨rfl,B⟩;replace HB:=Bt' HB B;clear B H2;cases b2
 case true=>(go_wp2;go_ret;exact⟨rfl,HB.out⟩)
 rcases hcc with⟨c1,rfl⟩ | ⟨c1,c2,rfl⟩ | ⟨c1,c2,rfl⟩
 all_goals (go_wp2;go_ret;first | exact⟨rfl,HB.out⟩ | exact⟨U.aW (by rw[decide_eq_false (by omega:¬ r<32),decide_eq_false (by omega:¬ 126<r)] <;> rfl),HB.out⟩ | exact⟨U.aW (by rw[decide_eq_true (by omega:126<r)];simp),HB.out⟩ | exact⟨U.aW (by rw[decide_eq_true (by omega:r<32)];rfl),HB.out⟩)
theorem SI(r:Int)(hr:U.ab r=true)(w:World):Calls prog 142 #[.int .i32 r,.int .u8 6] w fun e W'=>e=.returned (.bool (inS r 6))/\Below w.heap.size w W':=by
 obtain⟨h0,h1⟩:=aN hr;have hct:ctl r=(decide (r<32)||decide (126<r)):=rfl
 have hcc:(r<32/\ctl r=true)\/(¬ r<32/\126<r/\ctl r=true)\/(¬ r<32/\¬ 126<r/\ctl r=false):=by
  by_cases c1:r<32
  ·left;exact⟨c1,by rw[hct,decide_eq_true c1];rfl⟩
  ·by_cases c2:126<r
   ·right;left;exact⟨c1,c2,by rw[hct,decide_eq_true c2];simp⟩
   ·right;right;exact⟨c1,c2,by rw[hct,decide_eq_false c1,decide_eq_false c2];rfl⟩
 rw[in6];have H6:=hid (fun W=>SU r hr W);obtain⟨b6,e6⟩:=Ex' (a6.contains r);rw[e6]at H6 ⊢;clear e6;have H5:=hid (fun W=>Si r hr W);obtain⟨b5,e5⟩:=Ex' (a5.contains r);rw[e5]at H5 ⊢;clear e5;have H4:=hid (fun W=>Qe r hr W);obtain⟨b4,e4⟩:=Ex' (a4.contains r);rw[e4]at H4 ⊢;clear e4;have H2:=hid (fun W=>Mw r hr W);obtain⟨b2,e2⟩:=Ex' (a2.contains r);rw[e2]at H2 ⊢;clear e2;obtain⟨x,ex⟩:=Ex' (ctl r);rw[ex]at hcc ⊢;clear ex hct hr;have HB:Hid (Below w.heap.size w w):=Below.refl _ _;go_enter func142,ntmps142;go_wp2_with fail;refine(H6.out _).mono ?_;rintro e w' ⟨rfl,B⟩;replace HB:=Bt' HB B;clear B H6;cases b6
 case true=>(go_wp2;go_ret;exact⟨rfl,HB.out⟩)
 go_wp2_with fail;refine(H5.out _).mono ?_;rintro e w' ⟨rfl,B⟩;replace HB:=Bt' HB B;clear B H5;cases b5
 case true=>(go_wp2;go_ret;exact⟨rfl,HB.out⟩)
 go_wp2_with fail;refine(H4.out _).mono ?_;rintro e w' ⟨rfl,B⟩;replace HB:=Bt' HB B;clear B H4;cases b4
 case true=>(go_wp2;go_ret;exact⟨rfl,HB.out⟩)
 go_wp2_with fail;refine(H2.out _).mono ?_;rintro e w' ⟨rfl,B⟩;replace HB:=Bt' HB B;clear B H2;cases b2
 case true=>(go_wp2;go_ret;exact⟨rfl,HB.out⟩)
 rcases hcc with⟨c1,rfl⟩ | ⟨c1,c2,rfl⟩ | ⟨c1,c2,rfl⟩
 all_goals (go_wp2;go_ret;first | exact⟨rfl,HB.out⟩ | exact⟨U.aW (by rw[decide_eq_false (by omega:¬ r<32),decide_eq_false (by omega:¬ 126<r)] <;> rfl),HB.out⟩ | exact⟨U.aW (by rw[decide_eq_true (by omega:126<r)];simp),HB.out⟩ | exact⟨U.aW (by rw[decide_eq_true (by omega:r<32)];rfl),HB.out⟩)
theorem SM(r:Int)(hr:U.ab r=true)(w:World):Calls prog 142 #[.int .i32 r,.int .u8 1] w fun e W'=>e=.returned (.bool (inS r 1))/\Below w.heap.size w W':=by
 obtain⟨h0,h1⟩:=aN hr;rw[in1];have H1:=hid (fun W=>SV r hr W);have H0:=hid (fun W=>RI r hr W);rw[in0]at H0;obtain⟨b1,e1⟩:=Ex' (a1.contains r);rw[e1]at H1 ⊢;obtain⟨x,ex⟩:=Ex' (ctl r);rw[ex]at H0 ⊢;clear ex e1 hr;have HB:Hid (Below w.heap.size w w):=Below.refl _ _;go_enter func142,ntmps142;go_wp2_with fail;refine(H1.out _).mono ?_;rintro e w' ⟨rfl,B⟩;replace HB:=Bt' HB B;clear B H1;cases b1
 case true=>(go_wp2;go_ret;exact⟨rfl,HB.out⟩)
 go_wp2_with fail;refine(H0.out _).mono ?_;rintro e w' ⟨rfl,B⟩;replace HB:=Bt' HB B;clear B H0;go_wp2;go_ret;exact⟨rfl,HB.out⟩
theorem SL(r:Int)(hr:U.ab r=true)(w:World):Calls prog 142 #[.int .i32 r,.int .u8 3] w fun e W'=>e=.returned (.bool (inS r 3))/\Below w.heap.size w W':=by
 obtain⟨h0,h1⟩:=aN hr;rw[in3];have H2:=hid (fun W=>RH r hr W);obtain⟨x,ex⟩:=Ex' (inS r 2);rw[ex]at H2 ⊢;clear ex hr;by_cases h39:r=39
 ·subst h39;go_enter func142,ntmps142;go_wp2;go_ret;exact⟨rfl,Below.refl _ _⟩
 ·have h39b:(r==39)=false:=by simpa using h39
  rw[h39b];clear h39;go_enter func142,ntmps142;go_wp2_with fail;refine(H2.out _).mono ?_;rintro e w' ⟨rfl,B⟩;have HB:=hid B;clear B;go_wp2;go_ret;exact⟨rfl,HB.out⟩
theorem ET(r:Int)(k:Nat)(hr:U.ab r=true)(hk:6<k)(w:World):Calls prog 142 #[.int .i32 r,.int .u8 k] w fun e W'=>e=.returned (.bool (inS r k))/\Below w.heap.size w W':=by
 obtain⟨h0,h1⟩:=aN hr;rw[ve hk];have q6:((k:Int)==6)=false:=by simp;omega
 have q5:((k:Int)==5)=false:=by simp;omega
 have q4:((k:Int)==4)=false:=by simp;omega
 have q2:((k:Int)==2)=false:=by simp;omega
 have q0:((k:Int)==0)=false:=by simp;omega
 have q3:((k:Int)==3)=false:=by simp;omega
 have q1:((k:Int)==1)=false:=by simp;omega
 clear hr;go_enter func142,ntmps142;go_wp2;go_ret;exact⟨rfl,Below.refl _ _⟩
theorem KZ(r:Int)(k:Nat)(w:World)(hr:U.ab r=true):Calls prog 142 #[.int .i32 r,.int .u8 k] w fun e W'=>e=.returned (.bool (inS r k))/\Below w.heap.size w W':=by
 by_cases h6:6<k
 ·exact ET r k hr h6 w
 obtain rfl | rfl | rfl | rfl | rfl | rfl | rfl:k=0\/k=1\/k=2\/k=3\/k=4\/k=5\/k=6:=by omega
 ·exact RI r hr w
 ·exact SM r hr w
 ·exact RH r hr w
 ·exact SL r hr w
 ·exact SK r hr w
 ·exact SJ r hr w
 ·exact SI r hr w
theorem cO{base n:Nat}{v:Value}{X:List Value}{W:World}(h:W.ownsRow base 5 1 v n X):∃ a cap,v=.slice a n cap:=by
 rcases h.2 with⟨rfl,h0⟩ | ⟨g,cap,cur,rfl,_⟩
 ·exact⟨none,0,by rw[h0]⟩
 ·exact⟨_,cap,rfl⟩
theorem take_one(L:List Int)(k:Nat)(h:k<L.length):L.take (k+1)=L.take k++[L[k]?.getD 0]:=by rw[List.take_succ_eq_append_getElem h,getElem?_eq_getElem h];rfl
theorem pO:∀ p:Fin 16,(((⟨#[48,49,50,51,52,53,54,55,56,57,65,66,67,68,69,70]⟩:ByteArray)[p.val]'(by simp[ByteArray.size])).toNat:Int)=dg p.val:=by decide
theorem Ig{p:Int}(h0:0<=p)(h1:p<=15)(h:p.toNat<(⟨#[48,49,50,51,52,53,54,55,56,57,65,66,67,68,69,70]⟩:ByteArray).size):(((⟨#[48,49,50,51,52,53,54,55,56,57,65,66,67,68,69,70]⟩:ByteArray)[p.toNat]'h).toNat:Int)=dg p:=by have:=pO ⟨p.toNat,by omega⟩;simp only at this;rw[this];congr 1;omega
theorem NF:∀ y:Fin 256,bits BinOp.and IntKind.u8 y.val 15=((y.val % 16:Nat):Int):=by decide +kernel
theorem Sw{y:Int}(h0:0<=y)(h1:y<=255):bits BinOp.and IntKind.u8 y 15=y % 16:=by have:=NF ⟨y.toNat,by omega⟩;simp only at this;rw[show((y.toNat:Nat):Int)=y by omega]at this;rw[this];omega
theorem EW(l:List Int)(j:Nat)(h:j<l.length):(l.take (j+1)).flatMap pe=(l.take j).flatMap pe++pe (l[j]?.getD 0):=by rw[take_one l j h,List.flatMap_append];simp
def Je(base:Nat)(Z:List Int)(w:World)(e:Ending)(W':World):Prop:=∃ a c,e=.returned (.slice a Z.length c)/\W'.ownsRow base 5 1 (.slice a Z.length c) Z.length (Z.map (Value.int .u8))/\Below base w W'
theorem Dn(base:Nat)(a:Option Addr)(n c:Nat)(X:List Int)(t:ByteArray)(w:World)(hn:n=X.length)(ag:w.ownsRow base 5 1 (.slice a n c) n (X.map (Value.int .u8)))(hb:base<=w.heap.size)(hX:n<=4000000)(ht:t.size<=100):
  Calls prog 143 #[.slice a n c,.string t] w fun e W'=>Je base (X++(U.bn t).flatMap pe) w e W':=by
 obtain⟨i0,hi,hz0,hz1,hz2⟩:=info_parts U.Tryz.info5
 have HGS:Hid (∀ a c W,W.ownsRow base 5 1 (.slice a (n+3 * t.size) c) (n+3 * t.size) ((X++(U.bn t).flatMap pe).map (Value.int .u8))->Below base w W->Je base (X++(U.bn t).flatMap pe) w (.returned (.slice a (n+3 * t.size) c)) W):=fun a c W h hB=>by
  have e:n+3 * t.size=(X++(U.bn t).flatMap pe).length:=by rw[length_append,ku,U.aa,hn]
  rw[e]at h ⊢;exact⟨a,c,rfl,h,hB⟩
 have HR0:=hid ag;have HST:Hid (∀ j,j<t.size->_):=fun j (h:j<t.size)=>EW (U.bn t) j (by rw[U.aa];exact h);have HGT:=hid (bz t);have HBD:=hid (fun j (h:j<t.size)=>cj (s:=t) h);have HFU:Hid ((U.bn t).take t.size=U.bn t):=List.take_of_length_le (by rw[U.aa];exact le_refl _);clear ag hn;obtain⟨l,hl⟩:=Ex' (U.bn t);rw[hl]at HGS HST HGT HBD HFU ⊢;clear hl;go_enter func143,ntmps143;go_wp2_with fail
 go_loopw [0,8] (fun v0 v8 wr=>∃(j m c:Nat) (a:Option Addr),j<=t.size/\m<=n+3 * j/\n+3 * j<=m/\v0=.slice a m c/\v8=.int .i64 j/\Hid (wr.ownsRow base 5 1 (.slice a m c) m ((X++(l.take j).flatMap pe).map (Value.int .u8)))/\Hid (Below base w wr)) (fun _ v8 _=>t.size - (intOf v8).toNat)
 case atStart=>exact⟨0,n,c,a,zero_le _,by omega,by omega,rfl,rfl,by show World.ownsRow _ _ _ _ _ _ _;rw[List.take_zero];simpa using HR0.out,Below.refl _ _⟩
 case round =>
  obtain⟨j,m,c,a,hj,hm1,hm2,rfl,rfl,HR,HB⟩:=hrel;by_cases hlt:j<t.size
  ·have hg0:=(HGT.out j hlt).symm;obtain⟨hy0,hy1⟩:=HBD.out j hlt;have HS:=hid (HST.out j hlt);have zj:=le_trans hb HB.out.size;obtain⟨y,hy⟩:=Ex' (l[j]?.getD 0);rw[hy]at hg0 hy0 hy1 HS;have HPE:Hid (pe y=[37,dg (y / 16),dg (y % 16)]):=rfl;have hD1:=fun h=>Ig (p:=y / 16) (by omega) (by omega) h;have hD2:=fun h=>Ig (p:=y % 16) (by omega) (by omega) h;obtain⟨p1,hp1⟩:=Ex' (y / 16);obtain⟨p2,hp2⟩:=Ex' (y % 16);have hand:bits BinOp.and IntKind.u8 y 15=p2:=by rw[Sw hy0 hy1];exact hp2
   have hp1a:0<=p1/\p1<=15:=by omega
   have hp2a:0<=p2/\p2<=15:=by omega
   rw[hp1]at HPE hD1;rw[hp2]at HPE hD2;obtain⟨q1,q2⟩:=hp1a;obtain⟨q3,q4⟩:=hp2a;obtain⟨d1,hd1⟩:=Ex' (dg p1);obtain⟨d2,hd2⟩:=Ex' (dg p2);rw[hd1]at HPE hD1;rw[hd2]at HPE hD2;obtain⟨Z,hZ⟩:=Ex' (X++(l.take j).flatMap pe);have HZ:Hid (X++(l.take (j+1)).flatMap pe=Z++[37,d1,d2]):=by show _=_;rw[HS.out,HPE.out,<-append_assoc,hZ]
   rw[hZ]at HR;clear hd1 hd2 hy hZ HPE HS;go_wp2_with fail;refine ik 11 (by kernel_rfl) (by kernel_rfl) ?_;simp only[List.take_succ_cons,List.take_zero,List.drop_succ_cons,List.drop_zero];refine aQ (.slice a m c) rfl (fun W=>by go_simp) ?_;refine aQ (.string t) rfl (fun W=>by go_simp) ?_;refine aQ (.int .i64 j) rfl (fun W=>by go_simp) ?_;refine aQ (.int .u8 y) rfl (fun W=>by go_simp) ?_;refine aQ (.int .u8 p1) rfl (fun W=>by go_simp) ?_;refine aQ (.int .u8 d1) rfl (fun W=>by go_simp;intro h;omega) ?_;refine aQ (.string t) rfl (fun W=>by go_simp) ?_;refine aQ (.int .i64 j) rfl (fun W=>by go_simp) ?_;refine aQ (.int .u8 y) rfl (fun W=>by go_simp) ?_;refine aQ (.int .u8 p2) rfl (fun W=>by go_simp) ?_;refine aQ (.int .u8 d2) rfl (fun W=>by go_simp;intro h;omega) ?_;refine mS ?_;show wpList _ _ _ _ _ wr.drew;clear hD1 hD2;go_wp2_with(at_builtin;refine wpList_append_own _ rfl _ _ 42 rfl base 5 i0 (.int .u8 0) 1 1 underlying42 hi hz0 hz1 hz2 rfl (by decide) _ _ _ rfl ((HR.out.drew).alloc _) ⟨wr.heap.size,0,none⟩ 3 3 [.int .u8 37,.int .u8 d1,.int .u8 d2] rfl rfl (U.cZ wr.drew _ _) (by simp[Value.oneCell']) (by unfold maxLen;omega) (by omega) (by simp;omega) ?_;intro v3 w3 r3 g3 _;obtain⟨a3,c3,rfl⟩:=cO r3);have G3:Hid ((wr.alloc (.cells #[.int .u8 37,.int .u8 d1,.int .u8 d2] 5)).drew.grownBy w3 (Value.slice a m c).ownBlock):=g3;have R3:=hid r3;clear r3 g3;refine⟨rfl,?_⟩;go_wp2_with fail
   go_roundw
   case rel =>
    refine⟨j+1,m+3,c3,a3,by omega,by omega,by omega,rfl,by go_num,?_,U.below_grow (w1:=(wr.alloc (.cells #[.int .u8 37,.int .u8 d1,.int .u8 d2] 5)).drew) ((HB.out.alloc zj _).drew) (le_trans zj (by simp)) ((HR.out.alloc _).drew) G3.out⟩;show World.ownsRow _ _ _ _ _ _ _;rw[HZ.out,map_append];exact R3.out
   case measure=>simp[intOf];omega
  ·obtain rfl:j=t.size:=by omega
   obtain rfl:m=n+3 * t.size:=by omega
   rw[HFU.out]at HR;go_wp2;go_ret;exact HGS.out _ _ _ HR.out HB.out
def vlu(c:Int):Int:=if 0<=hx c then hx c else 0
theorem cL(c:Int)(h0:0<=c)(h1:c<=255)(w:World):Calls prog 266 #[.int .u8 c] w fun e W'=>e=.returned (.tuple #[.int .u8 (vlu c),.bool (decide (0<=hx c))])/\W'=w:=by
 by_cases a1:48<=c/\c<=57
 ·obtain⟨x1,x2⟩:=a1;have e1:hx c=c - 48:=by unfold hx;(repeat' split) <;> omega
  have e2:vlu c=c - 48:=by unfold vlu;rw[e1,if_pos (by omega)]
  rw[e2,e1,decide_eq_true (by omega:0<=c - 48)];clear e1 e2;go_enter func266,ntmps266;go_wp2;go_ret2;exact⟨rfl,rfl⟩
 by_cases a2:65<=c/\c<=70
 ·obtain⟨x1,x2⟩:=a2;have e1:hx c=c - 65+10:=by unfold hx;(repeat' split) <;> omega
  have e2:vlu c=c - 65+10:=by unfold vlu;rw[e1,if_pos (by omega)]
  rw[e2,e1,decide_eq_true (by omega:0<=c - 65+10)];clear e1 e2;go_enter func266,ntmps266;go_wp2;go_ret2;exact⟨rfl,rfl⟩
 by_cases a3:97<=c/\c<=102
 ·obtain⟨x1,x2⟩:=a3;have e1:hx c=c - 97+10:=by unfold hx;(repeat' split) <;> omega
  have e2:vlu c=c - 97+10:=by unfold vlu;rw[e1,if_pos (by omega)]
  rw[e2,e1,decide_eq_true (by omega:0<=c - 97+10)];clear e1 e2;go_enter func266,ntmps266;go_wp2;go_ret2;exact⟨rfl,rfl⟩
 have e1:hx c=-1:=by unfold hx;(repeat' split) <;> omega
 have e2:vlu c=0:=by unfold vlu;rw[e1];rfl
 rw[e2,e1,decide_eq_false (by omega:¬ (0:Int)<=-1)];clear e1 e2;go_enter func266,ntmps266;go_wp2
 all_goals first
  | (go_ret2;exact⟨rfl,rfl⟩)
  | (exfalso;omega)
def iF(l:List Int):Prop:=l[0]?.getD 0=37/\2<l.length/\0<=hx (l[1]?.getD 0)/\0<=hx (l[2]?.getD 0)
theorem Pp:∀ x y:Fin 16,bits BinOp.or IntKind.u8 ((16 * x.val:Nat):Int) y.val=((16 * x.val+y.val:Nat):Int):=by decide +kernel
theorem RO{x y:Int}(x0:0<=x)(x1:x<=15)(y0:0<=y)(y1:y<=15):bits BinOp.or IntKind.u8 (16 * x) y=16 * x+y:=by have:=Pp ⟨x.toNat,by omega⟩ ⟨y.toNat,by omega⟩;simp only at this;rw[show((16 * x.toNat:Nat):Int)=16 * x by omega,show((y.toNat:Nat):Int)=y by omega]at this;rw[this];omega
theorem BX(s:ByteArray)(hp:0<s.size)(hs:s.size<=1000000)(w:World):Calls prog 238 #[.string s] w fun e W' =>
  ((∃ b:Int,e=.returned (.tuple #[.int .u8 b,.int .i64 1])/\b=(U.bn s)[0]?.getD 0/\¬ iF (U.bn s))\/(∃ b:Int,e=.returned (.tuple #[.int .u8 b,.int .i64 3])/\b=16 * hx ((U.bn s)[1]?.getD 0)+hx ((U.bn s)[2]?.getD 0)/\iF (U.bn s)))/\W'=w:=by
 have HT:Hid (iF (U.bn s)↔((U.bn s)[0]?.getD 0=37/\2<s.size/\0<=hx ((U.bn s)[1]?.getD 0)/\0<=hx ((U.bn s)[2]?.getD 0))):=by show _↔_;unfold iF;rw[U.aa]
 have hg0:=(bz s 0 hp).symm;obtain⟨hb0,hb1⟩:=cj hp;obtain⟨T,hT⟩:=Ex' (iF (U.bn s));obtain⟨y,hy⟩:=Ex' ((U.bn s)[0]?.getD 0);have HG1:=hid (fun h=>bz s 1 h);have HG2:=hid (fun h=>bz s 2 h);have HB1:=hid (fun h=>cj (s:=s) (i:=1) h);have HB2:=hid (fun h=>cj (s:=s) (i:=2) h);rw[hT,hy]at HT;rw[hy]at hg0 hb0 hb1;rw[hT,hy];clear hT hy;by_cases h37:y=37
 ·by_cases h2:2<s.size
  ·have g1:=(HG1.out (by omega)).symm;have g2:=(HG2.out h2).symm;obtain⟨c0,c1⟩:=HB1.out (by omega);obtain⟨d0,d1⟩:=HB2.out h2;obtain⟨x1,hx1⟩:=Ex' ((U.bn s)[1]?.getD 0);obtain⟨x2,hx2⟩:=Ex' ((U.bn s)[2]?.getD 0);rw[hx1]at g1 c0 c1 HT ⊢;rw[hx2]at g2 d0 d1 HT ⊢;have HV1:=hid (fun W=>cL x1 c0 c1 W);have HV2:=hid (fun W=>cL x2 d0 d1 W);have q1:=iI x1;have q2:=iI x2;have HU1:Hid (0<=hx x1->vlu x1=hx x1):=fun h=>by unfold vlu;rw[if_pos h]
   have HU2:Hid (0<=hx x2->vlu x2=hx x2):=fun h=>by unfold vlu;rw[if_pos h]
   obtain⟨z1,hz1⟩:=Ex' (hx x1);obtain⟨z2,hz2⟩:=Ex' (hx x2);obtain⟨v1,hv1⟩:=Ex' (vlu x1);obtain⟨v2,hv2⟩:=Ex' (vlu x2);rw[hz1]at q1 HT HV1 HU1 ⊢;rw[hz2]at q2 HT HV2 HU2 ⊢;rw[hv1]at HV1 HU1;rw[hv2]at HV2 HU2;clear hz1 hz2 hv1 hv2 hx1 hx2 HG1 HG2 HB1 HB2;have h37b:(y != 37)=false:=by simp[h37]
   have h2z:¬ (s.size:Int)<3:=by omega
   by_cases p1:0<=z1
   ·have e1:=HU1.out p1;subst e1;by_cases p2:0<=z2
    ·have e2:=HU2.out p2;subst e2;have HTT:=hid (HT.out.2 ⟨h37,h2,p1,p2⟩);obtain⟨_,q1b⟩:=q1;obtain⟨_,q2b⟩:=q2;have hor:=RO p1 q1b p2 q2b;rw[decide_eq_true p1]at HV1;rw[decide_eq_true p2]at HV2;have hsh:IntKind.u8.wrap (v1 * 16)=16 * v1:=by rw[IntKind.wrap_u8];omega
     clear HT HU1 HU2 h37;go_enter func238,ntmps238;go_wp2_with fail;refine(HV1.out _).mono ?_;rintro e w1 ⟨rfl,hw1⟩;obtain rfl:=hw1.symm;clear HV1;go_wp2_with fail;refine(HV2.out _).mono ?_;rintro e w1 ⟨rfl,hw1⟩;obtain rfl:=hw1.symm;clear HV2;go_wp2;go_ret2;exact⟨.inr ⟨_,rfl,rfl,HTT.out⟩,rfl⟩
    ·have HTT:=hid (fun h=>p2 (HT.out.1 h).2.2.2);rw[decide_eq_true p1]at HV1;rw[decide_eq_false p2]at HV2;clear HT HU1 HU2 h37;go_enter func238,ntmps238;go_wp2_with fail;refine(HV1.out _).mono ?_;rintro e w1 ⟨rfl,hw1⟩;obtain rfl:=hw1.symm;clear HV1;go_wp2_with fail;refine(HV2.out _).mono ?_;rintro e w1 ⟨rfl,hw1⟩;obtain rfl:=hw1.symm;clear HV2;go_wp2;go_ret2;exact⟨.inl ⟨_,rfl,rfl,HTT.out⟩,rfl⟩
   ·have HTT:=hid (fun h=>p1 (HT.out.1 h).2.2.1);rw[decide_eq_false p1]at HV1;obtain⟨B2,hB2⟩:=Ex' (decide (0<=z2));rw[hB2]at HV2;clear HT HU1 HU2 h37 hB2;go_enter func238,ntmps238;go_wp2_with fail;refine(HV1.out _).mono ?_;rintro e w1 ⟨rfl,hw1⟩;obtain rfl:=hw1.symm;clear HV1;go_wp2_with fail;refine(HV2.out _).mono ?_;rintro e w1 ⟨rfl,hw1⟩;obtain rfl:=hw1.symm;clear HV2;go_wp2;go_ret2;exact⟨.inl ⟨_,rfl,rfl,HTT.out⟩,rfl⟩
  ·have HTT:=hid (fun h=>h2 (HT.out.1 h).2.1);have h37b:(y != 37)=false:=by simp[h37]
   have h2z:(s.size:Int)<3:=by omega
   clear HT h37;go_enter func238,ntmps238;go_wp2;go_ret2;exact⟨.inl ⟨_,rfl,rfl,HTT.out⟩,rfl⟩
 ·have HTT:=hid (fun h=>h37 (HT.out.1 h).1);have h37b:(y != 37)=true:=by simpa using h37
  clear HT h37;go_enter func238,ntmps238;go_wp2;go_ret2;exact⟨.inl ⟨_,rfl,rfl,HTT.out⟩,rfl⟩
theorem Hc{l:List Int}(hl:0<l.length)(h:¬ iF l):de l=l[0]?.getD 0::de (l.drop 1):=by
 match l,hl,h with
 | c::t,_,h =>
  refine NY (fun hh=>h ⟨hh.1,?_,?_,?_⟩)
  ·simp;omega
  ·exact hh.2.2.1
  ·exact hh.2.2.2
theorem BW{l:List Int}(h:iF l):de l=(16 * hx (l[1]?.getD 0)+hx (l[2]?.getD 0))::de (l.drop 3):=by
 match l,h with
 | [],h=>exact absurd h.2.1 (by simp)
 | [a],h=>exact absurd h.2.1 (by simp)
 | [a,b],h=>exact absurd h.2.1 (by simp)
 | c::a::b::t,h =>
  have hc:c=37:=h.1;rw[hc];exact Qy h.2.2.1 h.2.2.2
theorem Ay{l:List Int}(h:iF l):3<=l.length:=by have:=h.2.1;omega
theorem kQ:∀(n:Nat) (l:List Int),l.length<=n->U.Bytes l->U.Bytes (de l)
 | _,[],_,h=>h
 | _,[a],_,h=>h
 | _,[a,b],_,h=>h
 | 0,c::a::b::t,h,_=>by simp at h
 | n+1,c::a::b::t,h,hB=>by
  rw[de];split
  ·have h1:=iI a;have h2:=iI b;rename_i hc;have ih:=kQ n t (by simp at h;omega) (fun x hx=>hB x (by simp[hx]));intro x hx;rcases List.mem_cons.1 hx with rfl | hx
   ·omega
   ·exact ih x hx
  ·have ih:=kQ n (a::b::t) (by simp at h ⊢;omega) (fun x hx=>hB x (by simp at hx ⊢;right;exact hx));intro x hx;rcases List.mem_cons.1 hx with rfl | hx
   ·exact hB x (by simp)
   ·exact ih x hx
theorem ix(s:ByteArray)(w:World)(hs:s.size<=100000):
  Calls prog 210 #[.string s] w fun e W'=>yz (U.bn s) w e W':=by
 obtain⟨i0,hi,hz0,hz1,hz2⟩:=info_parts U.Tryz.info5;have HGS:Hid (∀ e W,((∃ t,e=.returned (.string t)/\U.bn t=de (U.bn s))/\Below w.heap.size w W)->yz (U.bn s) w e W):=fun e W h=>h;have HBY:=hid (kQ _ (U.bn s) (le_refl _) (U.ay s))
 have HFR:Hid (∀ i,i<s.size->∀ W,Calls prog 238 #[.string (s.extract i s.size)] W fun e W'=>(∃(b:Int) (n:Nat),e=.returned (.tuple #[.int .u8 b,.int .i64 n])/\i+n<=s.size/\1<=n/\Hid (de ((U.bn s).drop i)=b::de ((U.bn s).drop (i+n))))/\W'=W):=fun i h W=>by
  have hz:(s.extract i s.size).size=s.size - i:=by simp
  have hl:((U.bn s).drop i).length=s.size - i:=by rw[List.length_drop,U.aa]
  refine(BX (s.extract i s.size) (by omega) (by omega) W).mono ?_;rintro e W' ⟨hh,rfl⟩;refine⟨?_,rfl⟩;rw[U.ar]at hh;rcases hh with⟨b,rfl,rfl,ht⟩ | ⟨b,rfl,rfl,ht⟩
  ·refine⟨_,1,rfl,by omega,by omega,?_⟩;show _=_;rw[Hc (by omega) ht,List.drop_drop]
  ·have:=Ay ht;refine⟨_,3,rfl,by omega,by omega,?_⟩;show _=_;rw[BW ht,List.drop_drop]
 go_enter func210,ntmps210;go_wp2_with fail
 go_loopw [3,4] (fun v3 v4 wr=>∃(i m c:Nat) (a:Option Addr) (Y:List Int),i<=s.size/\m<=i/\v3=.slice a m c/\v4=.int .i64 i/\Hid (m=Y.length)/\Hid (de (U.bn s)=Y++de ((U.bn s).drop i))/\Hid (wr.ownsRow w.heap.size 5 1 (.slice a m c) m (Y.map (Value.int .u8)))/\Hid (Below w.heap.size w wr)) (fun _ v4 _=>s.size - (intOf v4).toNat)
 case atStart=>exact⟨0,0,0,none,[],zero_le _,le_refl _,rfl,rfl,rfl,by show _=_;rw[List.drop_zero];rfl,World.ownsRow_nil _ _ _ _,Below.refl _ _⟩
 case round =>
  obtain⟨i,m,c,a,Y,hin,hmi,rfl,rfl,HM,HD,HR,HB⟩:=hrel;by_cases hlt:i<s.size
  ·have HF:=hid (HFR.out i hlt);have zj:=HB.out.size;go_wp2_with fail;refine(HF.out _).mono ?_;rintro e w1 ⟨⟨b,n,rfl,hn,hn1,HE⟩,hw1⟩;obtain rfl:=hw1.symm;have HE2:Hid (de (U.bn s)=(Y++[b])++de ((U.bn s).drop (i+n))):=by show _=_;rw[HD.out,HE.out];simp
   clear HF HE HD;have hnz:(i:Int)+(n:Int)<=(s.size:Int):=by omega
   go_wp2_with(at_builtin;refine wpList_append_own _ rfl _ _ 42 rfl w.heap.size 5 i0 (.int .u8 0) 1 1 underlying42 hi hz0 hz1 hz2 rfl (by decide) _ _ _ rfl (HR.out.alloc _) ⟨wr.heap.size,0,none⟩ 1 1 [.int .u8 b] rfl rfl (U.cZ _ _ _) (by simp[Value.oneCell']) (by unfold maxLen;omega) (by omega) (by simp;omega) ?_;intro v3 w3 r3 g3 _;obtain⟨a3,c3,rfl⟩:=cO r3)
   go_roundw
   case rel =>
    refine⟨i+n,m+1,c3,a3,Y++[b],by omega,by omega,rfl,by go_num,by show _=_;rw[length_append,<-HM.out];rfl,HE2,?_,U.below_grow (w1:=wr.alloc (.cells #[.int .u8 b] 5)) (HB.out.alloc HB.out.size _) (le_trans HB.out.size (by simp)) (HR.out.alloc _) g3⟩;show World.ownsRow _ _ _ _ _ _ _;rw[map_append];exact r3
   case measure=>simp[intOf];omega
  ·have hnil:(U.bn s).drop i=[]:=List.drop_eq_nil_of_le (by rw[U.aa];omega);have HE:Hid (de (U.bn s)=Y):=by show _=_;rw[HD.out,hnil];simp[de]
   obtain⟨t,hcv,htb⟩:=U.aV wr w.heap.size _ _ Y HM.out (by rw[<-HE.out];exact HBY.out) HR.out;have HTB:=hid (htb.trans HE.out.symm);clear hnil htb HM HR HE HD HBY HFR;go_wp2;go_ret;exact HGS.out _ _ ⟨⟨t,rfl,HTB.out⟩,HB.out⟩
end E
namespace U
end U
namespace E
def pos(L:List Int)(j:Nat):Nat:=(U.aj (L.take j)).length
theorem du(a b:List Int):U.aj (a++b)=U.aj a++U.aj b:=List.flatMap_append
theorem bD(c:Int)(l:List Int):U.aj (c::l)=U.enc c++U.aj l:=List.flatMap_cons
theorem qN(L:List Int)(j:Nat):(U.aj L).drop (pos L j)=U.aj (L.drop j):=by
 have e:U.aj L=U.aj (L.take j)++U.aj (L.drop j):=by rw[<-du,take_append_drop]
 unfold pos;rw[e,List.drop_left]
theorem drop_cons(L:List Int)(j:Nat)(h:j<L.length):L.drop j=L[j]::L.drop (j+1):=drop_eq_getElem_cons h
theorem bX(L:List Int)(j:Nat)(h:j<L.length):L.take (j+1)=L.take j++[L[j]]:=List.take_succ_eq_append_getElem h
theorem EN(L:List Int)(j:Nat)(h:j<L.length):pos L (j+1)=pos L j+(U.enc L[j]).length:=by unfold pos;rw[bX L j h,U.gv,length_append]
theorem KY(L:List Int):pos L L.length=(U.aj L).length:=by unfold pos;rw[List.take_length]
theorem Pj(L:List Int)(j:Nat):pos L j<=(U.aj L).length:=by
 have e:U.aj L=U.aj (L.take j)++U.aj (L.drop j):=by rw[<-du,take_append_drop]
 unfold pos;rw[e,length_append];omega
theorem QM(t:ByteArray)(a b:Nat):U.bn (t.extract a b)=((U.bn t).drop a).take (b - a):=by unfold U.bn;rw[ByteArray.data_extract,Array.toList_extract,List.map_take,List.map_drop]
theorem round_facts{L:List Int}{t:ByteArray}(hb:U.bn t=U.aj L)(hs:∀ c∈L,U.ab c=true)(k:Nat){j:Nat}(hj:j<L.length):
  ∃ c:Int,U.ab c=true/\U.nx (U.bn (t.extract (pos L j) t.size))=(c,(U.enc c).length,true)/\pos L (j+1)=pos L j+(U.enc c).length/\pos L (j+1)<=t.size/\U.bn (t.extract (pos L j) (pos L j+(U.enc c).length))=U.enc c/\en k (L.take (j+1))=en k (L.take j)++tok k c:=by
 have hc:U.ab L[j]=true:=hs _ (getElem_mem hj);refine⟨L[j],hc,?_,EN L j hj,?_,?_,?_⟩
 ·rw[U.ar,hb,qN,drop_cons L j hj,bD];exact U.nY _ hc _
 ·rw[<-U.aa,hb];exact Pj L _
 ·rw[QM,hb,qN,drop_cons L j hj,bD,Nat.add_sub_cancel_left,List.take_left]
 ·rw[bX L j hj,zR]
theorem tD(u:ByteArray):Lib.strCells u=(U.bn u).map (Value.int .u8):=by unfold Lib.strCells U.bn;rw[List.map_map];rfl
theorem JH{k:Nat}{c:Int}(h:inS c k=true):tok k c=(U.enc c).flatMap pe:=by unfold tok;rw[if_pos h]
theorem OD{k:Nat}{c:Int}(h:inS c k=false):tok k c=U.enc c:=by unfold tok;rw[if_neg (by rw[h];decide)]
theorem bP(s:ByteArray)(k:Nat)(w:World)(hs:s.size<=100000)(hk:k<=255):
  Calls prog 98 #[.string s,.int .u8 k] w fun e W'=>Jj k (U.dec (U.bn s)) w e W':=by
 obtain⟨i0,hi,hz0,hz1,hz2⟩:=info_parts U.Tryz.info5;have HCL:=hid (U.qY s (by omega) w);have hdl:=U.dv (U.bn s).length (U.bn s) (le_refl _) (U.ay s);rw[U.aa]at hdl;have HSC:=hid (jh s);obtain⟨L,hL⟩:=Ex' (U.dec (U.bn s));rw[hL]at HCL hdl HSC ⊢;have hel:=U.cX L;obtain⟨n,hn⟩:=Ex' L.length;have HN:=hid hn;rw[hn]at hdl hel;have HGS:Hid (∀ e W,((∃ t,e=.returned (.string t)/\U.bn t=en k L)/\Below w.heap.size w W)->Jj k L w e W):=fun e W h=>h;clear hL hn;go_enter func98,ntmps98;go_wp2_with fail;refine HCL.out.mono ?_;rintro e w1 ⟨⟨t,rfl,ht⟩,B1⟩;have HT:=hid ht;have hts:t.size<=400000:=by have:=congrArg List.length ht;rw[U.aa]at this;omega
 have HRF:Hid (∀ j,j<n->_):=fun j (h:j<n)=>round_facts ht HSC.out k (j:=j) (by rw[HN.out];exact h);have HPA:Hid (pos L n=t.size):=by show _=_;rw[<-HN.out,KY,<-ht,U.aa]
 have HB1:=hid B1;have z1:=B1.size;clear ht B1 HCL hel;go_wp2_with fail
 go_loopw [6,7] (fun v6 v7 wr=>∃(j p m c:Nat) (a:Option Addr),j<=n/\p<=t.size/\m<=12 * j/\v6=.slice a m c/\v7=.int .i64 p/\Hid (p=pos L j)/\Hid (m=(en k (L.take j)).length)/\Hid (wr.ownsRow w1.heap.size 5 1 (.slice a m c) m ((en k (L.take j)).map (Value.int .u8)))/\Hid (Below w1.heap.size w1 wr)) (fun _ v7 _=>t.size - (intOf v7).toNat)
 case atStart=>exact⟨0,0,0,0,none,zero_le _,zero_le _,le_refl _,rfl,rfl,rfl,rfl,World.ownsRow_nil _ _ _ _,Below.refl _ _⟩
 case round =>
  obtain⟨j,p,m,c,a,hj,hp,hm,rfl,rfl,HP,HM,HR,HB⟩:=hrel;by_cases hlt:p<t.size
  ·have hjn:j<n:=by
    by_cases e:j=n
    ·have h1:=HP.out;rw[e,HPA.out]at h1;omega
    ·omega
   obtain⟨x,hx,hnx,hpn,hpt,hcut,hst⟩:=HRF.out j hjn;rw[<-HP.out]at hnx hpn hcut;have hel:=U.eG x;have hxb:=aN hx;have HIN:=hid (fun W=>KZ x k W hx)
   have HNX:Hid (∀ W,Calls prog 117 #[.string (t.extract p t.size)] W fun e W'=>e=.returned (.tuple #[.int .i32 x,.int .i64 (U.enc x).length,.bool true])/\∃ q,W'=W.drewN q):=fun W=>(U.uy (t.extract p t.size) W (by simp;omega)).mono (by
     rintro e W' ⟨rfl,h⟩
     rw[hnx]
     exact⟨rfl,h⟩)
   obtain⟨q,hq⟩:=Ex' (inS x k);have HTY:Hid (q=true->tok k x=(U.enc x).flatMap pe):=fun h=>JH (hq.trans h);have HTN:Hid (q=false->tok k x=U.enc x):=fun h=>OD (hq.trans h);rw[hq]at HIN;obtain⟨E,hE⟩:=Ex' (U.enc x);rw[hE]at hpn hcut hel HNX HTY HTN;obtain⟨l,hl⟩:=Ex' E.length;rw[hl]at hpn hcut hel HNX;have HCUT:=hid hcut;have HST:=hid hst;have HPN:=hid hpn;have HEL:=hid hl;have hpl:p+l<=t.size:=by omega
   obtain⟨u,hu⟩:=Ex' (t.extract p (p+l));have hus:u.size=l:=by rw[<-hu];simp;omega
   rw[hu]at HCUT;have hplz:(p:Int)+(l:Int)<=(t.size:Int):=by omega
   have zr:=HB.out.size;obtain⟨Y,hY⟩:=Ex' (en k (L.take j));rw[hY]at HST HM HR;have hm2:m<=2000000:=by omega
   clear hx hnx hpn hpt hcut hst hq hE hl hY hxb HRF;go_wp2_with fail;refine(HNX.out _).mono ?_;rintro e w2 ⟨rfl,nq,hw2⟩;have HB2:Hid (Below w1.heap.size w1 w2):=by rw[hw2];exact HB.out.trans ((U.below_drewN _ _ _).mono (le_refl _))
   have HR2:Hid (w2.ownsRow w1.heap.size 5 1 (.slice a m c) m (Y.map (Value.int .u8))):=U.an HR.out (B:=wr.heap.size) (by rw[hw2];exact U.below_drewN _ _ _) (le_refl _);clear hw2 HNX HB HR;go_wp2_with fail;refine(HIN.out _).mono ?_;rintro e w3 ⟨rfl,B3⟩;have HB3:=Bt' HB2 B3;have HR3:=hid (U.an HR2.out B3 (le_refl _));have z3:=HB3.out.size;clear B3 HIN HB2 HR2;cases q with
   | true =>
    have HTK:=hid (HTY.out rfl);have HTO:=hid (Dn w1.heap.size a m c Y u w3 HM.out HR3.out z3 (by omega) (by omega));have HZ:Hid (Y++(U.bn u).flatMap pe=en k (L.take (j+1))):=by show _=_;rw[HST.out,HTK.out,HCUT.out]
    have hzl:(Y++(U.bn u).flatMap pe).length=m+3 * l:=by rw[length_append,ku,U.aa,hus,HM.out]
    have HZL:=hid hzl;obtain⟨Z,hZ⟩:=Ex' (Y++(U.bn u).flatMap pe);rw[hZ]at HTO HZ hzl HZL;unfold Je at HTO;rw[hzl]at HTO;clear HTY HTN hZ hzl;go_wp2_with fail;refine HTO.out.mono ?_;rintro e w4 ⟨a4,c4,rfl,r4,B4⟩;have HR4:=hid r4;have HB4:=hid (HB3.out.trans B4);clear r4 B4 HTO;go_wp2_with fail
    go_roundw
    case rel =>
     refine⟨j+1,p+l,m+3 * l,c4,a4,by omega,by omega,by omega,rfl,by go_num,HPN.out.symm,?_,?_,HB4⟩
     ·show _=_;rw[<-HZ.out,HZL.out]
     ·show World.ownsRow _ _ _ _ _ _ _;rw[<-HZ.out];exact HR4.out
    case measure=>simp[intOf];omega
   | false =>
    have HTK:=hid (HTN.out rfl);have HZ:Hid (en k (L.take (j+1))=Y++U.bn u):=by show _=_;rw[HST.out,HTK.out,HCUT.out]
    have HUS:=hid hus;clear HTY HTN;go_wp2_with(at_builtin;refine Lib.wpList_append_own_string _ rfl _ _ 42 9 rfl w1.heap.size 5 i0 underlying42 underlying9 hi hz0 hz1 hz2 _ _ _ rfl HR3.out u (congrArg Value.string hu) (by unfold maxLen;omega) (by omega) z3 ?_;intro v4 w4 r4 g4 _;obtain⟨a4,c4,rfl⟩:=cO r4);rw[HUS.out]at r4;have HR4:=hid r4;have HB4:=hid (U.below_grow HB3.out z3 HR3.out g4);clear r4 g4;go_wp2_with fail
    go_roundw
    case rel =>
     refine⟨j+1,p+l,m+l,c4,a4,by omega,by omega,by omega,rfl,by go_num,HPN.out.symm,?_,?_,HB4⟩
     ·show _=_;rw[HZ.out,length_append,<-HM.out,U.aa,HUS.out]
     ·show World.ownsRow _ _ _ _ _ _ _;rw[HZ.out,map_append,<-tD];exact HR4.out
    case measure=>simp[intOf];omega
  ·obtain rfl:p=t.size:=by omega
   have hjn:j=n:=by
    by_cases e:j=n
    ·exact e
    ·exfalso;obtain⟨x,hx,hnx,hpn,hpt,hcut,hst⟩:=HRF.out j (by omega);rw[<-HP.out]at hpn;have:=U.eG x;omega
   have ht:L.take j=L:=List.take_of_length_le (by rw[HN.out];omega);rw[ht]at HM HR;have HBW:=hid (HB1.out.trans (HB.out.mono z1));obtain⟨r,hcv,htb⟩:=U.aV wr w1.heap.size _ _ (en k L) HM.out (Hu HSC.out) HR.out;have HTB:=hid htb;clear ht htb HM HR hjn;go_wp2;go_ret;exact HGS.out _ _ ⟨⟨r,rfl,HTB.out⟩,HBW.out⟩
end E
namespace X
open F (hx iI)
theorem kG:∀(l:List Int) (n:Nat),(∀ c∈l,hx c<=15)->l.foldl (fun n c=>n * 16+(hx c).toNat) n<(n+1) * 16 ^ l.length
 | [],n,_=>by simp
 | c::l,n,h=>by have hc:=h c (by simp);have ih:=kG l (n * 16+(hx c).toNat) (fun x hx=>h x (by simp[hx]));have h1:(n * 16+(hx c).toNat+1) * 16 ^ l.length<=((n+1) * 16) * 16 ^ l.length:=Nat.mul_le_mul_right _ (by omega);rw[List.foldl_cons,List.length_cons,Nat.pow_succ];rw[Nat.mul_assoc,Nat.mul_comm 16]at h1;exact Nat.lt_of_lt_of_le ih h1
theorem tY{p:List Int}{v:Nat}(h:pc p=some v):v<65536:=by
 unfold pc at h;split at h
 ·rename_i hp;cases h;have:=kG p 0 (fun c _=>(iI c).2);have h2:(0+1) * 16 ^ p.length<=65536:=by rw[Nat.zero_add,Nat.one_mul];exact le_trans (Nat.pow_le_pow_right (by decide) hp.2.1) (by decide)
  exact Nat.lt_of_lt_of_le this h2
 ·cases h
theorem Ib{p:List Int}{v:Nat}(h:dn p=some v):v<=255:=by
 unfold dn at h;split at h
 ·rename_i hp;cases h;exact hp.2.2.2.2
 ·cases h
theorem Hy{p:List Int}{l:List Nat}(h:dt p=some l):Small l:=by
 unfold dt ma at h;split at h
 ·rename_i a b c d e;cases h;have g:∀ x,some x∈(spB 46 p).map dn->x<=255:=fun x hx=>by obtain⟨q,_,hq⟩:=List.mem_map.1 hx;exact Ib hq
  rw[e]at g;have ga:=g a (by simp);have gb:=g b (by simp);have gc:=g c (by simp);have gd:=g d (by simp);intro v hv;simp at hv;rcases hv with rfl | rfl <;> omega
 ·cases h
theorem qw{p:List Int}{l:List Nat}(h:(pc p).map (fun v=>[v])=some l):Small l:=by
 cases hp:pc p with
 | none=>rw[hp]at h;cases h
 | some v =>
  rw[hp]at h;cases h;intro x hx;rw[List.mem_singleton.1 hx];exact tY hp
theorem Bu{last:Bool}{p:List Int}{l:List Nat}(h:lst last p=some l):Small l:=by
 unfold lst at h;split at h
 ·split at h
  ·rename_i e;cases h;exact Hy e
  ·exact qw h
 ·exact qw h
theorem qo{last:Bool}:∀ {ps:List (List Int)} {l:List Nat},pcs last ps=some l->Small l
 | [],l,h=>by cases h;intro v hv;cases hv
 | [p],l,h=>Bu h
 | p::q::r,l,h=>by
  rw[pcs]at h;cases hp:pc p with
  | none=>rw[hp]at h;cases h
  | some v =>
   cases hr:pcs last (q::r) with
   | none=>rw[hp,hr]at h;cases h
   | some m =>
    rw[hp,hr]at h;cases h;intro x hx;rcases List.mem_cons.1 hx with rfl | hx
    ·exact tY hp
    ·exact qo hr x hx
theorem gH{last:Bool}{s:List Int}{l:List Nat}(h:pieces last s=some l):Small l:=by
 unfold pieces at h;split at h
 ·cases h;intro v hv;cases hv
 ·exact qo h
theorem qj{s:List Int}{v:List Nat}(h:prs s=some v):Small v:=by
 unfold prs at h;split at h
 ·cases hp:pieces true s with
  | none=>rw[hp]at h;cases h
  | some l =>
   rw[hp]at h;unfold full at h;simp only at h;split at h
   ·cases h;exact gH hp
   ·cases h
 ·split at h
  ·cases hf:pieces false (s.take (cp s)) with
   | none=>rw[hf]at h;cases h
   | some f =>
    cases hb:pieces true (s.drop (cp s+2)) with
    | none=>rw[hf,hb]at h;cases h
    | some b =>
     rw[hf,hb]at h;unfold both at h;simp only at h;split at h
     ·cases h;intro x hx;rw[List.mem_append,List.mem_append]at hx;rcases hx with(hx | hx) | hx
      ·exact gH hf x hx
      ·rw[List.eq_of_mem_replicate hx];decide
      ·exact gH hb x hx
     ·cases h
  ·cases h
end X
namespace H
open F (bn)
abbrev hvl(k:Nat)(n:ByteArray)(f:Nat)(a:List Nat):Value:=hv k n f ((a[0]?.getD 0:Nat):Int) ((a[1]?.getD 0:Nat):Int) ((a[2]?.getD 0:Nat):Int) ((a[3]?.getD 0:Nat):Int) ((a[4]?.getD 0:Nat):Int) ((a[5]?.getD 0:Nat):Int) ((a[6]?.getD 0:Nat):Int) ((a[7]?.getD 0:Nat):Int)
def kW(A:List Int->List Int->Int->Prop)(l:List Int)(sp:Bool)(w:World)(e:Ending)(W':World):Prop :=
 (∃(h:Hst) (n:ByteArray),HP A l sp h/\bn n=h.2.1/\e=.returned (.tuple #[hvl h.1 n h.2.2.1 h.2.2.2.1,.int .i64 h.2.2.2.2]))/\Below w.heap.size w W'
def pz(h:Hst)(w:World)(e:Ending)(W':World):Prop:=(∃ t,e=.returned (.string t)/\bn t=txt h)/\Below w.heap.size w W'
theorem kj:X.Small z8:=by unfold X.Small z8;decide
theorem xK{W W':World}{g:Nat}{o:Obj}(h:W.heap[g]? = some o)(hB:Below W.heap.size W W'):W'.heap[g]? = some o:=by have hl:g<W.heap.size:=(Array.getElem?_eq_some_iff.1 h).1;rw[hB.block g hl,h]
theorem xL{W:World}{g:Nat}{o:Obj}(h:W.heap[g]? = some o)(o':Obj):(W.alloc o').heap[g]? = some o:=xK h ((Below.refl _ W).alloc (le_refl _) o')
end H
namespace D
abbrev Rw:=Int×Int×Int×Int×Int×Int×Bool×Int
abbrev Tri:=Int×Int×Int
def fq:List Rw:=[
  (45,45,1,0,5,0,false,0),
  (46,46,1,0,6,0,false,0),
  (48,57,1,0,4,0,false,0),
  (65,90,3,2,1,0,false,0),
  (95,95,1,0,0,0,false,0),
  (97,122,1,2,1,0,false,0),
  (170,170,3,2,1,0,false,0),
  (173,173,2,0,9,0,false,0),
  (178,179,3,0,4,0,false,0),
  (185,185,3,0,4,0,false,0),
  (186,186,3,2,1,0,false,0),
  (192,214,3,2,1,0,false,0),
  (216,222,3,2,1,0,false,0),
  (223,223,4,2,1,0,false,0),
  (224,246,1,2,1,0,false,0),
  (248,255,1,2,1,0,false,0),
  (376,376,3,2,1,0,false,0),
  (469,469,3,2,1,0,false,0),
  (470,470,1,2,1,0,false,0)]
def eW:List Rw:=[
  (768,772,1,1,8,230,true,4),
  (774,776,1,1,8,230,true,4),
  (778,778,1,1,8,230,true,4),
  (803,803,1,1,8,220,true,4),
  (807,808,1,1,8,202,true,4),
  (902,902,3,3,1,0,false,0),
  (904,906,3,3,1,0,false,0),
  (908,908,3,3,1,0,false,0),
  (910,911,3,3,1,0,false,0),
  (913,929,3,3,1,0,false,0),
  (931,937,3,3,1,0,false,0),
  (940,943,1,3,1,0,false,0),
  (945,961,1,3,1,0,false,0),
  (962,962,4,3,1,0,false,0),
  (963,969,1,3,1,0,false,0),
  (972,974,1,3,1,0,false,0),
  (1025,1025,3,4,1,0,false,0),
  (1029,1030,3,4,1,0,false,0),
  (1032,1032,3,4,1,0,false,0),
  (1040,1071,3,4,1,0,false,0),
  (1072,1103,1,4,1,0,false,0),
  (1105,1105,1,4,1,0,false,0),
  (1109,1110,1,4,1,0,false,0),
  (1112,1112,1,4,1,0,false,0)]
def df:List Rw:=[
  (1488,1514,1,5,2,0,false,0),
  (1575,1575,1,6,3,0,false,2),
  (1576,1576,1,6,3,0,false,3),
  (1578,1578,1,6,3,0,false,3),
  (1583,1583,1,6,3,0,false,2),
  (1587,1587,1,6,3,0,false,3),
  (1604,1606,1,6,3,0,false,3),
  (1608,1608,1,6,3,0,false,2),
  (1610,1610,1,6,3,0,false,3),
  (1611,1611,1,1,8,27,true,4),
  (1632,1641,1,6,7,0,false,0),
  (1776,1785,1,6,4,0,false,0),
  (2325,2361,1,7,1,0,false,0),
  (2367,2367,1,7,1,0,true,0),
  (2381,2381,1,7,8,9,true,4)]
def later:List Rw:=[
  (7776,7776,3,2,1,0,false,0),
  (7777,7777,1,2,1,0,false,0),
  (7778,7778,3,2,1,0,false,0),
  (7779,7779,1,2,1,0,false,0),
  (7784,7784,3,2,1,0,false,0),
  (7785,7785,1,2,1,0,false,0),
  (7838,7838,3,2,1,0,false,0),
  (8204,8204,4,1,9,0,false,0),
  (8205,8205,4,1,9,0,false,5),
  (8486,8486,3,3,1,0,false,0),
  (8490,8490,3,2,1,0,false,0),
  (8491,8491,3,2,1,0,false,0),
  (9731,9731,1,0,0,0,false,0),
  (12290,12290,3,0,0,0,false,0),
  (12353,12438,1,8,1,0,false,0),
  (12449,12538,1,9,1,0,false,0),
  (12540,12540,1,0,1,0,false,0),
  (19968,20108,1,10,1,0,false,0),
  (64257,64257,3,2,1,0,false,0),
  (65285,65285,3,0,0,0,false,0),
  (65293,65293,3,0,5,0,false,0),
  (65294,65294,3,0,6,0,false,0),
  (65295,65295,3,0,6,0,false,0),
  (65296,65305,3,0,4,0,false,0),
  (65313,65338,3,2,1,0,false,0),
  (65345,65370,3,2,1,0,false,0),
  (65377,65377,3,0,0,0,false,0),
  (66560,66599,3,11,1,0,false,0),
  (66600,66639,1,11,1,0,false,0),
  (128512,128512,1,0,0,0,false,0)]
def prs:List Tri:=[
  (192,65,768),
  (193,65,769),
  (194,65,770),
  (195,65,771),
  (196,65,776),
  (197,65,778),
  (199,67,807),
  (200,69,768),
  (201,69,769),
  (202,69,770),
  (203,69,776),
  (204,73,768),
  (205,73,769),
  (206,73,770),
  (207,73,776),
  (209,78,771),
  (210,79,768),
  (211,79,769),
  (212,79,770),
  (213,79,771),
  (214,79,776),
  (217,85,768),
  (218,85,769),
  (219,85,770),
  (220,85,776),
  (221,89,769),
  (224,97,768),
  (225,97,769),
  (226,97,770),
  (227,97,771),
  (228,97,776),
  (229,97,778),
  (231,99,807),
  (232,101,768),
  (233,101,769),
  (234,101,770),
  (235,101,776),
  (236,105,768),
  (237,105,769),
  (238,105,770),
  (239,105,776),
  (241,110,771),
  (242,111,768),
  (243,111,769),
  (244,111,770),
  (245,111,771),
  (246,111,776),
  (249,117,768),
  (250,117,769),
  (251,117,770),
  (252,117,776),
  (253,121,769),
  (255,121,776),
  (376,89,776),
  (469,220,772),
  (470,252,772),
  (902,913,769),
  (904,917,769),
  (905,919,769),
  (906,921,769),
  (908,927,769),
  (910,933,769),
  (911,937,769),
  (940,945,769),
  (941,949,769),
  (942,951,769),
  (943,953,769),
  (972,959,769),
  (973,965,769),
  (974,969,769),
  (1025,1045,776),
  (1049,1048,774),
  (1081,1080,774),
  (1105,1077,776),
  (7776,83,775),
  (7777,115,775),
  (7778,83,803),
  (7779,115,803),
  (7784,7778,775),
  (7785,7779,775)]
def cI(x:Rw):List Value:=[.int .i32 x.1,.int .i32 x.2.1,.int .u8 x.2.2.1,.int .u8 x.2.2.2.1,.int .u8 x.2.2.2.2.1,.int .u8 x.2.2.2.2.2.1,.bool x.2.2.2.2.2.2.1,.int .u8 x.2.2.2.2.2.2.2]
def fc(x:Tri):List Value:=[.int .i32 x.1,.int .i32 x.2.1,.int .i32 x.2.2]
def aZ(l:List Rw):List Value:=l.flatMap cI
def dB(l:List Tri):List Value:=l.flatMap fc
def eJ(P:Program):List Oper->Act->Option Act
 | [],a=>some a
 | o::rest,a =>
  match o.guard,o.op with
  | none,.build t parts =>
   match P.built t (parts.map fun(i,x)=>(i,a.eval x)).toList with
   | some cells=>eJ P rest (a.put o.dst (.agg cells))
   | none=>none
  | _,_=>none
theorem jt{P:Program}{ops:Array Oper}{Q:Exit->Act->World->Prop}{w:World}{rest:List Oper}:∀(bs:List Oper) (a a':Act),eJ P bs a=some a'->wpList P ops Q rest a' w->wpList P ops Q (bs++rest) a w
 | [],a,a',h,hk=>by simp only[eJ,Option.some.injEq]at h;subst h;exact hk
 | o::bs,a,a',h,hk=>by
  unfold eJ at h;split at h
  ·rename_i t parts hg ho;split at h
   ·rename_i cells hc;refine wpList_build hg t parts ho (by rw[hc];rfl) ?_;rw[hc];exact jt bs _ a' h hk
   ·cases h
  ·cases h
theorem cm{P:Program}{ops:Array Oper}{Q:Exit->Act->World->Prop}{a:Act}{w:World}{l:List Oper}(n:Nat)(x y:Operand)(vx vy:Value)
  (hb:(eJ P (l.take n) a).map (fun a'=>(a'.eval x,a'.eval y,a'.defers))=some (vx,vy,a.defers))
  (h:∀ a',a'.eval x=vx->a'.eval y=vy->a'.defers=a.defers->wpList P ops Q (l.drop n) a' w):wpList P ops Q l a w:=by
 cases hr:eJ P (l.take n) a with
 | none=>rw[hr]at hb;cases hb
 | some a' =>
  rw[hr]at hb;simp only[Option.map_some,Option.some.injEq,Prod.mk.injEq]at hb;have:=jt (P:=P) (ops:=ops) (Q:=Q) (w:=w) (rest:=l.drop n) (l.take n) a a' hr (h a' hb.1 hb.2.1 hb.2.2)
  rwa [take_append_drop]at this
theorem aX{P:Program}{ops:Array Oper}{Q:Exit->Act->World->Prop}{a:Act}{w:World}{rest:List Oper}{o:Oper}(hg:o.guard=none)(ty:TypeId)(ho:o.op=.alloc ty)(z:Array Value)
  (hz:∀ w,(zeroValue ty).run P w=.ok (.agg z) w)
  (h:wpList P ops Q rest (a.put o.dst (.pointer (some ⟨w.heap.size,0,none⟩))) (w.alloc (.cells z ty))):wpList P ops Q (o::rest) a w:=by
 refine wpList_plain hg fun K hK=>?_;unfold Oper.wp execOp;simp only[ho];simp[Instr.alloc,hz,go_sem];exact hK _ _ h
theorem BD(w:World):
  Calls prog 323 #[] w fun e W'=>e=.returned (.agg (aZ fq).toArray)/\Below w.heap.size w W':=by
 obtain⟨z,hz,hzs⟩:∃ z:Array Value,(∀ w,(zeroValue 301).run prog w=.ok (.agg z) w)/\z.size=152:=by
  refine⟨(aZ (List.replicate 19 (0,0,0,0,0,0,false,0))).toArray,?_,?_⟩
  ·exact(zero_of_info (P:=prog) (t:=301) (n:=152) (by kernel_rfl)).1
  ·kernel_rfl
 have hi:(prog.info? 301).map (·.size)=some (aZ fq).toArray.size:=by kernel_rfl
 have hi2:(aZ fq).toArray.size=152:=by kernel_rfl
 have h1:(aZ fq).toArray.all (·.oneCell')=true:=by kernel_rfl
 go_enter func323,ntmps323;refine wp_seq (wp_region_lit ?_);refine aX rfl 301 rfl z hz (wpList_nil ?_);refine wp_seq (wp_region_lit ?_);refine cm 20 (.tmp 0) (.tmp 20) (.pointer (some ⟨w.heap.size,0,none⟩)) (.agg (aZ fq).toArray) (by kernel_rfl) ?_;intro a' h0 h20 hd;refine wpList_store_row rfl 301 (.tmp 0) (.tmp 20) rfl w.heap.size _ h0 h20 301 z (heap_alloc_last w _) hi (by rw[hzs,hi2]) h1 (wpList_nil ?_);rw[setRow_alloc_new];refine wp_ret ?_;exact bodyPost_ret (results_cell_row results323 _ _ w.heap.size 301 (aZ fq).toArray (0,0) _ h0 (heap_alloc_last w _) underlying301 rfl hi) hd ⟨rfl,(Below.refl _ w).alloc (le_refl _) _⟩
theorem BU(w:World):
  Calls prog 325 #[] w fun e W'=>e=.returned (.agg (aZ eW).toArray)/\Below w.heap.size w W':=by
 obtain⟨z,hz,hzs⟩:∃ z:Array Value,(∀ w,(zeroValue 305).run prog w=.ok (.agg z) w)/\z.size=192:=by
  refine⟨(aZ (List.replicate 24 (0,0,0,0,0,0,false,0))).toArray,?_,?_⟩
  ·exact(zero_of_info (P:=prog) (t:=305) (n:=192) (by kernel_rfl)).1
  ·kernel_rfl
 have hi:(prog.info? 305).map (·.size)=some (aZ eW).toArray.size:=by kernel_rfl
 have hi2:(aZ eW).toArray.size=192:=by kernel_rfl
 have h1:(aZ eW).toArray.all (·.oneCell')=true:=by kernel_rfl
 go_enter func325,ntmps325;refine wp_seq (wp_region_lit ?_);refine aX rfl 305 rfl z hz (wpList_nil ?_);refine wp_seq (wp_region_lit ?_);refine cm 25 (.tmp 0) (.tmp 25) (.pointer (some ⟨w.heap.size,0,none⟩)) (.agg (aZ eW).toArray) (by kernel_rfl) ?_;intro a' h0 h20 hd;refine wpList_store_row rfl 305 (.tmp 0) (.tmp 25) rfl w.heap.size _ h0 h20 305 z (heap_alloc_last w _) hi (by rw[hzs,hi2]) h1 (wpList_nil ?_);rw[setRow_alloc_new];refine wp_ret ?_;exact bodyPost_ret (results_cell_row results325 _ _ w.heap.size 305 (aZ eW).toArray (0,0) _ h0 (heap_alloc_last w _) underlying305 rfl hi) hd ⟨rfl,(Below.refl _ w).alloc (le_refl _) _⟩
theorem xS(w:World):
  Calls prog 326 #[] w fun e W'=>e=.returned (.agg (aZ df).toArray)/\Below w.heap.size w W':=by
 obtain⟨z,hz,hzs⟩:∃ z:Array Value,(∀ w,(zeroValue 307).run prog w=.ok (.agg z) w)/\z.size=120:=by
  refine⟨(aZ (List.replicate 15 (0,0,0,0,0,0,false,0))).toArray,?_,?_⟩
  ·exact(zero_of_info (P:=prog) (t:=307) (n:=120) (by kernel_rfl)).1
  ·kernel_rfl
 have hi:(prog.info? 307).map (·.size)=some (aZ df).toArray.size:=by kernel_rfl
 have hi2:(aZ df).toArray.size=120:=by kernel_rfl
 have h1:(aZ df).toArray.all (·.oneCell')=true:=by kernel_rfl
 go_enter func326,ntmps326;refine wp_seq (wp_region_lit ?_);refine aX rfl 307 rfl z hz (wpList_nil ?_);refine wp_seq (wp_region_lit ?_);refine cm 16 (.tmp 0) (.tmp 16) (.pointer (some ⟨w.heap.size,0,none⟩)) (.agg (aZ df).toArray) (by kernel_rfl) ?_;intro a' h0 h20 hd;refine wpList_store_row rfl 307 (.tmp 0) (.tmp 16) rfl w.heap.size _ h0 h20 307 z (heap_alloc_last w _) hi (by rw[hzs,hi2]) h1 (wpList_nil ?_);rw[setRow_alloc_new];refine wp_ret ?_;exact bodyPost_ret (results_cell_row results326 _ _ w.heap.size 307 (aZ df).toArray (0,0) _ h0 (heap_alloc_last w _) underlying307 rfl hi) hd ⟨rfl,(Below.refl _ w).alloc (le_refl _) _⟩
theorem BE(w:World):
  Calls prog 327 #[] w fun e W'=>e=.returned (.agg (aZ later).toArray)/\Below w.heap.size w W':=by
 obtain⟨z,hz,hzs⟩:∃ z:Array Value,(∀ w,(zeroValue 309).run prog w=.ok (.agg z) w)/\z.size=240:=by
  refine⟨(aZ (List.replicate 30 (0,0,0,0,0,0,false,0))).toArray,?_,?_⟩
  ·exact(zero_of_info (P:=prog) (t:=309) (n:=240) (by kernel_rfl)).1
  ·kernel_rfl
 have hi:(prog.info? 309).map (·.size)=some (aZ later).toArray.size:=by kernel_rfl
 have hi2:(aZ later).toArray.size=240:=by kernel_rfl
 have h1:(aZ later).toArray.all (·.oneCell')=true:=by kernel_rfl
 go_enter func327,ntmps327;refine wp_seq (wp_region_lit ?_);refine aX rfl 309 rfl z hz (wpList_nil ?_);refine wp_seq (wp_region_lit ?_);refine cm 31 (.tmp 0) (.tmp 31) (.pointer (some ⟨w.heap.size,0,none⟩)) (.agg (aZ later).toArray) (by kernel_rfl) ?_;intro a' h0 h20 hd;refine wpList_store_row rfl 309 (.tmp 0) (.tmp 31) rfl w.heap.size _ h0 h20 309 z (heap_alloc_last w _) hi (by rw[hzs,hi2]) h1 (wpList_nil ?_);rw[setRow_alloc_new];refine wp_ret ?_;exact bodyPost_ret (results_cell_row results327 _ _ w.heap.size 309 (aZ later).toArray (0,0) _ h0 (heap_alloc_last w _) underlying309 rfl hi) hd ⟨rfl,(Below.refl _ w).alloc (le_refl _) _⟩
theorem zh(w:World):
  Calls prog 361 #[] w fun e W'=>e=.returned (.agg (dB prs).toArray)/\Below w.heap.size w W':=by
 obtain⟨z,hz,hzs⟩:∃ z:Array Value,(∀ w,(zeroValue 330).run prog w=.ok (.agg z) w)/\z.size=240:=by
  refine⟨(dB (List.replicate 80 (0,0,0))).toArray,?_,?_⟩
  ·exact(zero_of_info (P:=prog) (t:=330) (n:=240) (by kernel_rfl)).1
  ·kernel_rfl
 have hi:(prog.info? 330).map (·.size)=some (dB prs).toArray.size:=by kernel_rfl
 have hi2:(dB prs).toArray.size=240:=by kernel_rfl
 have h1:(dB prs).toArray.all (·.oneCell')=true:=by kernel_rfl
 go_enter func361,ntmps361;refine wp_seq (wp_region_lit ?_);refine aX rfl 330 rfl z hz (wpList_nil ?_);refine wp_seq (wp_region_lit ?_);refine cm 81 (.tmp 0) (.tmp 81) (.pointer (some ⟨w.heap.size,0,none⟩)) (.agg (dB prs).toArray) (by kernel_rfl) ?_;intro a' h0 h20 hd;refine wpList_store_row rfl 330 (.tmp 0) (.tmp 81) rfl w.heap.size _ h0 h20 330 z (heap_alloc_last w _) hi (by rw[hzs,hi2]) h1 (wpList_nil ?_);rw[setRow_alloc_new];refine wp_ret ?_;exact bodyPost_ret (results_cell_row results361 _ _ w.heap.size 330 (dB prs).toArray (0,0) _ h0 (heap_alloc_last w _) underlying330 rfl hi) hd ⟨rfl,(Below.refl _ w).alloc (le_refl _) _⟩
end D
end Go.Proofs.YtlmflmdmolcfhaaGreatDoor
namespace Go.Proofs
open Go.Shelf Go.RowKit Go.Lib Go.Sort
shelf_lay SlLaysO.n16 Slso 16 at Tryz as Tryz.search
end Go.Proofs
namespace Go.Proofs.YtlmflmdmolcfhaaGreatDoor
open Tryz Go.RowKit
namespace D
open Go.RowKit Go.Lib Go.Sort Go.Shelf
theorem hid'{p:Prop}(h:p):Hid p:=h
theorem below_drewN{B:Nat}{a w:World}(h:Below B a w)(n:Nat):Below B a (w.drewN n):=⟨h.os,h.tape,h.output,h.size,h.block⟩
def zr:Rw:=(0,0,0,0,0,0,false,0)
def gl(r:Int)(x:Rw):Bool:=decide (x.1<=r/\r<=x.2.1)
def bV(d:List Rw)(r:Int):Rw:=(d.find? (gl r)).getD zr
def rising:List Rw->Bool
 | []=>true
 | [x]=>decide (x.1<=x.2.1)
 | x::y::l=>decide (x.1<=x.2.1)&&decide (x.2.1<y.1)&&rising (y::l)
theorem ir{x:Rw}{l:List Rw}(h:rising (x::l)=true):rising l=true:=by
 cases l with
 | nil=>rfl
 | cons y l=>simp only[rising,and_eq_true]at h;exact h.2
theorem jH:∀ {x:Rw} {l:List Rw},rising (x::l)=true->∀ y∈l,x.2.1<y.1/\y.1<=y.2.1
 | x,[],_,y,hy=>by simp at hy
 | x,z::l,h,y,hy=>by
  have ht:=ir h;simp only[rising,and_eq_true,decide_eq_true_eq]at h
  have hz:z.1<=z.2.1:=by
   cases l with
   | nil=>simpa[rising]using ht
   | cons u l=>simp only[rising,and_eq_true,decide_eq_true_eq]at ht;exact ht.1.1
  rcases List.mem_cons.1 hy with rfl | hy
  ·exact⟨h.1.2,hz⟩
  ·have:=jH ht y hy;exact⟨by have:=h.1.2;omega,this.2⟩
def ahead(d:List Rw)(r:Int):Nat:=d.countP (fun x=>!decide (r<=x.2.1))
theorem Jc(d:List Rw)(r:Int):ahead d r<=d.length:=List.countP_le_length
theorem zl:∀(d:List Rw) (r:Int),rising d=true ->
  bV d r=if h:ahead d r<d.length then (if r<(d[ahead d r]).1 then zr else d[ahead d r]) else zr
 | [],r,_=>by simp[bV,ahead]
 | x::l,r,h=>by
  have ht:=ir h;have ha:=jH h;by_cases hx:r<=x.2.1
  ·have h0:ahead (x::l) r=0:=by
    unfold ahead;rw[List.countP_eq_zero];intro y hy;rcases List.mem_cons.1 hy with rfl | hy
    ·simpa using hx
    ·have:=ha y hy;have:r<=y.2.1:=by omega
     simpa using this
   have hl:ahead (x::l) r<(x::l).length:=by rw[h0];simp
   rw[dif_pos hl];have he:(x::l)[ahead (x::l) r]=x:=by simp[h0]
   rw[he];by_cases hlo:r<x.1
   ·rw[if_pos hlo]
    have:(x::l).find? (gl r)=none:=by
     rw[find?_eq_none];intro y hy;rcases List.mem_cons.1 hy with rfl | hy
     ·simp[gl];omega
     ·have:=ha y hy;simp[gl];omega
    unfold bV;rw[this];rfl
   ·rw[if_neg hlo];unfold bV;rw[List.find?_cons_of_pos (by simp[gl];omega)];rfl
  ·have h1:ahead (x::l) r=ahead l r+1:=by unfold ahead;rw[List.countP_cons_of_pos (by simpa using hx)]
   have hp:bV (x::l) r=bV l r:=by unfold bV;rw[List.find?_cons_of_neg (by simp[gl];omega)]
   rw[hp,zl l r ht];by_cases hl:ahead l r<l.length
   ·have hl':ahead (x::l) r<(x::l).length:=by rw[h1];simpa using hl
    have he:(x::l)[ahead (x::l) r]=l[ahead l r]:=by simp[h1]
    rw[dif_pos hl,dif_pos hl',he]
   ·rw[dif_neg hl,dif_neg (by rw[h1];simpa using hl)]
theorem BY(l:List Rw):∀ j i,j<l.length->i<8->(aZ l)[j * 8+i]? = (cI (l[j]?.getD zr))[i]? := by
 induction l with
 | nil=>intro j i hj;simp at hj
 | cons s l ih =>
  intro j i hj hi;have e:aZ (s::l)=cI s++aZ l:=rfl;have hl8:(cI s).length=8:=rfl;rcases j with _ | j
  ·rw[e,List.getElem?_append_left (by omega)];simp
  ·have h:=ih j i (by simpa using hj) hi;rw[e,List.getElem?_append_right (by omega),hl8,show(j+1) * 8+i - 8=j * 8+i by omega,h];simp
def RowsIn(w:World)(b:Nat)(d:List Rw):Prop:=∃ t,w.heap[b]? = some (.cells (aZ d).toArray t)
theorem RowsIn.cell{w:World}{b:Nat}{d:List Rw}(h:RowsIn w b d)(j i:Nat)(hj:j<d.length)(hi:i<8):w.cell? ⟨b,j * 8+i,none⟩=(cI (d[j]?.getD zr))[i]? := by obtain⟨t,h⟩:=h;rw[cell_of_row w b _ _ t (0,0) h,<-BY d j i hj hi];simp
theorem RowsIn.below{A B:World}{n:Nat}{b:Nat}{d:List Rw}(h:RowsIn A b d)(hb:Below n A B)(hn:b<n):RowsIn B b d:=by obtain⟨t,h⟩:=h;exact⟨t,(hb.block b hn).trans h⟩
theorem yw(bl br blk cap i:Nat)(d:List Rw)(r:Int)(W:World)(hi:i<d.length)(hlen:d.length<=1000)
  (hl:W.cell? ⟨bl,0,none⟩=some (.slice (some ⟨blk,0,none⟩) d.length cap)) (hr:W.cell? ⟨br,0,none⟩=some (.int .i32 r)) (hc:W.cell? ⟨blk,i * 8+1,none⟩=some (.int .i32 (d[i]?.getD zr).2.1)) :
  Calls prog 360 (#[.int .i64 i]++#[.pointer (some ⟨br,0,none⟩),.pointer (some ⟨bl,0,none⟩)]) W fun e w'=>e=.returned (.bool (decide (r<=(d[i]?.getD zr).2.1)))/\∃ q,w'=W.drewN q:=by
 generalize (d[i]?.getD zr).2.1=y at hc ⊢;have hiz:(i:Int)<(d.length:Int):=by omega
 go_enter func360,ntmps360;go_wp2
 go_region
 all_goals go_wp2
 all_goals go_ret
 all_goals exact⟨by first | rfl | simp,1,rfl⟩
theorem dz{B:Nat}{w w1:World}{g:Nat}{cs:Array Value}(h:Below B w w1)(hg:B<=g):Below B w (w1.setRow g cs) :=
 ⟨h.os,h.tape,h.output,by have:=h.size;simpa using this,fun i hi=>by rw[setRow_other w1 g i cs (by omega)];exact h.block i hi⟩
theorem Lu{d:List Rw}{r:Int}(hd:rising d=true){a b:Nat}(hab:a<=b)(hb:b<d.length)(h:decide (r<=(d[a]?.getD zr).2.1)=true):decide (r<=(d[b]?.getD zr).2.1)=true:=by
 induction d generalizing a b with
 | nil=>simp at hb
 | cons x l ih =>
  have ht:=ir hd;rcases b with _ | b
  ·obtain rfl:a=0:=by omega
   exact h
  ·rcases a with _ | a
   ·have hb':b<l.length:=by simpa using hb
    have:=jH hd (l[b]) (getElem_mem hb');simp only[List.getElem?_cons_zero,getD_some,decide_eq_true_eq,List.getElem?_cons_succ,getElem?_eq_getElem hb']at h ⊢;omega
   ·simp only[List.getElem?_cons_succ]at h ⊢;exact ih ht (by omega) (by simpa using hb) h
theorem sP(d:List Rw)(r:Int):(List.range d.length).countP (fun i=>!decide (r<=(d[i]?.getD zr).2.1))=ahead d r:=by
 have:(List.range d.length).map (fun i=>d[i]?.getD zr)=d:=by
  apply List.ext_getElem
  ·simp
  ·intro i h1 h2;simp[getElem?_eq_getElem h2]
 unfold ahead
 conv=>rhs;rw[<-this,List.countP_map]
 rfl
theorem jm(blk cap:Nat)(d:List Rw)(r:Int)(w:World)(hlen:d.length<=1000)(hd:rising d=true)(hR:RowsIn w blk d):
  Calls prog 324 #[.slice (some ⟨blk,0,none⟩) d.length cap,.int .i32 r] w fun e W'=>e=.returned (.agg (cI (bV d r)).toArray)/\Below w.heap.size w W':=by
 have hblk:blk<w.heap.size:=by obtain⟨t,h⟩:=hR;exact(Array.getElem?_eq_some_iff.1 h).1
 obtain⟨z,hz⟩:∃ z:Array Value,z=#[.int .i32 0,.int .i32 0,.int .u8 0,.int .u8 0,.int .u8 0,.int .u8 0,.bool false,.int .u8 0]:=⟨_,rfl⟩;obtain⟨W0,hW0⟩:∃ W0,W0=((w.alloc (.cells #[.slice (some ⟨blk,0,none⟩) d.length cap] 304)).alloc (.cells #[.int .i32 r] 21)).alloc (.cells #[.int .i32 0,.int .i32 0,.int .u8 0,.int .u8 0,.int .u8 0,.int .u8 0,.bool false,.int .u8 0] 276):=⟨_,rfl⟩;have hsize:W0.heap.size=w.heap.size+1+1+1:=by rw[hW0];simp
 have ca:W0.cell? ⟨w.heap.size,0,none⟩=some (.slice (some ⟨blk,0,none⟩) d.length cap):=by rw[hW0];exact cell_alloc_sl _ (cell_alloc_sl _ (cell_new_sl w _ _))
 have cx:W0.cell? ⟨w.heap.size+1,0,none⟩=some (.int .i32 r):=by rw[hW0];have:=cell_new_sl (w.alloc (.cells #[.slice (some ⟨blk,0,none⟩) d.length cap] 304)) (.int .i32 r) 21;rw[World.size_alloc]at this;exact cell_alloc_sl _ this
 have hB0:Below w.heap.size w W0:=by rw[hW0];exact(((Below.refl _ w).alloc (le_refl _) _).alloc (by simp) _).alloc (by simp;omega) _
 have hR0:=hR.below hB0 hblk;have cz:W0.heap[w.heap.size+2]? = some (.cells z 276):=by rw[hW0,hz];have:=heap_alloc_last ((w.alloc (.cells #[.slice (some ⟨blk,0,none⟩) d.length cap] 304)).alloc (.cells #[.int .i32 r] 21)) (.cells #[.int .i32 0,.int .i32 0,.int .u8 0,.int .u8 0,.int .u8 0,.int .u8 0,.bool false,.int .u8 0] 276);simpa using this
 have eg:∀ args w,(callFunc 360 args).run prog w=.ok (.enter 360 args) w:=enters_of func360 (by kernel_rfl) rfl
 have hS:=Any.sort_Search Tryz.search 360 #[.pointer (some ⟨w.heap.size+1,0,none⟩),.pointer (some ⟨w.heap.size,0,none⟩)] d.length (fun i=>decide (r<=(d[i]?.getD zr).2.1)) W0 eg (by omega)
  (fun m os i hi=>(yw w.heap.size (w.heap.size+1) blk cap i d r _ hi hlen (cell_grown (by simp[hsize];omega) ca m os) (cell_grown (by simp[hsize]) cx m os) (cell_grown (by simp[hsize];omega) ((hR0.cell i 1 hi (by omega)).trans rfl) m os)).mono
    fun _ _ ⟨he,q,hq⟩=>⟨he,q,#[],by rw[hq,grow_empty]⟩) (fun a b hab hb h=>Lu hd hab hb h)
 rw[sP]at hS;change Calls prog 359 _ _ _ at hS;have hpk:=zl d r hd;obtain⟨A,hA⟩:∃ A,A=ahead d r:=⟨_,rfl⟩;have hA1:A<=d.length:=by rw[hA];exact Jc d r
 rw[<-hA]at hS;have HS:=hid' hS;have HA:=hid' hA;clear hS hA hR;go_enter func324,ntmps324;go_wp2_with fail;rw[<-hW0];refine HS.out.mono ?_;rintro e w1 ⟨rfl,q,os,hw1⟩;have hB1:Below W0.heap.size W0 w1:=by rw[hw1];exact below_grown_sl _ W0 q os (le_refl _)
 have ca1:w1.cell? ⟨w.heap.size,0,none⟩=some (.slice (some ⟨blk,0,none⟩) d.length cap):=by rw[hw1];exact cell_grown (by simp[hsize];omega) ca q os
 have cx1:w1.cell? ⟨w.heap.size+1,0,none⟩=some (.int .i32 r):=by rw[hw1];exact cell_grown (by simp[hsize]) cx q os
 have hR1:RowsIn w1 blk d:=hR0.below hB1 (by omega);have cz1:w1.heap[w.heap.size+2]? = some (.cells z 276):=(hB1.block _ (by omega)).trans cz;have hBw:Below w.heap.size w w1:=hB0.trans (hB1.mono (by omega));have hz8:z.size=8:=by rw[hz];rfl
 have HZ:=hid' hz8;have HCZ:=hid' cz1;have HR1:=hid' hR1;have HB:=hid' hBw;have HP:=hid' hpk;have HI:Hid ((prog.info? 276).map (·.size)=some 8):=by show _=_;kernel_rfl
 have hfin:∀(cs:Array Value) (tm:Array Value) (n:Nat),tm.getD 4 undef=.pointer (some ⟨w.heap.size+2,0,none⟩)->cs.size=8->(results Tryz.f324 tm).run prog ((w1.drewN n).setRow (w.heap.size+2) cs)=.ok (.agg cs) ((w1.drewN n).setRow (w.heap.size+2) cs):=by intro cs tm n h1 h2;exact results_cell_row results324 tm _ (w.heap.size+2) 276 cs (0,0) _ h1 (setRow_heap (w1.drewN n) _ z cs 276 (0,0) HCZ.out) underlying276 rfl (by rw[h2];exact HI.out)
 have HF:=hid' hfin;have hbl:∀(cs:Array Value) (n:Nat),Below w.heap.size w ((w1.drewN n).setRow (w.heap.size+2) cs):=by intro cs n;exact dz (below_drewN hBw n) (by omega)
 have HBL:=hid' hbl;clear hbl hfin hw1 ca cx hR0 cz eg HS hB1 hR1 hBw hpk hz8 hz cz1 hB0;by_cases hlt:A<d.length
 ·have hlt':(A:Int)<(d.length:Int):=by omega
  have hne:((A:Int)==(d.length:Int))=false:=by simp;omega
  obtain⟨x,hx⟩:∃ x,x=d[A]?.getD zr:=⟨_,rfl⟩;have hcells:=fun j hj=>HR1.out.cell A j hlt hj;rw[<-hx]at hcells
  have HP2:Hid (bV d r=if r<x.1 then zr else x):=by
   have e:ahead d r=A:=HA.out.symm;have:=HP.out;simp only[e]at this;rw[dif_pos hlt]at this;have e2:d[A]=x:=by rw[hx,getElem?_eq_getElem hlt];rfl
   rw[e2]at this;exact this
  obtain⟨x0,x1,x2,x3,x4,x5,x6,x7⟩:=x;have c0:w1.cell? ⟨blk,A * 8,none⟩=some (.int .i32 x0):=hcells 0 (by omega);have c1:w1.cell? ⟨blk,A * 8+1,none⟩=some (.int .i32 x1):=hcells 1 (by omega);have c2:w1.cell? ⟨blk,A * 8+2,none⟩=some (.int .u8 x2):=hcells 2 (by omega);have c3:w1.cell? ⟨blk,A * 8+3,none⟩=some (.int .u8 x3):=hcells 3 (by omega);have c4:w1.cell? ⟨blk,A * 8+4,none⟩=some (.int .u8 x4):=hcells 4 (by omega);have c5:w1.cell? ⟨blk,A * 8+5,none⟩=some (.int .u8 x5):=hcells 5 (by omega);have c6:w1.cell? ⟨blk,A * 8+6,none⟩=some (.bool x6):=hcells 6 (by omega);have c7:w1.cell? ⟨blk,A * 8+7,none⟩=some (.int .u8 x7):=hcells 7 (by omega);clear hcells hx HP HA HR1;by_cases hlo:r<x0
  ·have hlob:decide (r<x0)=true:=by simpa using hlo
   have HG:Hid (bV d r=zr):=by show _=_;rw[HP2.out,if_pos hlo]
   clear HP2;go_wp2_with fail
   go_quiet (fail)
   go_wp2_with((refine wpList_store_row rfl 276 (.tmp 4) (.tmp 23) rfl (w.heap.size+1+1) #[.int .i32 0,.int .i32 0,.int .u8 0,.int .u8 0,.int .u8 0,.int .u8 0,.bool false,.int .u8 0] rfl rfl 276 z (by exact HCZ.out) (by exact HI.out) (by exact HZ.out) (by kernel_rfl) (wpList_nil ?_)));refine bodyPost_ret (HF.out _ _ _ rfl rfl) rfl ⟨by rw[HG.out];rfl,HBL.out _ _⟩
  ·have hlob:decide (r<x0)=false:=by simpa using hlo
   have HG:Hid (bV d r=(x0,x1,x2,x3,x4,x5,x6,x7)):=by show _=_;rw[HP2.out,if_neg hlo]
   clear HP2;go_wp2_with fail
   go_quiet (fail)
   go_wp2_with((refine wpList_store_row rfl 276 (.tmp 4) (.tmp 27) rfl (w.heap.size+1+1) #[.int .i32 x0,.int .i32 x1,.int .u8 x2,.int .u8 x3,.int .u8 x4,.int .u8 x5,.bool x6,.int .u8 x7] rfl rfl 276 z (by exact HCZ.out) (by exact HI.out) (by exact HZ.out) (by kernel_rfl) (wpList_nil ?_)));refine bodyPost_ret (HF.out _ _ _ rfl rfl) rfl ⟨by rw[HG.out];rfl,HBL.out _ _⟩
 ·have hnl:¬ (A:Int)<(d.length:Int):=by omega
  have hne:((A:Int)==(d.length:Int))=true:=by simp;omega
  have HG:Hid (bV d r=zr):=by have e:ahead d r=A:=HA.out.symm;have:=HP.out;simp only[e]at this;rw[dif_neg hlt]at this;exact this
  clear HP HA HR1;go_wp2_with fail
  go_quiet (fail)
  go_wp2_with((refine wpList_store_row rfl 276 (.tmp 4) (.tmp 23) rfl (w.heap.size+1+1) #[.int .i32 0,.int .i32 0,.int .u8 0,.int .u8 0,.int .u8 0,.int .u8 0,.bool false,.int .u8 0] rfl rfl 276 z (by exact HCZ.out) (by exact HI.out) (by exact HZ.out) (by kernel_rfl) (wpList_nil ?_)));refine bodyPost_ret (HF.out _ _ _ rfl rfl) rfl ⟨by rw[HG.out];rfl,HBL.out _ _⟩
def fnd(r:Int):Rw:=if r<768 then bV fq r else if r<1424 then bV eW r else if r<7680 then bV df r else bV later r
theorem rL:rising fq=true:=by decide
theorem rN:rising eW=true:=by decide
theorem pF:rising df=true:=by decide
theorem rM:rising later=true:=by decide
theorem JX(g:Nat)(W:World):(Instr.sliceAt 301 (.pointer (some ⟨g,0,none⟩)) none none none).run prog W=.ok (.slice (some ⟨g,0,none⟩) 19 19) W:=by
 have hl:prog.arrayLen 301=19:=by kernel_rfl
 rw[run_sliceAt_array_all W 301 ⟨g,0,none⟩ (by kernel_rfl),hl];have hs:(sizeOf (prog.elem 301)).run prog W=.ok 8 W:=by kernel_rfl
 rw[hs];simp only[Result.andThen,slicedAt];rfl
theorem JW(g:Nat)(W:World):(Instr.sliceAt 305 (.pointer (some ⟨g,0,none⟩)) none none none).run prog W=.ok (.slice (some ⟨g,0,none⟩) 24 24) W:=by
 have hl:prog.arrayLen 305=24:=by kernel_rfl
 rw[run_sliceAt_array_all W 305 ⟨g,0,none⟩ (by kernel_rfl),hl];have hs:(sizeOf (prog.elem 305)).run prog W=.ok 8 W:=by kernel_rfl
 rw[hs];simp only[Result.andThen,slicedAt];rfl
theorem JV(g:Nat)(W:World):(Instr.sliceAt 307 (.pointer (some ⟨g,0,none⟩)) none none none).run prog W=.ok (.slice (some ⟨g,0,none⟩) 15 15) W:=by
 have hl:prog.arrayLen 307=15:=by kernel_rfl
 rw[run_sliceAt_array_all W 307 ⟨g,0,none⟩ (by kernel_rfl),hl];have hs:(sizeOf (prog.elem 307)).run prog W=.ok 8 W:=by kernel_rfl
 rw[hs];simp only[Result.andThen,slicedAt];rfl
theorem JU(g:Nat)(W:World):(Instr.sliceAt 309 (.pointer (some ⟨g,0,none⟩)) none none none).run prog W=.ok (.slice (some ⟨g,0,none⟩) 30 30) W:=by
 have hl:prog.arrayLen 309=30:=by kernel_rfl
 rw[run_sliceAt_array_all W 309 ⟨g,0,none⟩ (by kernel_rfl),hl];have hs:(sizeOf (prog.elem 309)).run prog W=.ok 8 W:=by kernel_rfl
 rw[hs];simp only[Result.andThen,slicedAt];rfl
theorem gu(r:Int)(w:World):
  Calls prog 304 #[.int .i32 r] w fun e W'=>e=.returned (.agg (cI (fnd r)).toArray)/\Below w.heap.size w W':=by
 obtain⟨F,hF⟩:∃ F,F=fnd r:=⟨_,rfl⟩;have HF:=hid' hF;rw[<-hF];clear hF;have HI:Hid ((prog.info? 276).map (·.size)=some 8):=by show _=_;kernel_rfl
 by_cases h1:r<768
 ·have h1b:decide (r<768)=true:=by simpa using h1
  have HP:Hid (F=bV fq r):=by show _=_;rw[HF.out];unfold fnd;rw[if_pos h1]
  clear HF
  obtain⟨z,hz,hzs⟩:∃ z:Array Value,(∀ w,(zeroValue 301).run prog w=.ok (.agg z) w)/\z.size=152:=by
   refine⟨(aZ (List.replicate 19 (0,0,0,0,0,0,false,0))).toArray,?_,?_⟩
   ·exact(zero_of_info (P:=prog) (t:=301) (n:=152) (by kernel_rfl)).1
   ·kernel_rfl
  obtain⟨c,hc⟩:∃ c:Array Value,c=(aZ fq).toArray:=⟨_,rfl⟩;have HC:=hid' hc;have HCI:Hid ((prog.info? 301).map (·.size)=some c.size):=by show _=_;rw[hc];kernel_rfl
  have HCS:Hid (z.size=c.size):=by show _=_;rw[hzs,hc];kernel_rfl
  have HCO:Hid (c.all (·.oneCell')=true):=by show _=_;rw[hc];kernel_rfl
  have hcall:=BD;rw[<-hc]at hcall;have HCALL:=hid' hcall;have hsl:=JX;clear hc hzs hcall;go_enter func304,ntmps304;go_wp2_with fail;refine(HCALL.out _).mono ?_;rintro e w1 ⟨rfl,hB1⟩;have hcell1:w1.heap[w.heap.size]? = some (.cells #[.int .i32 0,.int .i32 0,.int .u8 0,.int .u8 0,.int .u8 0,.int .u8 0,.bool false,.int .u8 0] 276):=by rw[hB1.block _ (by simp)];exact heap_alloc_last w _
  have hBw:Below w.heap.size w w1:=((Below.refl _ w).alloc (le_refl _) _).trans (hB1.mono (by simp));have hsz1:w.heap.size+1<=w1.heap.size:=by have:=hB1.size;simpa using this
  have HCELL:=hid' hcell1;have HBW:=hid' hBw;clear hcell1 hBw hB1;go_wp2_with((refine wpList_store_row rfl 301 (.tmp 3) (.tmp 10) rfl w1.heap.size c rfl rfl 301 z (by exact heap_alloc_last w1 _) (by exact HCI.out) (by exact HCS.out) (by exact HCO.out) (wpList_nil ?_);rw[setRow_alloc_new]));refine(jm w1.heap.size 19 fq r _ (by decide) rL ⟨301,by rw[<-HC.out];exact heap_alloc_last w1 _⟩).mono ?_;rw[<-HP.out];rintro e w2 ⟨rfl,hB2⟩;have hcell2:w2.heap[w.heap.size]? = some (.cells #[.int .i32 0,.int .i32 0,.int .u8 0,.int .u8 0,.int .u8 0,.int .u8 0,.bool false,.int .u8 0] 276):=by rw[hB2.block _ (by simp;omega),Below.heap_alloc _ _ _ (by omega)];exact HCELL.out
  have hBw2:Below w.heap.size w w2:=(HBW.out.alloc HBW.out.size _).trans (hB2.mono (by simp;omega));obtain⟨cs,hcs⟩:∃ cs:Array Value,cs=(cI F).toArray:=⟨_,rfl⟩;have HS8:Hid (cs.size=8):=by show _=_;rw[hcs];rfl
  have HO8:Hid (cs.all (·.oneCell')=true):=by show _=_;rw[hcs];kernel_rfl
  rw[<-hcs];have HCELL2:=hid' hcell2;have HEQ:=hid' hcs;have HBW2:=hid' hBw2;clear hcell2 hBw2 hcs hB2;go_wp2_with((refine wpList_store_row rfl 276 (.tmp 2) (.tmp 13) rfl w.heap.size cs rfl rfl 276 _ (by exact HCELL2.out) (by rw[HS8.out];exact HI.out) (by rw[HS8.out];rfl) (by exact HO8.out) (wpList_nil ?_)));exact bodyPost_ret (results_cell_row results304 _ _ w.heap.size 276 cs (0,0) _ rfl (setRow_heap _ _ _ cs 276 (0,0) HCELL2.out) underlying276 rfl (by rw[HS8.out];exact HI.out)) rfl ⟨by rw[HEQ.out],dz HBW2.out (le_refl _)⟩
 have h1b:decide (r<768)=false:=by simpa using h1
 by_cases h2:r<1424
 ·have h2b:decide (r<1424)=true:=by simpa using h2
  have HP:Hid (F=bV eW r):=by show _=_;rw[HF.out];unfold fnd;rw[if_neg h1,if_pos h2]
  clear HF
  obtain⟨z,hz,hzs⟩:∃ z:Array Value,(∀ w,(zeroValue 305).run prog w=.ok (.agg z) w)/\z.size=192:=by
   refine⟨(aZ (List.replicate 24 (0,0,0,0,0,0,false,0))).toArray,?_,?_⟩
   ·exact(zero_of_info (P:=prog) (t:=305) (n:=192) (by kernel_rfl)).1
   ·kernel_rfl
  obtain⟨c,hc⟩:∃ c:Array Value,c=(aZ eW).toArray:=⟨_,rfl⟩;have HC:=hid' hc;have HCI:Hid ((prog.info? 305).map (·.size)=some c.size):=by show _=_;rw[hc];kernel_rfl
  have HCS:Hid (z.size=c.size):=by show _=_;rw[hzs,hc];kernel_rfl
  have HCO:Hid (c.all (·.oneCell')=true):=by show _=_;rw[hc];kernel_rfl
  have hcall:=BU;rw[<-hc]at hcall;have HCALL:=hid' hcall;have hsl:=JW;clear hc hzs hcall;go_enter func304,ntmps304;go_wp2_with fail;refine(HCALL.out _).mono ?_;rintro e w1 ⟨rfl,hB1⟩;have hcell1:w1.heap[w.heap.size]? = some (.cells #[.int .i32 0,.int .i32 0,.int .u8 0,.int .u8 0,.int .u8 0,.int .u8 0,.bool false,.int .u8 0] 276):=by rw[hB1.block _ (by simp)];exact heap_alloc_last w _
  have hBw:Below w.heap.size w w1:=((Below.refl _ w).alloc (le_refl _) _).trans (hB1.mono (by simp));have hsz1:w.heap.size+1<=w1.heap.size:=by have:=hB1.size;simpa using this
  have HCELL:=hid' hcell1;have HBW:=hid' hBw;clear hcell1 hBw hB1;go_wp2_with((refine wpList_store_row rfl 305 (.tmp 4) (.tmp 17) rfl w1.heap.size c rfl rfl 305 z (by exact heap_alloc_last w1 _) (by exact HCI.out) (by exact HCS.out) (by exact HCO.out) (wpList_nil ?_);rw[setRow_alloc_new]));refine(jm w1.heap.size 24 eW r _ (by decide) rN ⟨305,by rw[<-HC.out];exact heap_alloc_last w1 _⟩).mono ?_;rw[<-HP.out];rintro e w2 ⟨rfl,hB2⟩;have hcell2:w2.heap[w.heap.size]? = some (.cells #[.int .i32 0,.int .i32 0,.int .u8 0,.int .u8 0,.int .u8 0,.int .u8 0,.bool false,.int .u8 0] 276):=by rw[hB2.block _ (by simp;omega),Below.heap_alloc _ _ _ (by omega)];exact HCELL.out
  have hBw2:Below w.heap.size w w2:=(HBW.out.alloc HBW.out.size _).trans (hB2.mono (by simp;omega));obtain⟨cs,hcs⟩:∃ cs:Array Value,cs=(cI F).toArray:=⟨_,rfl⟩;have HS8:Hid (cs.size=8):=by show _=_;rw[hcs];rfl
  have HO8:Hid (cs.all (·.oneCell')=true):=by show _=_;rw[hcs];kernel_rfl
  rw[<-hcs];have HCELL2:=hid' hcell2;have HEQ:=hid' hcs;have HBW2:=hid' hBw2;clear hcell2 hBw2 hcs hB2;go_wp2_with((refine wpList_store_row rfl 276 (.tmp 2) (.tmp 20) rfl w.heap.size cs rfl rfl 276 _ (by exact HCELL2.out) (by rw[HS8.out];exact HI.out) (by rw[HS8.out];rfl) (by exact HO8.out) (wpList_nil ?_)));exact bodyPost_ret (results_cell_row results304 _ _ w.heap.size 276 cs (0,0) _ rfl (setRow_heap _ _ _ cs 276 (0,0) HCELL2.out) underlying276 rfl (by rw[HS8.out];exact HI.out)) rfl ⟨by rw[HEQ.out],dz HBW2.out (le_refl _)⟩
 have h2b:decide (r<1424)=false:=by simpa using h2
 by_cases h3:r<7680
 ·have h3b:decide (r<7680)=true:=by simpa using h3
  have HP:Hid (F=bV df r):=by show _=_;rw[HF.out];unfold fnd;rw[if_neg h1,if_neg h2,if_pos h3]
  clear HF
  obtain⟨z,hz,hzs⟩:∃ z:Array Value,(∀ w,(zeroValue 307).run prog w=.ok (.agg z) w)/\z.size=120:=by
   refine⟨(aZ (List.replicate 15 (0,0,0,0,0,0,false,0))).toArray,?_,?_⟩
   ·exact(zero_of_info (P:=prog) (t:=307) (n:=120) (by kernel_rfl)).1
   ·kernel_rfl
  obtain⟨c,hc⟩:∃ c:Array Value,c=(aZ df).toArray:=⟨_,rfl⟩;have HC:=hid' hc;have HCI:Hid ((prog.info? 307).map (·.size)=some c.size):=by show _=_;rw[hc];kernel_rfl
  have HCS:Hid (z.size=c.size):=by show _=_;rw[hzs,hc];kernel_rfl
  have HCO:Hid (c.all (·.oneCell')=true):=by show _=_;rw[hc];kernel_rfl
  have hcall:=xS;rw[<-hc]at hcall;have HCALL:=hid' hcall;have hsl:=JV;clear hc hzs hcall;go_enter func304,ntmps304;go_wp2_with fail;refine(HCALL.out _).mono ?_;rintro e w1 ⟨rfl,hB1⟩;have hcell1:w1.heap[w.heap.size]? = some (.cells #[.int .i32 0,.int .i32 0,.int .u8 0,.int .u8 0,.int .u8 0,.int .u8 0,.bool false,.int .u8 0] 276):=by rw[hB1.block _ (by simp)];exact heap_alloc_last w _
  have hBw:Below w.heap.size w w1:=((Below.refl _ w).alloc (le_refl _) _).trans (hB1.mono (by simp));have hsz1:w.heap.size+1<=w1.heap.size:=by have:=hB1.size;simpa using this
  have HCELL:=hid' hcell1;have HBW:=hid' hBw;clear hcell1 hBw hB1;go_wp2_with((refine wpList_store_row rfl 307 (.tmp 5) (.tmp 24) rfl w1.heap.size c rfl rfl 307 z (by exact heap_alloc_last w1 _) (by exact HCI.out) (by exact HCS.out) (by exact HCO.out) (wpList_nil ?_);rw[setRow_alloc_new]));refine(jm w1.heap.size 15 df r _ (by decide) pF ⟨307,by rw[<-HC.out];exact heap_alloc_last w1 _⟩).mono ?_;rw[<-HP.out];rintro e w2 ⟨rfl,hB2⟩;have hcell2:w2.heap[w.heap.size]? = some (.cells #[.int .i32 0,.int .i32 0,.int .u8 0,.int .u8 0,.int .u8 0,.int .u8 0,.bool false,.int .u8 0] 276):=by rw[hB2.block _ (by simp;omega),Below.heap_alloc _ _ _ (by omega)];exact HCELL.out
  have hBw2:Below w.heap.size w w2:=(HBW.out.alloc HBW.out.size _).trans (hB2.mono (by simp;omega));obtain⟨cs,hcs⟩:∃ cs:Array Value,cs=(cI F).toArray:=⟨_,rfl⟩;have HS8:Hid (cs.size=8):=by show _=_;rw[hcs];rfl
  have HO8:Hid (cs.all (·.oneCell')=true):=by show _=_;rw[hcs];kernel_rfl
  rw[<-hcs];have HCELL2:=hid' hcell2;have HEQ:=hid' hcs;have HBW2:=hid' hBw2;clear hcell2 hBw2 hcs hB2;go_wp2_with((refine wpList_store_row rfl 276 (.tmp 2) (.tmp 27) rfl w.heap.size cs rfl rfl 276 _ (by exact HCELL2.out) (by rw[HS8.out];exact HI.out) (by rw[HS8.out];rfl) (by exact HO8.out) (wpList_nil ?_)));exact bodyPost_ret (results_cell_row results304 _ _ w.heap.size 276 cs (0,0) _ rfl (setRow_heap _ _ _ cs 276 (0,0) HCELL2.out) underlying276 rfl (by rw[HS8.out];exact HI.out)) rfl ⟨by rw[HEQ.out],dz HBW2.out (le_refl _)⟩
 have h3b:decide (r<7680)=false:=by simpa using h3
 have HP:Hid (F=bV later r):=by show _=_;rw[HF.out];unfold fnd;rw[if_neg h1,if_neg h2,if_neg h3]
 clear HF
 obtain⟨z,hz,hzs⟩:∃ z:Array Value,(∀ w,(zeroValue 309).run prog w=.ok (.agg z) w)/\z.size=240:=by
  refine⟨(aZ (List.replicate 30 (0,0,0,0,0,0,false,0))).toArray,?_,?_⟩
  ·exact(zero_of_info (P:=prog) (t:=309) (n:=240) (by kernel_rfl)).1
  ·kernel_rfl
 obtain⟨c,hc⟩:∃ c:Array Value,c=(aZ later).toArray:=⟨_,rfl⟩;have HC:=hid' hc;have HCI:Hid ((prog.info? 309).map (·.size)=some c.size):=by show _=_;rw[hc];kernel_rfl
 have HCS:Hid (z.size=c.size):=by show _=_;rw[hzs,hc];kernel_rfl
 have HCO:Hid (c.all (·.oneCell')=true):=by show _=_;rw[hc];kernel_rfl
 have hcall:=BE;rw[<-hc]at hcall;have HCALL:=hid' hcall;have hsl:=JU;clear hc hzs hcall;go_enter func304,ntmps304;go_wp2_with fail;refine(HCALL.out _).mono ?_;rintro e w1 ⟨rfl,hB1⟩;have hcell1:w1.heap[w.heap.size]? = some (.cells #[.int .i32 0,.int .i32 0,.int .u8 0,.int .u8 0,.int .u8 0,.int .u8 0,.bool false,.int .u8 0] 276):=by rw[hB1.block _ (by simp)];exact heap_alloc_last w _
 have hBw:Below w.heap.size w w1:=((Below.refl _ w).alloc (le_refl _) _).trans (hB1.mono (by simp));have hsz1:w.heap.size+1<=w1.heap.size:=by have:=hB1.size;simpa using this
 have HCELL:=hid' hcell1;have HBW:=hid' hBw;clear hcell1 hBw hB1;go_wp2_with((refine wpList_store_row rfl 309 (.tmp 6) (.tmp 28) rfl w1.heap.size c rfl rfl 309 z (by exact heap_alloc_last w1 _) (by exact HCI.out) (by exact HCS.out) (by exact HCO.out) (wpList_nil ?_);rw[setRow_alloc_new]));refine(jm w1.heap.size 30 later r _ (by decide) rM ⟨309,by rw[<-HC.out];exact heap_alloc_last w1 _⟩).mono ?_;rw[<-HP.out];rintro e w2 ⟨rfl,hB2⟩;have hcell2:w2.heap[w.heap.size]? = some (.cells #[.int .i32 0,.int .i32 0,.int .u8 0,.int .u8 0,.int .u8 0,.int .u8 0,.bool false,.int .u8 0] 276):=by rw[hB2.block _ (by simp;omega),Below.heap_alloc _ _ _ (by omega)];exact HCELL.out
 have hBw2:Below w.heap.size w w2:=(HBW.out.alloc HBW.out.size _).trans (hB2.mono (by simp;omega));obtain⟨cs,hcs⟩:∃ cs:Array Value,cs=(cI F).toArray:=⟨_,rfl⟩;have HS8:Hid (cs.size=8):=by show _=_;rw[hcs];rfl
 have HO8:Hid (cs.all (·.oneCell')=true):=by show _=_;rw[hcs];kernel_rfl
 rw[<-hcs];have HCELL2:=hid' hcell2;have HEQ:=hid' hcs;have HBW2:=hid' hBw2;clear hcell2 hBw2 hcs hB2;go_wp2_with((refine wpList_store_row rfl 276 (.tmp 2) (.tmp 31) rfl w.heap.size cs rfl rfl 276 _ (by exact HCELL2.out) (by rw[HS8.out];exact HI.out) (by rw[HS8.out];rfl) (by exact HO8.out) (wpList_nil ?_)));exact bodyPost_ret (results_cell_row results304 _ _ w.heap.size 276 cs (0,0) _ rfl (setRow_heap _ _ _ cs 276 (0,0) HCELL2.out) underlying276 rfl (by rw[HS8.out];exact HI.out)) rfl ⟨by rw[HEQ.out],dz HBW2.out (le_refl _)⟩
theorem ny(r:Int)(w:World):
  Calls prog 284 #[.int .i32 r] w fun e W'=>e=.returned (.int .u8 (fnd r).2.2.1)/\Below w.heap.size w W':=by
 obtain⟨⟨x0,x1,x2,x3,x4,x5,x6,x7⟩,hx⟩:∃ x,x=fnd r:=⟨_,rfl⟩;have hcall:=gu r;rw[<-hx]at hcall ⊢;have HC:=hid' hcall;clear hcall hx;have hf:∀ W:World,(Instr.field 276 (.agg #[.int .i32 x0,.int .i32 x1,.int .u8 x2,.int .u8 x3,.int .u8 x4,.int .u8 x5,.bool x6,.int .u8 x7]) 2).run prog W=.ok (.int .u8 x2) W:=fun W=>by kernel_rfl
 go_enter func284,ntmps284;go_wp2_with fail;refine(HC.out _).mono ?_;simp only[cI];rintro e w1 ⟨rfl,hB1⟩;go_wp2;go_ret;exact⟨rfl,hB1⟩
theorem oW(r:Int)(w:World):
  Calls prog 354 #[.int .i32 r] w fun e W'=>e=.returned (.int .u8 (fnd r).2.2.2.2.1)/\Below w.heap.size w W':=by
 obtain⟨⟨x0,x1,x2,x3,x4,x5,x6,x7⟩,hx⟩:∃ x,x=fnd r:=⟨_,rfl⟩;have hcall:=gu r;rw[<-hx]at hcall ⊢;have HC:=hid' hcall;clear hcall hx;have hf:∀ W:World,(Instr.field 276 (.agg #[.int .i32 x0,.int .i32 x1,.int .u8 x2,.int .u8 x3,.int .u8 x4,.int .u8 x5,.bool x6,.int .u8 x7]) 4).run prog W=.ok (.int .u8 x4) W:=fun W=>by kernel_rfl
 go_enter func354,ntmps354;go_wp2_with fail;refine(HC.out _).mono ?_;simp only[cI];rintro e w1 ⟨rfl,hB1⟩;go_wp2;go_ret;exact⟨rfl,hB1⟩
theorem uO(r:Int)(w:World):
  Calls prog 384 #[.int .i32 r] w fun e W'=>e=.returned (.int .u8 (fnd r).2.2.2.2.2.2.2)/\Below w.heap.size w W':=by
 obtain⟨⟨x0,x1,x2,x3,x4,x5,x6,x7⟩,hx⟩:∃ x,x=fnd r:=⟨_,rfl⟩;have hcall:=gu r;rw[<-hx]at hcall ⊢;have HC:=hid' hcall;clear hcall hx;have hf:∀ W:World,(Instr.field 276 (.agg #[.int .i32 x0,.int .i32 x1,.int .u8 x2,.int .u8 x3,.int .u8 x4,.int .u8 x5,.bool x6,.int .u8 x7]) 7).run prog W=.ok (.int .u8 x7) W:=fun W=>by kernel_rfl
 go_enter func384,ntmps384;go_wp2_with fail;refine(HC.out _).mono ?_;simp only[cI];rintro e w1 ⟨rfl,hB1⟩;go_wp2;go_ret;exact⟨rfl,hB1⟩
theorem qZ(r:Int)(w:World):
  Calls prog 332 #[.int .i32 r] w fun e W'=>e=.returned (.int .u8 (fnd r).2.2.2.2.2.1)/\Below w.heap.size w W':=by
 obtain⟨⟨x0,x1,x2,x3,x4,x5,x6,x7⟩,hx⟩:∃ x,x=fnd r:=⟨_,rfl⟩;have hcall:=gu r;rw[<-hx]at hcall ⊢;have HC:=hid' hcall;clear hcall hx;have hf:∀ W:World,(Instr.field 276 (.agg #[.int .i32 x0,.int .i32 x1,.int .u8 x2,.int .u8 x3,.int .u8 x4,.int .u8 x5,.bool x6,.int .u8 x7]) 5).run prog W=.ok (.int .u8 x5) W:=fun W=>by kernel_rfl
 go_enter func332,ntmps332;go_wp2_with fail;refine(HC.out _).mono ?_;simp only[cI];rintro e w1 ⟨rfl,hB1⟩;go_wp2;go_ret;exact⟨rfl,hB1⟩
theorem Ge(r:Int)(w:World):
  Calls prog 344 #[.int .i32 r] w fun e W'=>e=.returned (.bool (fnd r).2.2.2.2.2.2.1)/\Below w.heap.size w W':=by
 obtain⟨⟨x0,x1,x2,x3,x4,x5,x6,x7⟩,hx⟩:∃ x,x=fnd r:=⟨_,rfl⟩;have hcall:=gu r;rw[<-hx]at hcall ⊢;have HC:=hid' hcall;clear hcall hx;have hf:∀ W:World,(Instr.field 276 (.agg #[.int .i32 x0,.int .i32 x1,.int .u8 x2,.int .u8 x3,.int .u8 x4,.int .u8 x5,.bool x6,.int .u8 x7]) 6).run prog W=.ok (.bool x6) W:=fun W=>by kernel_rfl
 go_enter func344,ntmps344;go_wp2_with fail;refine(HC.out _).mono ?_;simp only[cI];rintro e w1 ⟨rfl,hB1⟩;go_wp2;go_ret;exact⟨rfl,hB1⟩
def av(w:World)(v:Value)(zs:List Int):Prop :=
 ∃ a cap,v=.slice a zs.length cap/\((a=none->cap=0)/\zs.length<=cap)/\(0<zs.length->∃ b,a=some ⟨b,0,none⟩/\w.heap[b]? = some (.cells (zs.map (Value.int .i32)).toArray 21 (0,0)))
theorem av.nil(w:World):av w (.slice none 0 0) []:=⟨none,0,rfl,⟨fun _=>rfl,le_refl _⟩,fun h=>by simp at h⟩
theorem av.new1(w:World)(a:Int):av (w.alloc (.cells #[.int .i32 a] 21)) (.slice (some ⟨w.heap.size,0,none⟩) 1 1) [a] :=
 ⟨_,1,rfl,⟨(fun h=>by cases h),le_refl _⟩,fun _=>⟨w.heap.size,rfl,heap_alloc_last w _⟩⟩
theorem av.new2(w:World)(a b:Int):av (w.alloc (.cells #[.int .i32 a,.int .i32 b] 21)) (.slice (some ⟨w.heap.size,0,none⟩) 2 2) [a,b] :=
 ⟨_,2,rfl,⟨(fun h=>by cases h),le_refl _⟩,fun _=>⟨w.heap.size,rfl,heap_alloc_last w _⟩⟩
def Ans(l:List Int)(w:World)(e:Ending)(W':World):Prop:=(∃ v,e=.returned v/\av W' v l)/\Below w.heap.size w W'
theorem Ans.nil{l:List Int}{w W':World}(h:l=[])(hb:Below w.heap.size w W'):Ans l w (.returned (.slice none 0 0)) W':=by subst h;exact⟨⟨_,rfl,av.nil _⟩,hb⟩
theorem Ans.one{l:List Int}{w W:World}{a:Int}(h:l=[a])(hb:Below w.heap.size w W):Ans l w (.returned (.slice (some ⟨W.heap.size,0,none⟩) 1 1)) (W.alloc (.cells #[.int .i32 a] 21)):=by subst h;exact⟨⟨_,rfl,av.new1 _ _⟩,hb.alloc hb.size _⟩
theorem Ans.two{l:List Int}{w W:World}{a b:Int}(h:l=[a,b])(hb:Below w.heap.size w W):Ans l w (.returned (.slice (some ⟨W.heap.size,0,none⟩) 2 2)) (W.alloc (.cells #[.int .i32 a,.int .i32 b] 21)):=by subst h;exact⟨⟨_,rfl,av.new2 _ _ _⟩,hb.alloc hb.size _⟩
def zT:List (Int×Int):=[(65,32),(192,32),(216,32),(913,32),(931,32),(1040,32),(178,-128),(904,37),(910,63),(1029,80),(65296,-65248),(65345,-65248),(65313,-65216),(66560,40)]
def kN(r:Int):Int:=(zT.lookup r).getD 0
def lX:List (Int×List Int):=[(170,[97]),(185,[49]),(186,[111]),(376,[255]),(469,[470]),(902,[940]),(908,[972]),(1025,[1105]),(1032,[1112]),(7776,[7777]),(7778,[7779]),(7784,[7785]),(7838,[115,115]),(8486,[969]),(8490,[107]),(8491,[229]),(12290,[46]),(65294,[46]),(65377,[46]),(64257,[102,105]),(65285,[37]),(65293,[45]),(65295,[47])]
def inst(r:Int):List Int:=(lX.lookup r).getD []
def sgl(r:Int):Int:=(([(8486,937),(8490,75),(8491,197)]:List (Int×Int)).lookup r).getD 0
theorem nD(r:Int)(w:World):Calls prog 378 #[.int .i32 r] w fun e W'=>e=.returned (.int .i32 (sgl r))/\W'=w:=by
 obtain⟨L,hL⟩:∃ L,L=sgl r:=⟨_,rfl⟩;have HL:=hid' hL;rw[<-hL];clear hL;go_enter func378,ntmps378;go_wp2;all_goals go_ret
 all_goals refine⟨?_,rfl⟩
 all_goals rw[HL.out]
 all_goals clear HL
 all_goals first | (rename_i h;obtain rfl:=eq_of_beq h;rfl) | (simp[sgl,List.lookup, *];done)
def z3:Tri:=(0,0,0)
def et:List Tri->Bool
 | x::y::l=>decide (x.1<y.1)&&et (y::l)
 | _=>true
theorem gF{x:Tri}{l:List Tri}(h:et (x::l)=true):et l=true:=by
 cases l with
 | nil=>rfl
 | cons y l=>simp only[et,and_eq_true]at h;exact h.2
theorem iu:∀ {x:Tri} {l:List Tri},et (x::l)=true->∀ y∈l,x.1<y.1
 | x,[],_,y,hy=>by simp at hy
 | x,z::l,h,y,hy=>by
  have ht:=gF h;simp only[et,and_eq_true,decide_eq_true_eq]at h;rcases List.mem_cons.1 hy with rfl | hy
  ·exact h.1
  ·have:=iu ht y hy;omega
def bM(d:List Tri)(r:Int):Nat:=d.countP (fun x=>!decide (r<=x.1))
theorem CG(d:List Tri)(r:Int):bM d r<=d.length:=List.countP_le_length
theorem vE:∀(d:List Tri) (r:Int),et d=true ->
  d.find? (fun x=>x.1==r)=if h:bM d r<d.length then (if (d[bM d r]).1=r then some (d[bM d r]) else none) else none
 | [],r,_=>by simp[bM]
 | x::l,r,h=>by
  have ht:=gF h;have ha:=iu h;by_cases hx:r<=x.1
  ·have h0:bM (x::l) r=0:=by
    unfold bM;rw[List.countP_eq_zero];intro y hy;rcases List.mem_cons.1 hy with rfl | hy
    ·simpa using hx
    ·have:=ha y hy;have:r<=y.1:=by omega
     simpa using this
   have hl:bM (x::l) r<(x::l).length:=by rw[h0];simp
   rw[dif_pos hl];have he:(x::l)[bM (x::l) r]=x:=by simp[h0]
   rw[he];by_cases hlo:x.1=r
   ·rw[if_pos hlo,List.find?_cons_of_pos (by simpa using hlo)]
   ·rw[if_neg hlo,find?_eq_none];intro y hy;rcases List.mem_cons.1 hy with rfl | hy
    ·simpa using hlo
    ·have:=ha y hy;simp;omega
  ·have h1:bM (x::l) r=bM l r+1:=by unfold bM;rw[List.countP_cons_of_pos (by simpa using hx)]
   rw[List.find?_cons_of_neg (by simp;omega),vE l r ht];by_cases hl:bM l r<l.length
   ·have hl':bM (x::l) r<(x::l).length:=by rw[h1];simpa using hl
    have he:(x::l)[bM (x::l) r]=l[bM l r]:=by simp[h1]
    rw[dif_pos hl,dif_pos hl',he]
   ·rw[dif_neg hl,dif_neg (by rw[h1];simpa using hl)]
theorem xC{d:List Tri}{r:Int}(hd:et d=true){a b:Nat}(hab:a<=b)(hb:b<d.length)(h:decide (r<=(d[a]?.getD z3).1)=true):decide (r<=(d[b]?.getD z3).1)=true:=by
 induction d generalizing a b with
 | nil=>simp at hb
 | cons x l ih =>
  have ht:=gF hd;rcases b with _ | b
  ·obtain rfl:a=0:=by omega
   exact h
  ·rcases a with _ | a
   ·have hb':b<l.length:=by simpa using hb
    have:=iu hd (l[b]) (getElem_mem hb');simp only[List.getElem?_cons_zero,getD_some,decide_eq_true_eq,List.getElem?_cons_succ,getElem?_eq_getElem hb']at h ⊢;omega
   ·simp only[List.getElem?_cons_succ]at h ⊢;exact ih ht (by omega) (by simpa using hb) h
theorem pP(d:List Tri)(r:Int):(List.range d.length).countP (fun i=>!decide (r<=(d[i]?.getD z3).1))=bM d r:=by
 have:(List.range d.length).map (fun i=>d[i]?.getD z3)=d:=by
  apply List.ext_getElem
  ·simp
  ·intro i h1 h2;simp[getElem?_eq_getElem h2]
 unfold bM
 conv=>rhs;rw[<-this,List.countP_map]
 rfl
theorem BZ(l:List Tri):(dB l).length=l.length * 3:=by
 induction l with
 | nil=>rfl
 | cons s l ih=>simp only[dB,List.flatMap_cons,length_append,List.length_cons]at ih ⊢;rw[ih];simp[fc];omega
theorem qJ(l:List Tri):∀ j i,j<l.length->i<3->(dB l)[j * 3+i]? = (fc (l[j]?.getD z3))[i]? := by
 induction l with
 | nil=>intro j i hj;simp at hj
 | cons s l ih =>
  intro j i hj hi;have e:dB (s::l)=fc s++dB l:=rfl;have hl8:(fc s).length=3:=rfl;rcases j with _ | j
  ·rw[e,List.getElem?_append_left (by omega)];simp
  ·have h:=ih j i (by simpa using hj) hi;rw[e,List.getElem?_append_right (by omega),hl8,show(j+1) * 3+i - 3=j * 3+i by omega,h];simp
theorem nI:et prs=true:=by decide
def dcp(r:Int):List Int:=if sgl r≠0 then [sgl r] else match prs.find? (fun x=>x.1==r) with
 | some p=>[p.2.1,p.2.2]
 | none=>[]
theorem vS(br ba i:Nat)(y r:Int)(W:World)(hi:i<80)
  (hr:W.cell? ⟨br,0,none⟩=some (.int .i32 r)) (hc:W.cell? ⟨ba,i * 3,none⟩=some (.int .i32 y)) :
  Calls prog 379 (#[.int .i64 i]++#[.pointer (some ⟨br,0,none⟩),.pointer (some ⟨ba,0,none⟩)]) W fun e w'=>e=.returned (.bool (decide (r<=y)))/\∃ q,w'=W.drewN q:=by
 have hiz:(i:Int)<80:=by omega
 go_enter func379,ntmps379;go_wp2
 go_region
 all_goals go_wp2
 all_goals go_ret
 all_goals exact⟨by first | rfl | simp,1,rfl⟩
theorem yj(r:Int)(w:World):Calls prog 366 #[.int .i32 r] w fun e W'=>Ans (dcp r) w e W':=by
 obtain⟨L,hL⟩:∃ L,L=dcp r:=⟨_,rfl⟩;have HL:=hid' hL;rw[<-hL];clear hL;obtain⟨S,hS⟩:∃ S,S=sgl r:=⟨_,rfl⟩;have HS:=hid' hS;clear hS;have hBx:Below w.heap.size w (w.alloc (.cells #[.int .i32 r] 21)):=(Below.refl _ w).alloc (le_refl _) _;by_cases hs0:S=0
 ·have HL2:Hid (L=match prs.find? (fun x=>x.1==r) with | some p=>[p.2.1,p.2.2] | none=>[]):=by show _=_;rw[HL.out];unfold dcp;rw[<-HS.out,if_neg (by simpa using hs0)]
  subst hs0;clear HL
  obtain⟨z,hz,hzs⟩:∃ z:Array Value,(∀ w,(zeroValue 330).run prog w=.ok (.agg z) w)/\z.size=240:=by
   refine⟨(dB (List.replicate 80 (0,0,0))).toArray,?_,?_⟩
   ·exact(zero_of_info (P:=prog) (t:=330) (n:=240) (by kernel_rfl)).1
   ·kernel_rfl
  obtain⟨c,hc⟩:∃ c:Array Value,c=(dB prs).toArray:=⟨_,rfl⟩;have HC:=hid' hc;have HCI:Hid ((prog.info? 330).map (·.size)=some c.size):=by show _=_;rw[hc];kernel_rfl
  have HCS:Hid (z.size=c.size):=by show _=_;rw[hzs,hc];kernel_rfl
  have HCO:Hid (c.all (·.oneCell')=true):=by show _=_;rw[hc];kernel_rfl
  have hcall:=zh;rw[<-hc]at hcall;have HCALL:=hid' hcall;clear hc hzs hcall;have HBX:=hid' hBx;clear hBx;go_enter func366,ntmps366;go_wp2_with fail;refine(nD r _).mono ?_;rw[<-HS.out];rintro e w0 ⟨rfl,hw0⟩;have hc0:w0.cell? ⟨w.heap.size,0,none⟩=some (.int .i32 r):=by rw[hw0];exact cell_new_sl w _ _
  have hB0:Below w.heap.size w w0:=by rw[hw0];exact HBX.out
  have hs0:w0.heap.size=w.heap.size+1:=by rw[hw0];simp
  clear hw0 HBX;go_wp2_with fail;refine(HCALL.out _).mono ?_;rintro e w1 ⟨rfl,hB1⟩;have hc1:w1.cell? ⟨w.heap.size,0,none⟩=some (.int .i32 r):=(hB1.cell (p:=⟨w.heap.size,0,none⟩) (by show w.heap.size<_;omega)).trans hc0;have hBw1:Below w.heap.size w w1:=hB0.trans (hB1.mono (by omega));have hs1:w.heap.size+1<=w1.heap.size:=by have:=hB1.size;omega
  clear hB1 hB0 hc0 hs0;go_wp2_with((refine wpList_store_row rfl 330 (.tmp 4) (.tmp 12) rfl w1.heap.size c rfl rfl 330 z (by exact heap_alloc_last w1 _) (by exact HCI.out) (by exact HCS.out) (by exact HCO.out) (wpList_nil ?_);rw[setRow_alloc_new]));obtain⟨W0,hW0⟩:∃ W0,W0=w1.alloc (.cells c 330):=⟨_,rfl⟩;rw[<-hW0];have ag:W0.heap[w1.heap.size]? = some (.cells c 330):=by rw[hW0];exact heap_alloc_last w1 _
  have hsize:W0.heap.size=w1.heap.size+1:=by rw[hW0];simp
  have cr:W0.cell? ⟨w.heap.size,0,none⟩=some (.int .i32 r):=by rw[hW0];exact cell_alloc_sl _ hc1
  have cp:∀ i j,i<80->j<3->W0.cell? ⟨w1.heap.size,i * 3+j,none⟩=(fc (prs[i]?.getD z3))[j]? := by intro i j hi hj;rw[cell_of_row _ _ _ _ 330 (0,0) ag,HC.out,<-qJ prs i j hi hj];simp
  have hBw0:Below w.heap.size w W0:=by rw[hW0];exact hBw1.alloc hBw1.size _
  have eg:∀ args w,(callFunc 379 args).run prog w=.ok (.enter 379 args) w:=enters_of func379 (by kernel_rfl) rfl
  have hS:=Any.sort_Search Tryz.search 379 #[.pointer (some ⟨w.heap.size,0,none⟩),.pointer (some ⟨w1.heap.size,0,none⟩)] prs.length (fun i=>decide (r<=(prs[i]?.getD z3).1)) W0 eg (by decide)
   (fun m os i hi=>(vS w.heap.size w1.heap.size i _ r _ hi (cell_grown (by simp[hsize];omega) cr m os) (cell_grown (by simp[hsize]) (cp i 0 hi (by omega)) m os)).mono
     fun _ _ ⟨he,q,hq⟩=>⟨he,q,#[],by rw[hq,grow_empty]⟩) (fun a b hab hb h=>xC nI hab hb h)
  rw[pP]at hS;have hS':Calls prog 359 #[.int .i64 80,.func (.func 379) #[] #[.pointer (some ⟨w.heap.size,0,none⟩),.pointer (some ⟨w1.heap.size,0,none⟩)]] W0 fun e w'=>e=.returned (.int .i64 (bM prs r:Nat))/\∃ q os,w'=grow (W0.drewN q) os:=hS;have hfa:=vE prs r nI;obtain⟨A,hA⟩:∃ A,A=bM prs r:=⟨_,rfl⟩;have hA1:A<=80:=by rw[hA];exact CG prs r
  rw[<-hA]at hS';have HA:=hid' hA;refine hS'.mono ?_;rintro e w2 ⟨rfl,q,os,hw2⟩;have hB2:Below W0.heap.size W0 w2:=by rw[hw2];exact below_grown_sl _ W0 q os (le_refl _)
  have hBw2:Below w.heap.size w w2:=hBw0.trans (hB2.mono (by omega));have cr2:w2.cell? ⟨w.heap.size,0,none⟩=some (.int .i32 r):=(hB2.cell (p:=⟨w.heap.size,0,none⟩) (by show w.heap.size<_;omega)).trans cr;have cp2:∀ i j,i<80->j<3->w2.cell? ⟨w1.heap.size,i * 3+j,none⟩=(fc (prs[i]?.getD z3))[j]? := fun i j hi hj=>(hB2.cell (p:=⟨w1.heap.size,i * 3+j,none⟩) (by show w1.heap.size<_;omega)).trans (cp i j hi hj);have HBW:=hid' hBw2;have HFA:=hid' hfa;have HCP:=hid' cp2;clear hS hS' hw2 hB2 hBw2 cr cp eg ag hBw0 hW0 hfa cp2 hA hc1 hBw1;by_cases hlt:A<80
  ·have hlt':(A:Int)<80:=by omega
   have hne:((A:Int)==80)=false:=by simp;omega
   obtain⟨x,hx⟩:∃ x,x=prs[A]?.getD z3:=⟨_,rfl⟩;have hcells:=fun j hj=>HCP.out A j hlt hj;rw[<-hx]at hcells
   have HP2:Hid (prs.find? (fun x=>x.1==r)=if x.1=r then some x else none):=by
    have:=HFA.out;have e:bM prs r=A:=HA.out.symm;simp only[e]at this;rw[dif_pos (show A<prs.length from hlt)]at this;have e2:prs[A]'(show A<prs.length from hlt)=x:=by rw[hx,getElem?_eq_getElem (show A<prs.length from hlt)];rfl
    rw[e2]at this;exact this
   obtain⟨x0,x1,x2⟩:=x;have c0:w2.cell? ⟨w1.heap.size,A * 3,none⟩=some (.int .i32 x0):=hcells 0 (by omega);have c1:w2.cell? ⟨w1.heap.size,A * 3+1,none⟩=some (.int .i32 x1):=hcells 1 (by omega);have c2:w2.cell? ⟨w1.heap.size,A * 3+2,none⟩=some (.int .i32 x2):=hcells 2 (by omega);clear hcells hx HCP HFA;by_cases he:x0=r
   ·subst he;have HG:Hid (L=[x1,x2]):=by show _=_;rw[HL2.out,HP2.out,if_pos rfl]
    clear HP2 HL2;go_wp2_with fail
    go_quiet (fail)
    go_wp2
    go_region
    all_goals go_wp2
    all_goals go_ret
    exact Ans.two (W:=w2.drewN (nq+1)) HG.out (below_drewN HBW.out _)
   ·have hneb:(r != x0)=true:=by simp;omega
    have hneb2:(r==x0)=false:=by simp;omega
    have HG:Hid (L=[]):=by show _=_;rw[HL2.out,HP2.out,if_neg he]
    clear HP2 HL2;go_wp2_with fail
    go_quiet (fail)
    go_wp2;go_ret;exact Ans.nil HG.out (below_drewN HBW.out _)
  ·have hne:((A:Int)==80)=true:=by simp;omega
   have HG:Hid (L=[]):=by show _=_;have:=HFA.out;have e:bM prs r=A:=HA.out.symm;simp only[e]at this;rw[dif_neg (show ¬ A<prs.length from hlt)]at this;rw[HL2.out,this]
   clear HCP HFA HL2;go_wp2_with fail
   go_quiet (fail)
   go_wp2;go_ret;exact Ans.nil HG.out (below_drewN HBW.out _)
 ·have HL2:Hid (L=[S]):=by show _=_;rw[HL.out];unfold dcp;rw[<-HS.out,if_pos hs0]
  have hdb:(S != 0)=true:=by simpa using hs0
  have hdb2:(S==0)=false:=by simpa using hs0
  clear HL;go_enter func366,ntmps366;go_wp2_with fail;refine(nD r _).mono ?_;rw[<-HS.out];rintro e w1 ⟨rfl,rfl⟩;go_wp2;go_ret;have:=Ans.one (w:=w) (W:=w.alloc (.cells #[.int .i32 r] 21)) HL2.out hBx;rw[World.size_alloc]at this;exact this
def prf(d:List Tri)(a b:Int):Int×Bool:=match d.find? (fun x=>x.2.1==a&&x.2.2==b) with
 | some p=>(p.1,true)
 | none=>(0,false)
theorem KR{d:List Tri}{k:Nat}{a b:Int}(hk:k<d.length)(h:(d[k]?.getD z3).2.1=a/\(d[k]?.getD z3).2.2=b):prf (d.drop k) a b=((d[k]?.getD z3).1,true):=by rw[drop_eq_getElem_cons hk];rw[getElem?_eq_getElem hk]at h ⊢;simp only[getD_some]at h ⊢;unfold prf;rw[List.find?_cons_of_pos (by simp[h.1,h.2])]
theorem ED{d:List Tri}{k:Nat}{a b:Int}(hk:k<d.length)(h:¬ ((d[k]?.getD z3).2.1=a/\(d[k]?.getD z3).2.2=b)):prf (d.drop k) a b=prf (d.drop (k+1)) a b:=by rw[drop_eq_getElem_cons hk];rw[getElem?_eq_getElem hk]at h;simp only[getD_some]at h;unfold prf;rw[List.find?_cons_of_neg (by simpa using h)]
theorem KS{d:List Tri}{k:Nat}{a b:Int}(hk:d.length<=k):prf (d.drop k) a b=(0,false):=by rw[List.drop_of_length_le hk];rfl
theorem Ca(l:List Tri)(j:Nat)(hj:j<l.length):(dB l).toArray.extract (j * 3) (j * 3+3)=(fc (l[j]?.getD z3)).toArray:=by
 apply Array.ext_getElem?;intro i;by_cases hi:i<3
 ·have:=qJ l j i hj hi;rw[Array.getElem?_extract,if_pos (by simp[BZ];omega)];simpa using this
 ·rw[Array.getElem?_eq_none (by simp;omega),Array.getElem?_eq_none (by simp[fc];omega)]
theorem Mm(j:Nat)(hj:j<80)(W:World):(Instr.index 330 (.agg (dB prs).toArray) (.int .i64 (j:Int))).run prog W=.ok (.agg (fc (prs[j]?.getD z3)).toArray) W:=by rw[<-Ca prs j hj];generalize (dB prs).toArray=c;simp[Instr.index,asIntOf,run_underlying underlying330,part,Tryz.sizeOf329];intro h;omega
theorem nS(a b:Int)(w:World):Calls prog 331 #[.int .i32 a,.int .i32 b] w fun e W'=>e=.returned (.tuple #[.int .i32 (prf prs a b).1,.bool (prf prs a b).2])/\Below w.heap.size w W':=by
 obtain⟨⟨R1,R2⟩,hR⟩:∃ R,R=prf prs a b:=⟨_,rfl⟩;have HR0:Hid (prf (prs.drop 0) a b=(R1,R2)):=hR.symm;rw[<-hR];clear hR;dsimp only;obtain⟨c,hc⟩:∃ c:Array Value,c=(dB prs).toArray:=⟨_,rfl⟩;have hix:=Mm;have hcall:=zh;rw[<-hc]at hcall hix;have HCALL:=hid' hcall;have HIX:=hid' hix;clear hc hcall hix;have HI:Hid ((prog.info? 329).map (·.size)=some 3):=by show _=_;kernel_rfl
 go_enter func331,ntmps331;go_wp2_with fail;refine(HCALL.out _).mono ?_;rintro e w1 ⟨rfl,hB1⟩;go_wp2_with fail
 go_loopw [9] (fun i wr=>∃ k:Nat,k<=80/\i=.int .i64 k/\Below w.heap.size w wr/\Hid (prf (prs.drop k) a b=(R1,R2))) (fun i _=>80 - (intOf i).toNat)
 case atStart=>exact⟨0,by omega,rfl,hB1,HR0⟩
 case round =>
  obtain⟨k,hk,rfl,hB,HR⟩:=hrel;clear HR0 hB1;by_cases hlt:k<80
  ·have hlt':(k:Int)<80:=by omega
   have hix:=HIX.out k hlt;obtain⟨⟨x0,x1,x2⟩,hx⟩:∃ x,x=prs[k]?.getD z3:=⟨_,rfl⟩;rw[<-hx]at hix;have hhit:=@KR prs k a b (show k<prs.length from hlt);have hmiss:=@ED prs k a b (show k<prs.length from hlt);rw[<-hx]at hhit hmiss;dsimp only at hhit hmiss;have HH:=hid' hhit;have HM:=hid' hmiss;clear hx hhit hmiss;simp only[fc]at hix;by_cases h1:x1=a
   ·have h1b:(x1==a)=true:=by simpa using h1
    by_cases h2:x2=b
    ·have h2b:(x2==b)=true:=by simpa using h2
     have HE:Hid (R1=x0/\R2=true):=by have:=HR.out;rw[HH.out ⟨h1,h2⟩]at this;cases this;exact⟨rfl,rfl⟩
     clear HR HH HM h1 h2;go_wp2;go_ret2;exact⟨by rw[HE.out.1,HE.out.2];rfl,hB.alloc hB.size _⟩
    ·have h2b:(x2==b)=false:=by simpa using h2
     have HE:Hid (prf (prs.drop (k+1)) a b=(R1,R2)):=by show _=_;rw[<-HM.out (fun h=>h2 h.2)];exact HR.out
     clear HR HH HM h1 h2;go_wp2
     go_roundw
     case rel=>exact⟨k+1,by omega,by go_num,hB.alloc hB.size _,HE⟩
     case measure=>simp[intOf];omega
   ·have h1b:(x1==a)=false:=by simpa using h1
    have HE:Hid (prf (prs.drop (k+1)) a b=(R1,R2)):=by show _=_;rw[<-HM.out (fun h=>h1 h.1)];exact HR.out
    clear HR HH HM h1;go_wp2
    go_roundw
    case rel=>exact⟨k+1,by omega,by go_num,hB.alloc hB.size _,HE⟩
    case measure=>simp[intOf];omega
  ·have hlt':¬ (k:Int)<80:=by omega
   have HE:Hid (R1=0/\R2=false):=by have:=HR.out;rw[KS (show prs.length<=k by show 80<=k;omega)]at this;cases this;exact⟨rfl,rfl⟩
   clear HR;go_wp2;go_ret2;exact⟨by rw[HE.out.1,HE.out.2];rfl,hB⟩
def tab:List Rw:=fq++eW++df++later
theorem iY{d:List Rw}{m r:Int}(h:∀ x∈d,m<=x.1)(hr:r<m):d.find? (gl r)=none:=by rw[find?_eq_none];intro x hx;have:=h x hx;simp[gl];omega
theorem sd{d:List Rw}{m r:Int}(h:∀ x∈d,x.2.1<m)(hr:m<=r):d.find? (gl r)=none:=by rw[find?_eq_none];intro x hx;have:=h x hx;simp[gl];omega
theorem MB(r:Int):fnd r=bV tab r:=by
 have g0:∀ x∈eW,(768:Int)<=x.1:=by decide
 have g1:∀ x∈df,(1424:Int)<=x.1:=by decide
 have g2:∀ x∈later,(7680:Int)<=x.1:=by decide
 have k0:∀ x∈fq,x.2.1<(768:Int):=by decide
 have k1:∀ x∈eW,x.2.1<(1424:Int):=by decide
 have k2:∀ x∈df,x.2.1<(7680:Int):=by decide
 unfold fnd bV tab;simp only[List.find?_append];by_cases h1:r<768
 ·rw[if_pos h1,iY g0 h1,iY (m:=1424) g1 (by omega),iY (m:=7680) g2 (by omega)];simp
 ·rw[if_neg h1,sd k0 (by omega)];by_cases h2:r<1424
  ·rw[if_pos h2,iY g1 h2,iY (m:=7680) g2 (by omega)];simp
  ·rw[if_neg h2,sd k1 (by omega)];by_cases h3:r<7680
   ·rw[if_pos h3,iY g2 h3];simp
   ·rw[if_neg h3,sd k2 (by omega)];simp
end D
namespace N
abbrev Pt:=Int×Int
def z2:Pt:=(0,0)
theorem hid{p:Prop}(h:p):Hid p:=h
def Pts(W:World)(b o:Nat)(l:List Pt):Prop:=∃ cur t,W.heap[b]? = some (.cells cur t (0,0)) /\
 ∀ j,j<l.length->cur[o+j * 2]? = some (.int .i32 (l[j]?.getD z2).1)/\cur[o+j * 2+1]? = some (.int .u8 (l[j]?.getD z2).2)
structure Chg(b o n:Nat)(W W':World):Prop where
 g:W.grownBy W' (some b)
 blk:∃ cur cur' t,W.heap[b]? = some (.cells cur t (0,0))/\W'.heap[b]? = some (.cells cur' t (0,0))/\cur'.size=cur.size/\∀ k,k<o\/o+n * 2<=k->cur'[k]? = cur[k]?
theorem Pts.lt{W:World}{b o:Nat}{l:List Pt}(h:Pts W b o l):b<W.heap.size:=by obtain⟨cur,t,h,_⟩:=h;exact(Array.getElem?_eq_some_iff.1 h).1
theorem Pts.c0{W:World}{b o:Nat}{l:List Pt}(h:Pts W b o l)(j:Nat)(hj:j<l.length):W.cell? ⟨b,o+j * 2,none⟩=some (.int .i32 (l[j]?.getD z2).1):=by obtain⟨cur,t,h,hc⟩:=h;simp[World.cell?,h,(hc j hj).1]
theorem Pts.c1{W:World}{b o:Nat}{l:List Pt}(h:Pts W b o l)(j:Nat)(hj:j<l.length):W.cell? ⟨b,o+j * 2+1,none⟩=some (.int .u8 (l[j]?.getD z2).2):=by obtain⟨cur,t,h,hc⟩:=h;simp[World.cell?,h,(hc j hj).2]
theorem Pts.fr{W:World}{b o:Nat}{l:List Pt}(h:Pts W b o l)(k:Nat):W.frozen? ⟨b,k,none⟩=false:=by obtain⟨cur,t,h,hc⟩:=h;simp[World.frozen?,h]
theorem Pts.block{W W':World}{b o:Nat}{l:List Pt}(h:Pts W b o l)(e:W'.heap[b]? = W.heap[b]?):Pts W' b o l:=by obtain⟨cur,t,h,hc⟩:=h;exact⟨cur,t,e.trans h,hc⟩
theorem Pts.below{W W':World}{b o n:Nat}{l:List Pt}(h:Pts W b o l)(hB:Below n W W')(hn:b<n):Pts W' b o l:=h.block (hB.block b hn)
theorem Pts.drew{W:World}{b o:Nat}{l:List Pt}(h:Pts W b o l):Pts W.drew b o l:=h
theorem Chg.refl{W:World}{b o:Nat}{l:List Pt}(h:Pts W b o l)(n:Nat):Chg b o n W W:=by obtain⟨cur,t,h,_⟩:=h;exact⟨⟨rfl,rfl,rfl,le_refl _,fun _ _ _=>rfl⟩,cur,cur,t,h,h,rfl,fun _ _=>rfl⟩
theorem Chg.trans{A B C:World}{b o n:Nat}(h:Chg b o n A B)(k:Chg b o n B C):Chg b o n A C:=by
 obtain⟨c1,c2,t,e1,e2,s1,f1⟩:=h.blk;obtain⟨d1,d2,t',e3,e4,s2,f2⟩:=k.blk;rw[e2]at e3;cases e3
 exact⟨⟨k.g.os.trans h.g.os,k.g.tape.trans h.g.tape,k.g.output.trans h.g.output,le_trans h.g.size k.g.size,fun i hi hne=>(k.g.block i (Nat.lt_of_lt_of_le hi h.g.size) hne).trans (h.g.block i hi hne)⟩,
   c1,d2,t,e1,e4,s2.trans s1,fun i hi=>(f2 i hi).trans (f1 i hi)⟩
theorem Chg.below{A B C:World}{b o n:Nat}(h:Chg b o n A B)(hB:Below B.heap.size B C):Chg b o n A C:=by
 obtain⟨c1,c2,t,e1,e2,s1,f1⟩:=h.blk;have hb:b<B.heap.size:=(Array.getElem?_eq_some_iff.1 e2).1
 exact⟨⟨hB.os.trans h.g.os,hB.tape.trans h.g.tape,hB.output.trans h.g.output,le_trans h.g.size hB.size,fun i hi hne=>(hB.block i (Nat.lt_of_lt_of_le hi h.g.size)).trans (h.g.block i hi hne)⟩,
   c1,c2,t,e1,(hB.block b hb).trans e2,s1,f1⟩
theorem Chg.drew{A B:World}{b o n:Nat}(h:Chg b o n A B):Chg b o n A B.drew:=⟨⟨h.g.os,h.g.tape,h.g.output,h.g.size,h.g.block⟩,h.blk⟩
theorem heap_setCell_same(W:World)(b k:Nat)(v:Value)(cur:Array Value)(t:TypeId)(h:W.heap[b]? = some (.cells cur t (0,0))):(W.setCell ⟨b,k,none⟩ v).heap[b]? = some (.cells (cur.setIfInBounds k v) t (0,0)):=by rw[setCell_eq_setRow W b k cur t (0,0) v h];exact setRow_heap W b cur _ t (0,0) h
theorem size_setCell'(W:World)(a:Addr)(v:Value):(W.setCell a v).heap.size=W.heap.size:=by simp[World.setCell]
theorem Chg.set{A B:World}{b o n:Nat}(h:Chg b o n A B)(k:Nat)(v:Value)(h1:o<=k)(h2:k<o+n * 2):Chg b o n A (B.setCell ⟨b,k,none⟩ v):=by
 obtain⟨c1,c2,t,e1,e2,s1,f1⟩:=h.blk;refine⟨⟨h.g.os,h.g.tape,h.g.output,by rw[size_setCell'];exact h.g.size,fun i hi hne=>?_⟩,c1,c2.setIfInBounds k v,t,e1,heap_setCell_same B b k v c2 t e2,by simpa using s1,fun i hi=>?_⟩
 ·rw[Below.heap_setCell B ⟨b,k,none⟩ v i (fun e=>hne (by rw[e]))];exact h.g.block i hi hne
 ·rw[getElem?_setIfInBounds_ne (by omega)];exact f1 i hi
theorem Pts.set{W:World}{b o:Nat}{l:List Pt}(h:Pts W b o l)(i:Nat)(x:Pt)(hi:i<l.length):
  Pts ((W.setCell ⟨b,o+i * 2,none⟩ (.int .i32 x.1)).setCell ⟨b,o+i * 2+1,none⟩ (.int .u8 x.2)) b o (l.set i x):=by
 obtain⟨cur,t,h,hc⟩:=h;refine⟨_,t,heap_setCell_same _ b _ _ _ t (heap_setCell_same W b _ _ cur t h),fun j hj=>?_⟩;rw[List.length_set]at hj;have hci:=hc i hi
 have hsz1:o+i * 2+1<cur.size:=by
  by_cases hh:o+i * 2+1<cur.size
  ·exact hh
  ·rw[Array.getElem?_eq_none (Nat.le_of_not_lt hh)]at hci;simp at hci
 by_cases hij:j=i
 ·subst hij;rw[getElem?_setIfInBounds_ne (by omega),Array.getElem?_setIfInBounds_self_of_lt (by omega),Array.getElem?_setIfInBounds_self_of_lt (by simpa using hsz1)];simp[hi]
 ·rw[getElem?_setIfInBounds_ne (by omega),getElem?_setIfInBounds_ne (by omega),getElem?_setIfInBounds_ne (by omega),getElem?_setIfInBounds_ne (by omega)];rw[List.getElem?_set_ne (by omega)];exact hc j hj
structure aH(w:World) where
 W:World
 h:Below w.heap.size w W
theorem aw{P:Program}{id:Nat}{Q:Exit->Act->World->Prop}{a:Act}{w:World}{l:List Oper}(hm:P.follows .mixedOrders=true)(hB:Region.lexB .any l.toArray=true)
  (h:wpQuiet P l.toArray (fun w'=>∃ x:aH w,w'=x.W) (fun a'=>∀ w',(∃ x:aH w,w'=x.W)->Q .normal a' w') l a):(Code.region id l.toArray true).wp P Q a w :=
 wp_region_quiet (C:=fun w'=>∃ x:aH w,w'=x.W) hm hB ⟨⟨{ w with drawn:=w.drawn+1 },⟨rfl,rfl,rfl,le_refl _,fun _ _=>rfl⟩⟩,rfl⟩ (by simpa using h)
theorem aH.call{w:World}{f:FuncId}{args:Array Value}{v:Value}(x:aH w)(h:Calls prog f args x.W fun e w'=>e=.returned v/\Below x.W.heap.size x.W w'):Calls prog f args x.W fun e w'=>e=.returned v/\∃ y:aH w,w'=y.W :=
 h.mono fun _ w' ⟨he,hb⟩=>⟨he,⟨w',x.h.trans (hb.mono x.h.size)⟩,rfl⟩
def Srt(l:List Pt):Prop:=l.Pairwise (fun a b=>a.2<=b.2)
structure Stb(l l':List Pt):Prop where
 perm:l'.Perm l
 fil:∀ k,l'.filter (fun x=>x.2==k)=l.filter (fun x=>x.2==k)
theorem Stb.refl(l:List Pt):Stb l l:=⟨.refl _,fun _=>rfl⟩
theorem Stb.trans{a b c:List Pt}(h:Stb a b)(k:Stb b c):Stb a c:=⟨k.perm.trans h.perm,fun i=>(k.fil i).trans (h.fil i)⟩
theorem Stb.append{a b c d:List Pt}(h:Stb a b)(k:Stb c d):Stb (a++c) (b++d):=⟨h.perm.append k.perm,fun i=>by rw[filter_append,filter_append,h.fil,k.fil]⟩
theorem Stb.len{a b:List Pt}(h:Stb a b):b.length=a.length:=h.perm.length_eq
theorem Stb.swap{X Y:List Pt}(h:∀ x∈X,∀ y∈Y,x.2≠y.2):Stb (X++Y) (Y++X):=by
 refine⟨List.perm_append_comm,fun k=>?_⟩;rw[filter_append,filter_append];by_cases hx:X.filter (fun x=>x.2==k)=[]
 ·rw[hx];simp
 ·have:Y.filter (fun x=>x.2==k)=[]:=by rw[List.filter_eq_nil_iff];intro y hy he;obtain⟨x,hx'⟩:=List.exists_mem_of_ne_nil _ hx;rw[List.mem_filter]at hx';exact h x hx'.1 y hy (by have:=hx'.2;simp at this he;omega)
  rw[this];simp
theorem Srt.nil:Srt []:=List.Pairwise.nil
theorem yO(x:Pt):Srt [x]:=List.pairwise_singleton _ _
theorem aT{a b:List Pt}:Srt (a++b)↔Srt a/\Srt b/\∀ x∈a,∀ y∈b,x.2<=y.2:=List.pairwise_append
theorem dm{x:Pt}{b:List Pt}:Srt (x::b)↔(∀ y∈b,x.2<=y.2)/\Srt b:=List.pairwise_cons
theorem nw:∀ {a b:List Pt},Srt a->Srt b->Stb a b->a=b
 | [],b,_,_,h=>by have:=h.perm.length_eq;exact(List.length_eq_zero_iff.1 (by simpa using this)).symm
 | x::a,[],_,_,h=>by have:=h.perm.length_eq;simp at this
 | x::a,y::b,ha,hb,h=>by
  have hxm:x∈y::b:=h.perm.mem_iff.2 List.mem_cons_self;have hym:y∈x::a:=h.perm.mem_iff.1 List.mem_cons_self
  have h1:x.2<=y.2:=by
   rcases List.mem_cons.1 hym with rfl | hy
   ·exact Int.le_refl _
   ·exact(dm.1 ha).1 y hy
  have h2:y.2<=x.2:=by
   rcases List.mem_cons.1 hxm with rfl | hx
   ·exact Int.le_refl _
   ·exact(dm.1 hb).1 x hx
  have e:x.2=y.2:=by omega
  have hf:=h.fil x.2;rw[List.filter_cons_of_pos (by simp[e]),List.filter_cons_of_pos (by simp)]at hf;have hxy:y=x:=(List.cons.inj hf).1;subst hxy
  have hs:Stb a b:=⟨(List.perm_cons y).1 h.perm,fun k=>by
    have:=h.fil k
    by_cases hk:(y.2==k)=true
    · simp only[List.filter_cons,hk,if_true]at this;exact(List.cons.inj this).2
    · simp only[List.filter_cons,hk]at this;simpa using this⟩
  rw[nw (dm.1 ha).2 (dm.1 hb).2 hs]
def pM(x:Pt):List Pt->List Pt
 | []=>[x]
 | y::l=>if y.2<x.2 then y::pM x l else x::y::l
def di:List Pt->List Pt
 | []=>[]
 | x::l=>pM x (di l)
theorem uX(x y:Pt):∀ l,y∈pM x l↔y=x\/y∈l
 | []=>by simp[pM]
 | z::l=>by
  unfold pM;split
  ·rw[List.mem_cons,uX x y l,List.mem_cons];constructor
   ·rintro(h | h | h)
    ·exact .inr (.inl h)
    ·exact .inl h
    ·exact .inr (.inr h)
   ·rintro(h | h | h)
    ·exact .inr (.inl h)
    ·exact .inl h
    ·exact .inr (.inr h)
  ·simp
theorem uV(x:Pt):∀ l,Stb (x::l) (pM x l)
 | []=>Stb.refl _
 | y::l=>by
  unfold pM;split
  ·rename_i h;have h1:Stb (x::y::l) (y::x::l):=by have:=(Stb.swap (X:=[x]) (Y:=[y]) (by intro a ha b hb;simp at ha hb;subst ha;subst hb;omega)).append (Stb.refl l);simpa using this
   have h2:Stb (y::x::l) (y::pM x l):=by have:=(Stb.refl [y]).append (uV x l);simpa using this
   exact h1.trans h2
  ·exact Stb.refl _
theorem uW(x:Pt):∀ l,Srt l->Srt (pM x l)
 | [],_=>yO x
 | y::l,h=>by
  have hc:=dm.1 h;unfold pM;split
  ·rename_i hlt;refine dm.2 ⟨fun z hz=>?_,uW x l hc.2⟩;rcases(uX x z l).1 hz with rfl | hz
   ·omega
   ·exact hc.1 z hz
  ·rename_i hlt;refine dm.2 ⟨fun z hz=>?_,h⟩;rcases List.mem_cons.1 hz with rfl | hz
   ·omega
   ·have:=hc.1 z hz;omega
theorem cP:∀ l,Stb l (di l)
 | []=>Stb.refl _
 | x::l=>by have:=(Stb.refl [x]).append (cP l);exact Stb.trans (by simpa using this) (uV x _)
theorem qE:∀ l,Srt (di l)
 | []=>Srt.nil
 | x::l=>uW x _ (qE l)
theorem Gw{l l':List Pt}(h:Stb l l')(hs:Srt l'):l'=di l :=
 (nw (qE l) hs ⟨h.perm.trans (cP l).perm.symm,fun k=>(h.fil k).trans ((cP l).fil k).symm⟩).symm
theorem eE(X:List Pt)(y:Pt)(Z:List Pt)(j:Nat)(h:X.length=j):(X++y::Z)[j]?.getD z2=y:=by subst h;simp
theorem oI(X:List Pt)(x y:Pt)(Z:List Pt)(j:Nat)(h:X.length=j):(X++x::y::Z)[j+1]?.getD z2=y:=by subst h;simp
theorem yN(X:List Pt)(p x:Pt)(Z:List Pt)(j:Nat)(h:X.length=j):((X++p::x::Z).set (j+1) p).set j x=X++x::p::Z:=by subst h;simp
theorem swap_nb'(X:List Pt)(p x:Pt)(Z:List Pt)(j:Nat)(h:X.length=j):((X++p::x::Z).set j x).set (j+1) p=X++x::p::Z:=by subst h;simp
theorem uU{P Q:List Pt}{x:Pt}(hs:Srt (P++Q))(hq:∀ q∈Q,x.2<q.2)(hp:∀ p∈P,p.2<=x.2):Srt (P++x::Q)/\Stb (P++Q++[x]) (P++x::Q):=by
 have h:=aT.1 hs;refine⟨aT.2 ⟨h.1,dm.2 ⟨fun y hy=>by have:=hq y hy;omega,h.2.1⟩,fun a ha y hy=>?_⟩,?_⟩
 ·rcases List.mem_cons.1 hy with rfl | hy
  ·exact hp a ha
  ·exact h.2.2 a ha y hy
 ·have:=(Stb.refl P).append (Stb.swap (X:=Q) (Y:=[x]) (fun a ha b hb=>by simp at hb;subst hb;have:=hq a ha;omega));simpa using this
theorem Ea{P:List Pt}{p:Pt}(h:Srt (P++[p])){c:Int}(hc:p.2<=c):∀ a∈P++[p],a.2<=c:=by
 intro a ha;rcases List.mem_append.1 ha with h1 | h1
 ·have:=(aT.1 h).2.2 a h1 p (by simp);omega
 ·simp at h1;subst h1;exact hc
def jq(a b:Int):Int:=if a<b then -1 else if b<a then 1 else 0
theorem kS(a b:Int):(jq a b<0)↔a<b:=by unfold jq;split <;> (try split) <;> omega
theorem ly(a:Int)(w:World):Calls prog 377 #[.int .u8 a] w fun e w'=>e=.returned (.bool false)/\w'=w:=by go_enter func377,ntmps377;go_wp2;go_ret;exact⟨by simp,rfl⟩
theorem vV(a b:Int)(w:World):Calls prog 364 #[.int .u8 a,.int .u8 b] w fun e w'=>e=.returned (.int .i64 (jq a b))/\w'=w:=by
 obtain⟨c,hc⟩:∃ c,c=jq a b:=⟨_,rfl⟩;have HC:=hid hc;rw[<-hc];clear hc;by_cases h1:a<b
 ·have HE:Hid (c=-1):=by show _=_;rw[HC.out];unfold jq;rw[if_pos h1]
  clear HC;go_enter func364,ntmps364;go_wp2_with(go_at_call 377;refine(ly _ _).mono ?_;rintro e w' ⟨rfl,rfl⟩);go_ret;exact⟨by rw[HE.out];rfl,rfl⟩
 ·by_cases h2:b<a
  ·have HE:Hid (c=1):=by show _=_;rw[HC.out];unfold jq;rw[if_neg h1,if_pos h2]
   clear HC;go_enter func364,ntmps364;go_wp2_with(go_at_call 377;refine(ly _ _).mono ?_;rintro e w' ⟨rfl,rfl⟩);go_ret;exact⟨by rw[HE.out];rfl,rfl⟩
  ·have HE:Hid (c=0):=by show _=_;rw[HC.out];unfold jq;rw[if_neg h1,if_neg h2]
   clear HC;go_enter func364,ntmps364;go_wp2_with(go_at_call 377;refine(ly _ _).mono ?_;rintro e w' ⟨rfl,rfl⟩);go_ret;exact⟨by rw[HE.out];rfl,rfl⟩
theorem fx(x y:Pt)(w:World):Calls prog 363 #[.agg #[.int .i32 x.1,.int .u8 x.2],.agg #[.int .i32 y.1,.int .u8 y.2]] w fun e w'=>e=.returned (.int .i64 (jq x.2 y.2))/\Below w.heap.size w w':=by go_enter func363,ntmps363;go_wp2_with fail;refine(vV _ _ _).mono ?_;rintro e w' ⟨rfl,rfl⟩;go_wp2;go_ret;exact⟨rfl,((Below.refl _ w).alloc (le_refl _) _).alloc (by simp) _⟩
theorem zI(b o cap n a m:Nat)(A M C:List Pt)(W:World)(ha:A.length=a)(hm:M.length=m)(hn:a+m+C.length=n)(hsz:n<=1000000)(hP:Pts W b o (A++M++C)):
  Calls prog 382 #[.slice (some ⟨b,o,none⟩) n cap,.int .i64 a,.int .i64 (a+m:Nat),.func (.func 363) #[] #[]] W fun e W'=>e=.returned (.tuple #[])/\∃ M',Pts W' b o (A++M'++C)/\Chg b o n W W'/\Srt M'/\Stb M M':=by
 obtain⟨t,ht⟩:=Ex' (a+m);have htn:t<=n:=by omega
 rw[ht];have HA:=hid ha;have HM:=hid hm;have HN:=hid hn;have HT:=hid ht;have HP:=hid hP;clear ha hm hn ht hP;by_cases hm0:m=0
 ·have hM0:Hid (M=[]):=List.length_eq_zero_iff.1 (by rw[HM.out,hm0]);have hta:t=a:=by have:=HT.out;omega
  go_enter func382,ntmps382;go_wp2_with fail;refine wp_loop_rounds 1 ?_;rw[rounds_succ];go_wp2;all_goals first | (exfalso;omega) | skip
  go_end0
  exact⟨rfl,M,HP.out,Chg.refl HP.out n,by rw[hM0.out];exact Srt.nil,Stb.refl _⟩
 have hat:a+1<=t:=by have:=HT.out;omega
 go_enter func382,ntmps382;go_wp2_with fail
 go_loopw [8] (fun i wr=>∃(k:Nat) (D:List Pt),a+1<=k/\k<=t/\i=.int .i64 k/\Pts wr b o (A++D++(M.drop (k - a)++C))/\Hid (D.length=k - a)/\Hid (Srt D)/\Hid (Stb (M.take (k - a)) D)/\Chg b o n W wr)
  (fun i _=>t - (intOf i).toNat)
 case atStart =>
  refine⟨a+1,M.take 1,le_refl _,hat,by go_num,?_,?_,?_,?_,Chg.refl HP.out n⟩
  ·have:=HP.out;rw[show a+1 - a=1 by omega];rw[show A++M.take 1++(M.drop 1++C)=A++M++C by rw[append_assoc,<-append_assoc (M.take 1),take_append_drop,append_assoc]];exact this
  ·show _=_;rw[List.length_take,HM.out];omega
  ·show Srt _
   obtain⟨x,M',hM'⟩:∃ x M',M=x::M':=by
    cases M with
    | nil=>exact absurd HM.out (by simp;omega)
    | cons x M'=>exact⟨x,M',rfl⟩
   rw[hM'];exact yO x
  ·show Stb _ _;rw[show a+1 - a=1 by omega];exact Stb.refl _
 case round =>
  obtain⟨k,D,hk1,hk2,rfl,hPr,HL,HS,HB,hCr⟩:=hrel;by_cases hlt:k<t
  ·have hltz:(k:Int)<(t:Int):=by omega
   obtain⟨x,R,hx⟩:∃ x R,M.drop (k - a)=x::R:=by
    have hh:k - a<M.length:=by rw[HM.out];have:=HT.out;omega
    exact⟨M[k - a],M.drop (k - a+1),drop_eq_getElem_cons hh⟩
   have HR:Hid (M.drop (k+1 - a)=R/\M.take (k+1 - a)=M.take (k - a)++[x]):=by
    have hh:k - a<M.length:=by rw[HM.out];have:=HT.out;omega
    have e:=drop_eq_getElem_cons hh;rw[hx]at e;obtain⟨e1,e2⟩:=List.cons.inj e;rw[show k+1 - a=k - a+1 by omega];exact⟨e2.symm,by rw[List.take_succ_eq_append_getElem hh,e1]⟩
   rw[hx]at hPr;have HPr:=hid hPr;have HCr:=hid hCr;clear hx hPr hCr;go_wp2_with fail
   go_loopw [9] (fun j wr=>∃(i:Nat) (P Q:List Pt),a<=i/\i<=k/\j=.int .i64 i/\Pts wr b o (A++P++x::(Q++(R++C)))/\Hid (a+P.length=i)/\Hid (P++Q=D)/\Hid (∀ q∈Q,x.2<q.2)/\Chg b o n W wr)
    (fun j _=>(intOf j).toNat)
   case atStart =>
    refine⟨k,D,[],by omega,le_refl _,rfl,by simpa using HPr.out,?_,?_,?_,HCr.out⟩
    ·show _=_;have:=HL.out;omega
    ·show _=_;simp
    ·intro q hq;cases hq
   case round =>
    obtain⟨i,P,Q,hi1,hi2,rfl,hPq,HPL,HPQ,HQ,hCq⟩:=hrel
    have FIN:Hid ((∀ p∈P,p.2<=x.2)->Srt (P++x::Q)/\Stb (M.take (k+1 - a)) (P++x::Q)/\(P++x::Q).length=k+1 - a):=fun hp=>by
     have h:=uU (by rw[HPQ.out];exact HS.out) HQ.out hp;refine⟨h.1,?_,?_⟩
     ·rw[HR.out.2];refine(HB.out.append (Stb.refl [x])).trans ?_;rw[<-HPQ.out];exact h.2
     ·have h2:=h.2.len;rw[h2,length_append,HPQ.out,HL.out];simp;omega
    by_cases hia:a<i
    ·obtain⟨j,rfl⟩:∃ j,i=j+1:=⟨i - 1,by omega⟩;obtain⟨P',p,hP'⟩:∃ P' p,P=P'++[p]:=by refine⟨P.dropLast,P.getLast (fun h=>?_),(List.dropLast_concat_getLast _).symm⟩;have:=HPL.out;rw[h]at this;simp at this;omega
     have hPl:(A++P').length=j:=by have:=HPL.out;rw[hP']at this;have h2:=HA.out;simp at this ⊢;omega
     have hPq2:Pts wr b o ((A++P')++p::x::(Q++(R++C))):=by rw[hP']at hPq;simpa using hPq
     have hlen2:((A++P')++p::x::(Q++(R++C))).length=n:=by have h1:=HPL.out;have h2:=HPQ.out;have h3:=HL.out;have h4:=HR.out.1;have h5:=HN.out;have h6:=HM.out;have h7:=congrArg List.length h2;have h8:=congrArg List.length h4;rw[hP']at h1 h7;simp at h1 h7 h8 hPl ⊢;have:=HT.out;omega
     have e0:=hPq2.c0 j (by omega);have e1:=hPq2.c1 j (by omega);have e2:=hPq2.c0 (j+1) (by omega);have e3:=hPq2.c1 (j+1) (by omega);rw[eE _ _ _ _ hPl]at e0 e1;rw[oI _ _ _ _ _ hPl]at e2 e3;have jz:(j:Int)+1<(n:Int):=by omega
     have jz1:(j:Int)<(n:Int):=by omega
     have jz0:(a:Int)<(j:Int)+1:=by omega
     have j0:(0:Int)<=(j:Int):=by omega
     have j1:(0:Int)<=(j:Int)+1:=by omega
     have je:((j:Int)+1).toNat=j+1:=by omega
     have hne:Nonempty (aH wr):=⟨⟨wr,Below.refl _ _⟩⟩;have hlb:b<wr.heap.size:=hPq2.lt;have x0:∀ y:aH wr,y.W.cell? ⟨b,o+j * 2,none⟩=some (.int .i32 p.1):=fun y=>(y.h.cell (p:=⟨b,o+j * 2,none⟩) hlb).trans e0;have x1:∀ y:aH wr,y.W.cell? ⟨b,o+j * 2+1,none⟩=some (.int .u8 p.2):=fun y=>(y.h.cell (p:=⟨b,o+j * 2+1,none⟩) hlb).trans e1;have x2:∀ y:aH wr,y.W.cell? ⟨b,o+(j+1) * 2,none⟩=some (.int .i32 x.1):=fun y=>(y.h.cell (p:=⟨b,o+(j+1) * 2,none⟩) hlb).trans e2;have x3:∀ y:aH wr,y.W.cell? ⟨b,o+(j+1) * 2+1,none⟩=some (.int .u8 x.2):=fun y=>(y.h.cell (p:=⟨b,o+(j+1) * 2+1,none⟩) hlb).trans e3;have hcall:Hid (∀ W:World,Calls prog 363 #[.agg #[.int .i32 x.1,.int .u8 x.2],.agg #[.int .i32 p.1,.int .u8 p.2]] W fun e w'=>e=.returned (.int .i64 (jq x.2 p.2))/\Below W.heap.size W w'):=fun W=>fx x p W;have hci:=kS x.2 p.2;generalize jq x.2 p.2=ci at hci hcall;have HP':=hid hP';clear e0 e1 e2 e3 hP';by_cases hxp:x.2<p.2
     ·have hci':ci<0:=hci.2 hxp;clear hci;go_wp2_with fail;refine aw (by kernel_rfl) (by kernel_rfl) ?_;repeat (go_big_quiet_step ((go_at_call 363;exact aH.call _ (hcall.out _))))
      refine wpQuiet_nil ?_;rintro _ ⟨y,rfl⟩;have hPy:Pts y.W b o ((A++P')++p::x::(Q++(R++C))):=hPq2.below y.h hlb;have hCy:Chg b o n W y.W:=hCq.below y.h;have y0:=x0 y;have y1:=x1 y;have y2:=x2 y;have y3:=x3 y;clear x0 x1 x2 x3 hPq hPq2 hCq hne;generalize y.W=wy at *;have f0:wy.frozen? ⟨b,o+j * 2,none⟩=false:=hPy.fr _;have f1:wy.frozen? ⟨b,o+j * 2+1,none⟩=false:=hPy.fr _;have f2:wy.frozen? ⟨b,o+(j+1) * 2,none⟩=false:=hPy.fr _;have f3:wy.frozen? ⟨b,o+(j+1) * 2+1,none⟩=false:=hPy.fr _;have HPy:=hid hPy;have HCy:=hid hCy;clear hPy hCy;go_wp2_with fail
      go_region
      have hPn:=(HPy.out.set (j+1) p (by omega)).set j x (by rw[List.length_set];omega);rw[yN _ _ _ _ _ hPl]at hPn;have hCn:=((((HCy.out.set (o+(j+1) * 2) (.int .i32 p.1) (by omega) (by omega)).set (o+(j+1) * 2+1) (.int .u8 p.2) (by omega) (by omega)).set (o+j * 2) (.int .i32 x.1) (by omega) (by omega)).set (o+j * 2+1) (.int .u8 x.2) (by omega) (by omega)).drew;have HPn:=hid hPn.drew;have HCn:=hid hCn;clear hPn hCn HPy HCy y0 y1 y2 y3 f0 f1 f2 f3;generalize World.drew _=wn at HPn HCn ⊢;go_wp2
      go_roundw
      case rel =>
       refine⟨j,P',p::Q,by omega,by omega,by go_num,?_,?_,?_,?_,HCn.out⟩
       ·simpa using HPn.out
       ·show _=_;have:=hPl;have h2:=HA.out;simp at this;omega
       ·show _=_;rw[<-HPQ.out,HP'.out];simp
       ·intro q hq;rcases List.mem_cons.1 hq with rfl | hq
        ·exact hxp
        ·exact HQ.out q hq
      case measure=>simp[intOf] <;> omega
     ·have hci':¬ ci<0:=fun h=>hxp (hci.1 h);have hcd:decide (ci<0)=false:=by simpa using hci'
      clear hci;go_wp2_with fail;refine aw (by kernel_rfl) (by kernel_rfl) ?_;repeat (go_big_quiet_step ((go_at_call 363;exact aH.call _ (hcall.out _))))
      refine wpQuiet_nil ?_;rintro _ ⟨y,rfl⟩;have hPy:Hid (Pts y.W b o (A++P++x::(Q++(R++C)))):=hPq.below y.h hlb;have hCy:Hid (Chg b o n W y.W):=hCq.below y.h;have hall:∀ a∈P,a.2<=x.2:=by rw[HP'.out];refine Ea ?_ (by omega);have h1:=HS.out;rw[<-HPQ.out,HP'.out]at h1;exact(aT.1 h1).1
      have HF:=hid (FIN.out hall);clear x0 x1 x2 x3 hPq hPq2 hCq hne;generalize y.W=wy at *;go_wp2
      go_roundw
      case rel =>
       refine⟨k+1,P++x::Q,by omega,by omega,by go_num,?_,HF.out.2.2,HF.out.1,HF.out.2.1,hCy.out⟩;rw[HR.out.1];have:=hPy.out;simpa using this
      case measure=>simp[intOf];omega
    ·have hia':decide ((a:Int)<(i:Int))=false:=by simp;omega
     have hia2:¬ (a:Int)<(i:Int):=by omega
     have hP0:P=[]:=List.length_eq_zero_iff.1 (by have:=HPL.out;omega);have HF:=hid (FIN.out (fun p hp=>by rw[hP0]at hp;cases hp));have HPq:=hid hPq;have HCq:=hid hCq;clear hPq hCq hP0 FIN;go_wp2_with fail
     go_region
     have HPq:=hid HPq.out.drew;have HCq:=hid HCq.out.drew;generalize World.drew _=wn at HPq HCq ⊢;go_wp2
     go_roundw
     case rel =>
      refine⟨k+1,P++x::Q,by omega,by omega,by go_num,?_,HF.out.2.2,HF.out.1,HF.out.2.1,HCq.out⟩;rw[HR.out.1];have:=HPq.out;simpa using this
     case measure=>simp[intOf];omega
  ·have hltz:¬ (k:Int)<(t:Int):=by omega
   have hk:k=t:=by omega
   have HE:Hid (M.drop (k - a)=[]/\M.take (k - a)=M):=by
    have:M.length<=k - a:=by rw[HM.out];have:=HT.out;omega
    exact⟨List.drop_of_length_le this,List.take_of_length_le this⟩
   go_wp2
   go_end0
   refine⟨rfl,D,?_,hCr,HS.out,?_⟩
   ·rw[HE.out.1]at hPr;simpa using hPr
   ·have:=HB.out;rw[HE.out.2]at this;exact this
end N
end Go.Proofs.YtlmflmdmolcfhaaGreatDoor
