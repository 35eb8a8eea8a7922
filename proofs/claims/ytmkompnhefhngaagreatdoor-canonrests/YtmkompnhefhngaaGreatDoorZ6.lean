/- Contracts and plain facts. -/
import Derived.Test.YtmkompnhefhngaaGreatDoorZ5
import Derived.Lib.IndexMore
import Derived.Shelf.Strings.Cut
import Derived.OrdersHeld
import Derived.Deep.RegionHeld
import Derived.Shelf.Strconv.AppendUint10
set_option maxRecDepth 100000
set_option maxHeartbeats 16000000
set_option linter.unusedVariables false
set_option linter.unnecessarySimpa false
open Nat (le_refl zero_le le_trans zero_add mod_lt)
open List (contains_eq_any_beq length_map length_append getElem?_eq_getElem any_append map_append drop_zero getElem_mem append_assoc drop_drop getElem?_map map_toArray length_drop drop_left take_left map_cons length_set)
open Go.World (ownsRow_nil)
open ByteArray (data_extract)
open Bool (false_eq_true)
namespace Go.Proofs.YtmkompnhefhngaaGreatDoor
open Tryz Go.RowKit
namespace H
def IA(s t:List Int)(r:Int):Prop:=∃ T:ByteArray,U.bn T=t/\I.zp (I.prc (I.Mp (U.dec s)) false) false T r
theorem asc:Asc IA where
 one:=by rintro s t u r q ⟨T,rfl,h⟩ ⟨V,rfl,k⟩;obtain⟨rfl,rfl⟩:=I.xl h k;exact⟨rfl,rfl⟩
 rest:=by rintro s t ⟨T,rfl,h⟩;exact⟨T,rfl,(I.zR h).1⟩
 low:=by rintro s t ⟨T,rfl,h⟩;exact(I.zR h).2
 num:=by
  intro t ht;obtain⟨T,rfl⟩:=I.wJ t (fun c hc=>by have:=ht c hc;omega)
  exact⟨T,rfl,I.vN (fun c hc=>by
    unfold I.ldd I.ld
    have:=ht c hc
    omega) false⟩
 cap:=by
  obtain⟨T,hT⟩:=I.wJ [101,120,97,109,112,108,101,46,99,111,109] (fun c hc=>by simp at hc;omega);refine⟨T,hT,?_⟩
  have h:=I.vN (t:=T) (fun c hc=>by
    rw[hT]at hc
    unfold I.ldd I.ld
    simp at hc
    omega) false
  have ha:I.bL (U.bn T) [69,88,65,77,80,76,69,46,99,111,109]:=by rw[hT];exact I.bL.cons (I.Alt.cap 101 (by decide)) (I.bL.cons (I.Alt.cap 120 (by decide)) (I.bL.cons (I.Alt.cap 97 (by decide)) (I.bL.cons (I.Alt.cap 109 (by decide)) (I.bL.cons (I.Alt.cap 112 (by decide)) (I.bL.cons (I.Alt.cap 108 (by decide)) (I.bL.cons (I.Alt.cap 101 (by decide)) (I.bL.cons (I.Alt.same 46) (I.bL.cons (I.Alt.same 99) (I.bL.cons (I.Alt.same 111) (I.bL.cons (I.Alt.same 109) I.bL.nil))))))))))
  have e:=I.lv (U.bn T).length (U.bn T) _ (le_refl _) (U.aL T) ha;unfold I.Mp at h ⊢;rw[e];exact h
 len:=by
  rintro s t ⟨T,rfl,h⟩ hb hl;rcases h with⟨_,_,h⟩ | ⟨ts,hp,⟨_,_,_,h⟩ | ⟨_,hj,_⟩⟩
  ·cases h
  ·cases h
  ·have hX:=I.ny s hb;have hsc:=I.nw _ (I.jh s hb);have he:=I.lK (I.Mp (U.dec s)) false (by omega) hsc;have hz:=I.gI hp (fun x hx=>(he x hx).2.1);have hn:ts.length<=8193:=by rw[hp.1];rw[I.mT];have:=I.eK (I.Mp (U.dec s));omega
   rw[hj]
   have hjl:=I.join_len' (ts.map U.bn) 20000 (fun l hl=>by
     obtain⟨t,ht,rfl⟩:=List.mem_map.1 hl
     rw[U.aa];exact hz t ht)
   rw[length_map]at hjl;have h2:ts.length * (20000+1)<=8193 * (20000+1):=Nat.mul_le_mul_right _ hn;omega
 bln:=by
  rintro d r ⟨T,rfl,h⟩;left;have e:I.prc (I.Mp (U.dec [97,32,98])) false=[([97,32,98],64)]:=by decide +kernel
  rw[e]at h;rcases h with⟨_,_,rfl⟩ | ⟨ts,hp,_⟩
  ·decide
  ·exact absurd (I.qZ hp) (by decide)
end H
namespace E
theorem qk{t:ByteArray}(h:t.data.toList.all (fun b=>decide (b.toNat<128))=true):Asc t:=fun b hb=>by have:=List.all_eq_true.1 h b hb;exact of_decide_eq_true this
def a6:List Int:=[36,37,38,43,44]
theorem Sw(r:Int)(hr:U.ar r=true)(w:World):Calls prog 174 #[.string ⟨#[36,37,38,43,44]⟩,.int .i32 r] w fun e W'=>e=.returned (.bool (a6.contains r))/\Below w.heap.size w W' :=
 bP ⟨#[36,37,38,43,44]⟩ (qk (by decide)) (by decide) r hr w
def a5:List Int:=[47,58,59,61,64,91,92,93,124]
theorem RN(r:Int)(hr:U.ar r=true)(w:World):Calls prog 174 #[.string ⟨#[47,58,59,61,64,91,92,93,124]⟩,.int .i32 r] w fun e W'=>e=.returned (.bool (a5.contains r))/\Below w.heap.size w W' :=
 bP ⟨#[47,58,59,61,64,91,92,93,124]⟩ (qk (by decide)) (by decide) r hr w
def a4:List Int:=[63,94,96,123,125]
theorem PY(r:Int)(hr:U.ar r=true)(w:World):Calls prog 174 #[.string ⟨#[63,94,96,123,125]⟩,.int .i32 r] w fun e W'=>e=.returned (.bool (a4.contains r))/\Below w.heap.size w W' :=
 bP ⟨#[63,94,96,123,125]⟩ (qk (by decide)) (by decide) r hr w
def a2:List Int:=[32,34,35,60,62]
theorem MC(r:Int)(hr:U.ar r=true)(w:World):Calls prog 174 #[.string ⟨#[32,34,35,60,62]⟩,.int .i32 r] w fun e W'=>e=.returned (.bool (a2.contains r))/\Below w.heap.size w W' :=
 bP ⟨#[32,34,35,60,62]⟩ (qk (by decide)) (by decide) r hr w
def a1:List Int:=[32,34,60,62,96]
theorem Sx(r:Int)(hr:U.ar r=true)(w:World):Calls prog 174 #[.string ⟨#[32,34,60,62,96]⟩,.int .i32 r] w fun e W'=>e=.returned (.bool (a1.contains r))/\Below w.heap.size w W' :=
 bP ⟨#[32,34,60,62,96]⟩ (qk (by decide)) (by decide) r hr w
theorem in0(r:Int):inS r 0=ctl r:=by unfold inS;simp[sgn]
theorem in2(r:Int):inS r 2=(a2.contains r||ctl r):=by unfold inS;rw[Bool.or_comm];rfl
theorem in4(r:Int):inS r 4=(a4.contains r||(a2.contains r||ctl r)):=by have e:sgn 4=a2++a4:=rfl;unfold inS;rw[e,contains_eq_any_beq,any_append,<-contains_eq_any_beq,<-contains_eq_any_beq];cases ctl r <;> cases a4.contains r <;> cases a2.contains r <;> rfl
theorem in5(r:Int):inS r 5=(a5.contains r||(a4.contains r||(a2.contains r||ctl r))):=by have e:sgn 5=a2++(a4++a5):=rfl;unfold inS;rw[e,contains_eq_any_beq,any_append,any_append,<-contains_eq_any_beq,<-contains_eq_any_beq,<-contains_eq_any_beq];cases ctl r <;> cases a5.contains r <;> cases a4.contains r <;> cases a2.contains r <;> rfl
theorem in6(r:Int):inS r 6=(a6.contains r||(a5.contains r||(a4.contains r||(a2.contains r||ctl r)))):=by have e:sgn 6=a2++(a4++(a5++a6)):=rfl;unfold inS;rw[e,contains_eq_any_beq,any_append,any_append,any_append,<-contains_eq_any_beq,<-contains_eq_any_beq,<-contains_eq_any_beq,<-contains_eq_any_beq];cases ctl r <;> cases a6.contains r <;> cases a5.contains r <;> cases a4.contains r <;> cases a2.contains r <;> rfl
theorem in1(r:Int):inS r 1=(a1.contains r||ctl r):=by unfold inS;rw[Bool.or_comm];rfl
theorem in3(r:Int):inS r 3=((r==39)||inS r 2):=by
 have e:sgn 3=a2++[39]:=rfl;rw[in2];unfold inS;rw[e,contains_eq_any_beq,any_append,<-contains_eq_any_beq];have e2:([39]:List Int).any (fun x=>r==x)=(r==39):=by simp
 rw[e2];cases ctl r <;> cases a2.contains r <;> cases (r==39) <;> rfl
theorem Ro(r:Int)(hr:U.ar r=true)(w:World):Calls prog 122 #[.int .i32 r,.int .u8 0] w fun e W'=>e=.returned (.bool (inS r 0))/\Below w.heap.size w W':=by
 obtain⟨h0,h1⟩:=aS hr;have hct:ctl r=(decide (r<32)||decide (126<r)):=rfl
 have hcc:(r<32/\ctl r=true)\/(¬ r<32/\126<r/\ctl r=true)\/(¬ r<32/\¬ 126<r/\ctl r=false):=by
  by_cases c1:r<32
  ·left;exact⟨c1,by rw[hct,decide_eq_true c1];rfl⟩
  ·by_cases c2:126<r
   ·right;left;exact⟨c1,c2,by rw[hct,decide_eq_true c2];simp⟩
   ·right;right;exact⟨c1,c2,by rw[hct,decide_eq_false c1,decide_eq_false c2];rfl⟩
 rw[in0];obtain⟨x,ex⟩:=Ex' (ctl r);rw[ex]at hcc ⊢;clear ex hct hr;have HB:Hid (Below w.heap.size w w):=Below.refl _ _;go_enter func122,ntmps122;rcases hcc with⟨c1,rfl⟩ | ⟨c1,c2,rfl⟩ | ⟨c1,c2,rfl⟩
 all_goals (go_wp2;go_ret;first | exact⟨rfl,HB.out⟩ | exact⟨U.bF (by rw[decide_eq_false (by omega:¬ r<32),decide_eq_false (by omega:¬ 126<r)] <;> rfl),HB.out⟩ | exact⟨U.bF (by rw[decide_eq_true (by omega:126<r)];simp),HB.out⟩ | exact⟨U.bF (by rw[decide_eq_true (by omega:r<32)];rfl),HB.out⟩)
theorem Rn(r:Int)(hr:U.ar r=true)(w:World):Calls prog 122 #[.int .i32 r,.int .u8 2] w fun e W'=>e=.returned (.bool (inS r 2))/\Below w.heap.size w W':=by
 obtain⟨h0,h1⟩:=aS hr;have hct:ctl r=(decide (r<32)||decide (126<r)):=rfl
 have hcc:(r<32/\ctl r=true)\/(¬ r<32/\126<r/\ctl r=true)\/(¬ r<32/\¬ 126<r/\ctl r=false):=by
  by_cases c1:r<32
  ·left;exact⟨c1,by rw[hct,decide_eq_true c1];rfl⟩
  ·by_cases c2:126<r
   ·right;left;exact⟨c1,c2,by rw[hct,decide_eq_true c2];simp⟩
   ·right;right;exact⟨c1,c2,by rw[hct,decide_eq_false c1,decide_eq_false c2];rfl⟩
 rw[in2];have H2:=hid (fun W=>MC r hr W);obtain⟨b2,e2⟩:=Ex' (a2.contains r);rw[e2]at H2 ⊢;clear e2;obtain⟨x,ex⟩:=Ex' (ctl r);rw[ex]at hcc ⊢;clear ex hct hr;have HB:Hid (Below w.heap.size w w):=Below.refl _ _;go_enter func122,ntmps122;go_wp2_with fail;refine(H2.out _).mono ?_;rintro e w' ⟨rfl,B⟩;replace HB:=Bt' HB B;clear B H2;cases b2
 case true=>(go_wp2;go_ret;exact⟨rfl,HB.out⟩)
 rcases hcc with⟨c1,rfl⟩ | ⟨c1,c2,rfl⟩ | ⟨c1,c2,rfl⟩
 all_goals (go_wp2;go_ret;first | exact⟨rfl,HB.out⟩ | exact⟨U.bF (by rw[decide_eq_false (by omega:¬ r<32),decide_eq_false (by omega:¬ 126<r)] <;> rfl),HB.out⟩ | exact⟨U.bF (by rw[decide_eq_true (by omega:126<r)];simp),HB.out⟩ | exact⟨U.bF (by rw[decide_eq_true (by omega:r<32)];rfl),HB.out⟩)
theorem Si(r:Int)(hr:U.ar r=true)(w:World):Calls prog 122 #[.int .i32 r,.int .u8 4] w fun e W'=>e=.returned (.bool (inS r 4))/\Below w.heap.size w W':=by
 obtain⟨h0,h1⟩:=aS hr;have hct:ctl r=(decide (r<32)||decide (126<r)):=rfl
 have hcc:(r<32/\ctl r=true)\/(¬ r<32/\126<r/\ctl r=true)\/(¬ r<32/\¬ 126<r/\ctl r=false):=by
  by_cases c1:r<32
  ·left;exact⟨c1,by rw[hct,decide_eq_true c1];rfl⟩
  ·by_cases c2:126<r
   ·right;left;exact⟨c1,c2,by rw[hct,decide_eq_true c2];simp⟩
   ·right;right;exact⟨c1,c2,by rw[hct,decide_eq_false c1,decide_eq_false c2];rfl⟩
 rw[in4];have H4:=hid (fun W=>PY r hr W);obtain⟨b4,e4⟩:=Ex' (a4.contains r);rw[e4]at H4 ⊢;clear e4;have H2:=hid (fun W=>MC r hr W);obtain⟨b2,e2⟩:=Ex' (a2.contains r);rw[e2]at H2 ⊢;clear e2;obtain⟨x,ex⟩:=Ex' (ctl r);rw[ex]at hcc ⊢;clear ex hct hr;have HB:Hid (Below w.heap.size w w):=Below.refl _ _;go_enter func122,ntmps122;go_wp2_with fail;refine(H4.out _).mono ?_;rintro e w' ⟨rfl,B⟩;replace HB:=Bt' HB B;clear B H4;cases b4
 case true=>(go_wp2;go_ret;exact⟨rfl,HB.out⟩)
 go_wp2_with fail;refine(H2.out _).mono ?_;rintro e w' ⟨rfl,B⟩;replace HB:=Bt' HB B;clear B H2;cases b2
 case true=>(go_wp2;go_ret;exact⟨rfl,HB.out⟩)
 rcases hcc with⟨c1,rfl⟩ | ⟨c1,c2,rfl⟩ | ⟨c1,c2,rfl⟩
 all_goals (go_wp2;go_ret;first | exact⟨rfl,HB.out⟩ | exact⟨U.bF (by rw[decide_eq_false (by omega:¬ r<32),decide_eq_false (by omega:¬ 126<r)] <;> rfl),HB.out⟩ | exact⟨U.bF (by rw[decide_eq_true (by omega:126<r)];simp),HB.out⟩ | exact⟨U.bF (by rw[decide_eq_true (by omega:r<32)];rfl),HB.out⟩)
theorem Sh(r:Int)(hr:U.ar r=true)(w:World):Calls prog 122 #[.int .i32 r,.int .u8 5] w fun e W'=>e=.returned (.bool (inS r 5))/\Below w.heap.size w W':=by
 obtain⟨h0,h1⟩:=aS hr;have hct:ctl r=(decide (r<32)||decide (126<r)):=rfl
 have hcc:(r<32/\ctl r=true)\/(¬ r<32/\126<r/\ctl r=true)\/(¬ r<32/\¬ 126<r/\ctl r=false):=by
  by_cases c1:r<32
  ·left;exact⟨c1,by rw[hct,decide_eq_true c1];rfl⟩
  ·by_cases c2:126<r
   ·right;left;exact⟨c1,c2,by rw[hct,decide_eq_true c2];simp⟩
   ·right;right;exact⟨c1,c2,by rw[hct,decide_eq_false c1,decide_eq_false c2];rfl⟩
 rw[in5];have H5:=hid (fun W=>RN r hr W);obtain⟨b5,e5⟩:=Ex' (a5.contains r);rw[e5]at H5 ⊢;clear e5;have H4:=hid (fun W=>PY r hr W);obtain⟨b4,e4⟩:=Ex' (a4.contains r);rw[e4]at H4 ⊢;clear e4;have H2:=hid (fun W=>MC r hr W);obtain⟨b2,e2⟩:=Ex' (a2.contains r);rw[e2]at H2 ⊢;clear e2;obtain⟨x,ex⟩:=Ex' (ctl r);rw[ex]at hcc ⊢;clear ex hct hr;have HB:Hid (Below w.heap.size w w):=Below.refl _ _;go_enter func122,ntmps122;go_wp2_with fail;refine(H5.out _).mono ?_;rintro e w' ⟨rfl,B⟩;replace HB:=Bt' HB B;clear B H5;cases b5
 case true=>(go_wp2;go_ret;exact⟨rfl,HB.out⟩)
 go_wp2_with fail;refine(H4.out _).mono ?_;rintro e w' ⟨rfl,B⟩;replace HB:=Bt' HB B;clear B H4;cases b4
 case true=>(go_wp2;go_ret;exact⟨rfl,HB.out⟩)
 go_wp2_with fail;refine(H2.out _).mono ?_;rintro e w' ⟨rfl,B⟩;replace HB:=Bt' HB B;clear B H2;cases b2
 case true=>(go_wp2;go_ret;exact⟨rfl,HB.out⟩)
 rcases hcc with⟨c1,rfl⟩ | ⟨c1,c2,rfl⟩ | ⟨c1,c2,rfl⟩
 all_goals (go_wp2;go_ret;first | exact⟨rfl,HB.out⟩ | exact⟨U.bF (by rw[decide_eq_false (by omega:¬ r<32),decide_eq_false (by omega:¬ 126<r)] <;> rfl),HB.out⟩ | exact⟨U.bF (by rw[decide_eq_true (by omega:126<r)];simp),HB.out⟩ | exact⟨U.bF (by rw[decide_eq_true (by omega:r<32)];rfl),HB.out⟩)
theorem Sf(r:Int)(hr:U.ar r=true)(w:World):Calls prog 122 #[.int .i32 r,.int .u8 6] w fun e W'=>e=.returned (.bool (inS r 6))/\Below w.heap.size w W':=by
 obtain⟨h0,h1⟩:=aS hr;have hct:ctl r=(decide (r<32)||decide (126<r)):=rfl
 have hcc:(r<32/\ctl r=true)\/(¬ r<32/\126<r/\ctl r=true)\/(¬ r<32/\¬ 126<r/\ctl r=false):=by
  by_cases c1:r<32
  ·left;exact⟨c1,by rw[hct,decide_eq_true c1];rfl⟩
  ·by_cases c2:126<r
   ·right;left;exact⟨c1,c2,by rw[hct,decide_eq_true c2];simp⟩
   ·right;right;exact⟨c1,c2,by rw[hct,decide_eq_false c1,decide_eq_false c2];rfl⟩
 rw[in6];have H6:=hid (fun W=>Sw r hr W);obtain⟨b6,e6⟩:=Ex' (a6.contains r);rw[e6]at H6 ⊢;clear e6;have H5:=hid (fun W=>RN r hr W);obtain⟨b5,e5⟩:=Ex' (a5.contains r);rw[e5]at H5 ⊢;clear e5;have H4:=hid (fun W=>PY r hr W);obtain⟨b4,e4⟩:=Ex' (a4.contains r);rw[e4]at H4 ⊢;clear e4;have H2:=hid (fun W=>MC r hr W);obtain⟨b2,e2⟩:=Ex' (a2.contains r);rw[e2]at H2 ⊢;clear e2;obtain⟨x,ex⟩:=Ex' (ctl r);rw[ex]at hcc ⊢;clear ex hct hr;have HB:Hid (Below w.heap.size w w):=Below.refl _ _;go_enter func122,ntmps122;go_wp2_with fail;refine(H6.out _).mono ?_;rintro e w' ⟨rfl,B⟩;replace HB:=Bt' HB B;clear B H6;cases b6
 case true=>(go_wp2;go_ret;exact⟨rfl,HB.out⟩)
 go_wp2_with fail;refine(H5.out _).mono ?_;rintro e w' ⟨rfl,B⟩;replace HB:=Bt' HB B;clear B H5;cases b5
 case true=>(go_wp2;go_ret;exact⟨rfl,HB.out⟩)
 go_wp2_with fail;refine(H4.out _).mono ?_;rintro e w' ⟨rfl,B⟩;replace HB:=Bt' HB B;clear B H4;cases b4
 case true=>(go_wp2;go_ret;exact⟨rfl,HB.out⟩)
 go_wp2_with fail;refine(H2.out _).mono ?_;rintro e w' ⟨rfl,B⟩;replace HB:=Bt' HB B;clear B H2;cases b2
 case true=>(go_wp2;go_ret;exact⟨rfl,HB.out⟩)
 rcases hcc with⟨c1,rfl⟩ | ⟨c1,c2,rfl⟩ | ⟨c1,c2,rfl⟩
 all_goals (go_wp2;go_ret;first | exact⟨rfl,HB.out⟩ | exact⟨U.bF (by rw[decide_eq_false (by omega:¬ r<32),decide_eq_false (by omega:¬ 126<r)] <;> rfl),HB.out⟩ | exact⟨U.bF (by rw[decide_eq_true (by omega:126<r)];simp),HB.out⟩ | exact⟨U.bF (by rw[decide_eq_true (by omega:r<32)];rfl),HB.out⟩)
theorem Sk(r:Int)(hr:U.ar r=true)(w:World):Calls prog 122 #[.int .i32 r,.int .u8 1] w fun e W'=>e=.returned (.bool (inS r 1))/\Below w.heap.size w W':=by
 obtain⟨h0,h1⟩:=aS hr;rw[in1];have H1:=hid (fun W=>Sx r hr W);have H0:=hid (fun W=>Ro r hr W);rw[in0]at H0;obtain⟨b1,e1⟩:=Ex' (a1.contains r);rw[e1]at H1 ⊢;obtain⟨x,ex⟩:=Ex' (ctl r);rw[ex]at H0 ⊢;clear ex e1 hr;have HB:Hid (Below w.heap.size w w):=Below.refl _ _;go_enter func122,ntmps122;go_wp2_with fail;refine(H1.out _).mono ?_;rintro e w' ⟨rfl,B⟩;replace HB:=Bt' HB B;clear B H1;cases b1
 case true=>(go_wp2;go_ret;exact⟨rfl,HB.out⟩)
 go_wp2_with fail;refine(H0.out _).mono ?_;rintro e w' ⟨rfl,B⟩;replace HB:=Bt' HB B;clear B H0;go_wp2;go_ret;exact⟨rfl,HB.out⟩
theorem Sj(r:Int)(hr:U.ar r=true)(w:World):Calls prog 122 #[.int .i32 r,.int .u8 3] w fun e W'=>e=.returned (.bool (inS r 3))/\Below w.heap.size w W':=by
 obtain⟨h0,h1⟩:=aS hr;rw[in3];have H2:=hid (fun W=>Rn r hr W);obtain⟨x,ex⟩:=Ex' (inS r 2);rw[ex]at H2 ⊢;clear ex hr;by_cases h39:r=39
 ·subst h39;go_enter func122,ntmps122;go_wp2;go_ret;exact⟨rfl,Below.refl _ _⟩
 ·have h39b:(r==39)=false:=by simpa using h39
  rw[h39b];clear h39;go_enter func122,ntmps122;go_wp2_with fail;refine(H2.out _).mono ?_;rintro e w' ⟨rfl,B⟩;have HB:=hid B;clear B;go_wp2;go_ret;exact⟨rfl,HB.out⟩
theorem FY(r:Int)(k:Nat)(hr:U.ar r=true)(hk:6<k)(w:World):Calls prog 122 #[.int .i32 r,.int .u8 k] w fun e W'=>e=.returned (.bool (inS r k))/\Below w.heap.size w W':=by
 obtain⟨h0,h1⟩:=aS hr;rw[wk hk];have q6:((k:Int)==6)=false:=by simp;omega
 have q5:((k:Int)==5)=false:=by simp;omega
 have q4:((k:Int)==4)=false:=by simp;omega
 have q2:((k:Int)==2)=false:=by simp;omega
 have q0:((k:Int)==0)=false:=by simp;omega
 have q3:((k:Int)==3)=false:=by simp;omega
 have q1:((k:Int)==1)=false:=by simp;omega
 clear hr;go_enter func122,ntmps122;go_wp2;go_ret;exact⟨rfl,Below.refl _ _⟩
theorem Li(r:Int)(k:Nat)(w:World)(hr:U.ar r=true):Calls prog 122 #[.int .i32 r,.int .u8 k] w fun e W'=>e=.returned (.bool (inS r k))/\Below w.heap.size w W':=by
 by_cases h6:6<k
 ·exact FY r k hr h6 w
 obtain rfl | rfl | rfl | rfl | rfl | rfl | rfl:k=0\/k=1\/k=2\/k=3\/k=4\/k=5\/k=6:=by omega
 ·exact Ro r hr w
 ·exact Sk r hr w
 ·exact Rn r hr w
 ·exact Sj r hr w
 ·exact Si r hr w
 ·exact Sh r hr w
 ·exact Sf r hr w
theorem dh{base n:Nat}{v:Value}{X:List Value}{W:World}(h:W.ownsRow base 5 1 v n X):∃ a cap,v=.slice a n cap:=by
 rcases h.2 with⟨rfl,h0⟩ | ⟨g,cap,cur,rfl,_⟩
 ·exact⟨none,0,by rw[h0]⟩
 ·exact⟨_,cap,rfl⟩
theorem take_one(L:List Int)(k:Nat)(h:k<L.length):L.take (k+1)=L.take k++[L[k]?.getD 0]:=by rw[List.take_succ_eq_append_getElem h,getElem?_eq_getElem h];rfl
theorem qH:∀ p:Fin 16,(((⟨#[48,49,50,51,52,53,54,55,56,57,65,66,67,68,69,70]⟩:ByteArray)[p.val]'(by simp[ByteArray.size])).toNat:Int)=dg p.val:=by decide
theorem IM{p:Int}(h0:0<=p)(h1:p<=15)(h:p.toNat<(⟨#[48,49,50,51,52,53,54,55,56,57,65,66,67,68,69,70]⟩:ByteArray).size):(((⟨#[48,49,50,51,52,53,54,55,56,57,65,66,67,68,69,70]⟩:ByteArray)[p.toNat]'h).toNat:Int)=dg p:=by have:=qH ⟨p.toNat,by omega⟩;simp only at this;rw[this];congr 1;omega
theorem NC:∀ y:Fin 256,bits BinOp.and IntKind.u8 y.val 15=((y.val % 16:Nat):Int):=by decide +kernel
theorem RX{y:Int}(h0:0<=y)(h1:y<=255):bits BinOp.and IntKind.u8 y 15=y % 16:=by have:=NC ⟨y.toNat,by omega⟩;simp only at this;rw[show((y.toNat:Nat):Int)=y by omega]at this;rw[this];omega
theorem Gb(l:List Int)(j:Nat)(h:j<l.length):(l.take (j+1)).flatMap pe=(l.take j).flatMap pe++pe (l[j]?.getD 0):=by rw[take_one l j h,List.flatMap_append];simp
def JJ(base:Nat)(Z:List Int)(w:World)(e:Ending)(W':World):Prop:=∃ a c,e=.returned (.slice a Z.length c)/\W'.ownsRow base 5 1 (.slice a Z.length c) Z.length (Z.map (Value.int .u8))/\Below base w W'
theorem En(base:Nat)(a:Option Addr)(n c:Nat)(X:List Int)(t:ByteArray)(w:World)(hn:n=X.length)(aq:w.ownsRow base 5 1 (.slice a n c) n (X.map (Value.int .u8)))(hb:base<=w.heap.size)(hX:n<=4000000)(ht:t.size<=100):
  Calls prog 123 #[.slice a n c,.string t] w fun e W'=>JJ base (X++(U.bn t).flatMap pe) w e W':=by
 obtain⟨i0,hi,hz0,hz1,hz2⟩:=info_parts U.Tryz.info5
 have HGS:Hid (∀ a c W,W.ownsRow base 5 1 (.slice a (n+3 * t.size) c) (n+3 * t.size) ((X++(U.bn t).flatMap pe).map (Value.int .u8))->Below base w W->JJ base (X++(U.bn t).flatMap pe) w (.returned (.slice a (n+3 * t.size) c)) W):=fun a c W h hB=>by
  have e:n+3 * t.size=(X++(U.bn t).flatMap pe).length:=by rw[length_append,iV,U.aa,hn]
  rw[e]at h ⊢;exact⟨a,c,rfl,h,hB⟩
 have HR0:=hid aq;have HST:Hid (∀ j,j<t.size->_):=fun j (h:j<t.size)=>Gb (U.bn t) j (by rw[U.aa];exact h);have HGT:=hid (bJ t);have HBD:=hid (fun j (h:j<t.size)=>cM (s:=t) h);have HFU:Hid ((U.bn t).take t.size=U.bn t):=List.take_of_length_le (by rw[U.aa];exact le_refl _);clear aq hn;obtain⟨l,hl⟩:=Ex' (U.bn t);rw[hl]at HGS HST HGT HBD HFU ⊢;clear hl;go_enter func123,ntmps123;go_wp2_with fail
 go_loopw [0,8] (fun v0 v8 wr=>∃(j m c:Nat) (a:Option Addr),j<=t.size/\m<=n+3 * j/\n+3 * j<=m/\v0=.slice a m c/\v8=.int .i64 j/\Hid (wr.ownsRow base 5 1 (.slice a m c) m ((X++(l.take j).flatMap pe).map (Value.int .u8)))/\Hid (Below base w wr)) (fun _ v8 _=>t.size - (intOf v8).toNat)
 case atStart=>exact⟨0,n,c,a,zero_le _,by omega,by omega,rfl,rfl,by show World.ownsRow _ _ _ _ _ _ _;rw[List.take_zero];simpa using HR0.out,Below.refl _ _⟩
 case round =>
  obtain⟨j,m,c,a,hj,hm1,hm2,rfl,rfl,HR,HB⟩:=hrel;by_cases hlt:j<t.size
  ·have hg0:=(HGT.out j hlt).symm;obtain⟨hy0,hy1⟩:=HBD.out j hlt;have HS:=hid (HST.out j hlt);have zj:=le_trans hb HB.out.size;obtain⟨y,hy⟩:=Ex' (l[j]?.getD 0);rw[hy]at hg0 hy0 hy1 HS;have HPE:Hid (pe y=[37,dg (y / 16),dg (y % 16)]):=rfl;have hD1:=fun h=>IM (p:=y / 16) (by omega) (by omega) h;have hD2:=fun h=>IM (p:=y % 16) (by omega) (by omega) h;obtain⟨p1,hp1⟩:=Ex' (y / 16);obtain⟨p2,hp2⟩:=Ex' (y % 16);have hand:bits BinOp.and IntKind.u8 y 15=p2:=by rw[RX hy0 hy1];exact hp2
   have hp1a:0<=p1/\p1<=15:=by omega
   have hp2a:0<=p2/\p2<=15:=by omega
   rw[hp1]at HPE hD1;rw[hp2]at HPE hD2;obtain⟨q1,q2⟩:=hp1a;obtain⟨q3,q4⟩:=hp2a;obtain⟨d1,hd1⟩:=Ex' (dg p1);obtain⟨d2,hd2⟩:=Ex' (dg p2);rw[hd1]at HPE hD1;rw[hd2]at HPE hD2;obtain⟨Z,hZ⟩:=Ex' (X++(l.take j).flatMap pe);have HZ:Hid (X++(l.take (j+1)).flatMap pe=Z++[37,d1,d2]):=by show _=_;rw[HS.out,HPE.out,<-append_assoc,hZ]
   rw[hZ]at HR;clear hd1 hd2 hy hZ HPE HS;go_wp2_with fail;refine eI 11 (by kernel_rfl) (by kernel_rfl) ?_;simp only[List.take_succ_cons,List.take_zero,List.drop_succ_cons,drop_zero];refine aF (.slice a m c) rfl (fun W=>by go_simp) ?_;refine aF (.string t) rfl (fun W=>by go_simp) ?_;refine aF (.int .i64 j) rfl (fun W=>by go_simp) ?_;refine aF (.int .u8 y) rfl (fun W=>by go_simp) ?_;refine aF (.int .u8 p1) rfl (fun W=>by go_simp) ?_;refine aF (.int .u8 d1) rfl (fun W=>by go_simp;intro h;omega) ?_;refine aF (.string t) rfl (fun W=>by go_simp) ?_;refine aF (.int .i64 j) rfl (fun W=>by go_simp) ?_;refine aF (.int .u8 y) rfl (fun W=>by go_simp) ?_;refine aF (.int .u8 p2) rfl (fun W=>by go_simp) ?_;refine aF (.int .u8 d2) rfl (fun W=>by go_simp;intro h;omega) ?_;refine jC ?_;show wpList _ _ _ _ _ wr.drew;clear hD1 hD2;go_wp2_with(at_builtin;refine wpList_append_own _ rfl _ _ 36 rfl base 5 i0 (.int .u8 0) 1 1 underlying36 hi hz0 hz1 hz2 rfl (by decide) _ _ _ rfl ((HR.out.drew).alloc _) ⟨wr.heap.size,0,none⟩ 3 3 [.int .u8 37,.int .u8 d1,.int .u8 d2] rfl rfl (U.ee wr.drew _ _) (by simp[Value.oneCell']) (by unfold maxLen;omega) (by omega) (by simp;omega) ?_;intro v3 w3 r3 g3 _;obtain⟨a3,c3,rfl⟩:=dh r3);have G3:Hid ((wr.alloc (.cells #[.int .u8 37,.int .u8 d1,.int .u8 d2] 5)).drew.grownBy w3 (Value.slice a m c).ownBlock):=g3;have R3:=hid r3;clear r3 g3;refine⟨rfl,?_⟩;go_wp2_with fail
   go_roundw
   case rel =>
    refine⟨j+1,m+3,c3,a3,by omega,by omega,by omega,rfl,by go_num,?_,U.below_grow (w1:=(wr.alloc (.cells #[.int .u8 37,.int .u8 d1,.int .u8 d2] 5)).drew) ((HB.out.alloc zj _).drew) (le_trans zj (by simp)) ((HR.out.alloc _).drew) G3.out⟩;show World.ownsRow _ _ _ _ _ _ _;rw[HZ.out,map_append];exact R3.out
   case measure=>simp[intOf];omega
  ·obtain rfl:j=t.size:=by omega
   obtain rfl:m=n+3 * t.size:=by omega
   rw[HFU.out]at HR;go_wp2;go_ret;exact HGS.out _ _ _ HR.out HB.out
def vlu(c:Int):Int:=if 0<=hx c then hx c else 0
theorem fW(c:Int)(h0:0<=c)(h1:c<=255)(w:World):Calls prog 173 #[.int .u8 c] w fun e W'=>e=.returned (.tuple #[.int .u8 (vlu c),.bool (decide (0<=hx c))])/\W'=w:=by
 by_cases a1:48<=c/\c<=57
 ·obtain⟨x1,x2⟩:=a1;have e1:hx c=c - 48:=by unfold hx;(repeat' split) <;> omega
  have e2:vlu c=c - 48:=by unfold vlu;rw[e1,if_pos (by omega)]
  rw[e2,e1,decide_eq_true (by omega:0<=c - 48)];clear e1 e2;go_enter func173,ntmps173;go_wp2;go_ret2;exact⟨rfl,rfl⟩
 by_cases a2:65<=c/\c<=70
 ·obtain⟨x1,x2⟩:=a2;have e1:hx c=c - 65+10:=by unfold hx;(repeat' split) <;> omega
  have e2:vlu c=c - 65+10:=by unfold vlu;rw[e1,if_pos (by omega)]
  rw[e2,e1,decide_eq_true (by omega:0<=c - 65+10)];clear e1 e2;go_enter func173,ntmps173;go_wp2;go_ret2;exact⟨rfl,rfl⟩
 by_cases a3:97<=c/\c<=102
 ·obtain⟨x1,x2⟩:=a3;have e1:hx c=c - 97+10:=by unfold hx;(repeat' split) <;> omega
  have e2:vlu c=c - 97+10:=by unfold vlu;rw[e1,if_pos (by omega)]
  rw[e2,e1,decide_eq_true (by omega:0<=c - 97+10)];clear e1 e2;go_enter func173,ntmps173;go_wp2;go_ret2;exact⟨rfl,rfl⟩
 have e1:hx c=-1:=by unfold hx;(repeat' split) <;> omega
 have e2:vlu c=0:=by unfold vlu;rw[e1];rfl
 rw[e2,e1,decide_eq_false (by omega:¬ (0:Int)<=-1)];clear e1 e2;go_enter func173,ntmps173;go_wp2
 all_goals first
  | (go_ret2;exact⟨rfl,rfl⟩)
  | (exfalso;omega)
def iE(l:List Int):Prop:=l[0]?.getD 0=37/\2<l.length/\0<=hx (l[1]?.getD 0)/\0<=hx (l[2]?.getD 0)
theorem Pg:∀ x y:Fin 16,bits BinOp.or IntKind.u8 ((16 * x.val:Nat):Int) y.val=((16 * x.val+y.val:Nat):Int):=by decide +kernel
theorem Ru{x y:Int}(x0:0<=x)(x1:x<=15)(y0:0<=y)(y1:y<=15):bits BinOp.or IntKind.u8 (16 * x) y=16 * x+y:=by have:=Pg ⟨x.toNat,by omega⟩ ⟨y.toNat,by omega⟩;simp only at this;rw[show((16 * x.toNat:Nat):Int)=16 * x by omega,show((y.toNat:Nat):Int)=y by omega]at this;rw[this];omega
theorem Ct(s:ByteArray)(hp:0<s.size)(hs:s.size<=1000000)(w:World):Calls prog 116 #[.string s] w fun e W' =>
  ((∃ b:Int,e=.returned (.tuple #[.int .u8 b,.int .i64 1])/\b=(U.bn s)[0]?.getD 0/\¬ iE (U.bn s))\/(∃ b:Int,e=.returned (.tuple #[.int .u8 b,.int .i64 3])/\b=16 * hx ((U.bn s)[1]?.getD 0)+hx ((U.bn s)[2]?.getD 0)/\iE (U.bn s)))/\W'=w:=by
 have HT:Hid (iE (U.bn s)↔((U.bn s)[0]?.getD 0=37/\2<s.size/\0<=hx ((U.bn s)[1]?.getD 0)/\0<=hx ((U.bn s)[2]?.getD 0))):=by show _↔_;unfold iE;rw[U.aa]
 have hg0:=(bJ s 0 hp).symm;obtain⟨hb0,hb1⟩:=cM hp;obtain⟨T,hT⟩:=Ex' (iE (U.bn s));obtain⟨y,hy⟩:=Ex' ((U.bn s)[0]?.getD 0);have HG1:=hid (fun h=>bJ s 1 h);have HG2:=hid (fun h=>bJ s 2 h);have HB1:=hid (fun h=>cM (s:=s) (i:=1) h);have HB2:=hid (fun h=>cM (s:=s) (i:=2) h);rw[hT,hy]at HT;rw[hy]at hg0 hb0 hb1;rw[hT,hy];clear hT hy;by_cases h37:y=37
 ·by_cases h2:2<s.size
  ·have g1:=(HG1.out (by omega)).symm;have g2:=(HG2.out h2).symm;obtain⟨c0,c1⟩:=HB1.out (by omega);obtain⟨d0,d1⟩:=HB2.out h2;obtain⟨x1,hx1⟩:=Ex' ((U.bn s)[1]?.getD 0);obtain⟨x2,hx2⟩:=Ex' ((U.bn s)[2]?.getD 0);rw[hx1]at g1 c0 c1 HT ⊢;rw[hx2]at g2 d0 d1 HT ⊢;have HV1:=hid (fun W=>fW x1 c0 c1 W);have HV2:=hid (fun W=>fW x2 d0 d1 W);have q1:=iG x1;have q2:=iG x2;have HU1:Hid (0<=hx x1->vlu x1=hx x1):=fun h=>by unfold vlu;rw[if_pos h]
   have HU2:Hid (0<=hx x2->vlu x2=hx x2):=fun h=>by unfold vlu;rw[if_pos h]
   obtain⟨z1,hz1⟩:=Ex' (hx x1);obtain⟨z2,hz2⟩:=Ex' (hx x2);obtain⟨v1,hv1⟩:=Ex' (vlu x1);obtain⟨v2,hv2⟩:=Ex' (vlu x2);rw[hz1]at q1 HT HV1 HU1 ⊢;rw[hz2]at q2 HT HV2 HU2 ⊢;rw[hv1]at HV1 HU1;rw[hv2]at HV2 HU2;clear hz1 hz2 hv1 hv2 hx1 hx2 HG1 HG2 HB1 HB2;have h37b:(y != 37)=false:=by simp[h37]
   have h2z:¬ (s.size:Int)<3:=by omega
   by_cases p1:0<=z1
   ·have e1:=HU1.out p1;subst e1;by_cases p2:0<=z2
    ·have e2:=HU2.out p2;subst e2;have HTT:=hid (HT.out.2 ⟨h37,h2,p1,p2⟩);obtain⟨_,q1b⟩:=q1;obtain⟨_,q2b⟩:=q2;have hor:=Ru p1 q1b p2 q2b;rw[decide_eq_true p1]at HV1;rw[decide_eq_true p2]at HV2;have hsh:IntKind.u8.wrap (v1 * 16)=16 * v1:=by rw[IntKind.wrap_u8];omega
     clear HT HU1 HU2 h37;go_enter func116,ntmps116;go_wp2_with fail;refine(HV1.out _).mono ?_;rintro e w1 ⟨rfl,hw1⟩;obtain rfl:=hw1.symm;clear HV1;go_wp2_with fail;refine(HV2.out _).mono ?_;rintro e w1 ⟨rfl,hw1⟩;obtain rfl:=hw1.symm;clear HV2;go_wp2;go_ret2;exact⟨.inr ⟨_,rfl,rfl,HTT.out⟩,rfl⟩
    ·have HTT:=hid (fun h=>p2 (HT.out.1 h).2.2.2);rw[decide_eq_true p1]at HV1;rw[decide_eq_false p2]at HV2;clear HT HU1 HU2 h37;go_enter func116,ntmps116;go_wp2_with fail;refine(HV1.out _).mono ?_;rintro e w1 ⟨rfl,hw1⟩;obtain rfl:=hw1.symm;clear HV1;go_wp2_with fail;refine(HV2.out _).mono ?_;rintro e w1 ⟨rfl,hw1⟩;obtain rfl:=hw1.symm;clear HV2;go_wp2;go_ret2;exact⟨.inl ⟨_,rfl,rfl,HTT.out⟩,rfl⟩
   ·have HTT:=hid (fun h=>p1 (HT.out.1 h).2.2.1);rw[decide_eq_false p1]at HV1;obtain⟨B2,hB2⟩:=Ex' (decide (0<=z2));rw[hB2]at HV2;clear HT HU1 HU2 h37 hB2;go_enter func116,ntmps116;go_wp2_with fail;refine(HV1.out _).mono ?_;rintro e w1 ⟨rfl,hw1⟩;obtain rfl:=hw1.symm;clear HV1;go_wp2_with fail;refine(HV2.out _).mono ?_;rintro e w1 ⟨rfl,hw1⟩;obtain rfl:=hw1.symm;clear HV2;go_wp2;go_ret2;exact⟨.inl ⟨_,rfl,rfl,HTT.out⟩,rfl⟩
  ·have HTT:=hid (fun h=>h2 (HT.out.1 h).2.1);have h37b:(y != 37)=false:=by simp[h37]
   have h2z:(s.size:Int)<3:=by omega
   clear HT h37;go_enter func116,ntmps116;go_wp2;go_ret2;exact⟨.inl ⟨_,rfl,rfl,HTT.out⟩,rfl⟩
 ·have HTT:=hid (fun h=>h37 (HT.out.1 h).1);have h37b:(y != 37)=true:=by simpa using h37
  clear HT h37;go_enter func116,ntmps116;go_wp2;go_ret2;exact⟨.inl ⟨_,rfl,rfl,HTT.out⟩,rfl⟩
theorem It{l:List Int}(hl:0<l.length)(h:¬ iE l):de l=l[0]?.getD 0::de (l.drop 1):=by
 match l,hl,h with
 | c::t,_,h =>
  refine IS (fun hh=>h ⟨hh.1,?_,?_,?_⟩)
  ·simp;omega
  ·exact hh.2.2.1
  ·exact hh.2.2.2
theorem Cs{l:List Int}(h:iE l):de l=(16 * hx (l[1]?.getD 0)+hx (l[2]?.getD 0))::de (l.drop 3):=by
 match l,h with
 | [],h=>exact absurd h.2.1 (by simp)
 | [a],h=>exact absurd h.2.1 (by simp)
 | [a,b],h=>exact absurd h.2.1 (by simp)
 | c::a::b::t,h =>
  have hc:c=37:=h.1;rw[hc];exact IQ h.2.2.1 h.2.2.2
theorem AT{l:List Int}(h:iE l):3<=l.length:=by have:=h.2.1;omega
theorem lj:∀(n:Nat) (l:List Int),l.length<=n->U.Bytes l->U.Bytes (de l)
 | _,[],_,h=>h
 | _,[a],_,h=>h
 | _,[a,b],_,h=>h
 | 0,c::a::b::t,h,_=>by simp at h
 | n+1,c::a::b::t,h,hB=>by
  rw[de];split
  ·have h1:=iG a;have h2:=iG b;rename_i hc;have ih:=lj n t (by simp at h;omega) (fun x hx=>hB x (by simp[hx]));intro x hx;rcases List.mem_cons.1 hx with rfl | hx
   ·omega
   ·exact ih x hx
  ·have ih:=lj n (a::b::t) (by simp at h ⊢;omega) (fun x hx=>hB x (by simp at hx ⊢;right;exact hx));intro x hx;rcases List.mem_cons.1 hx with rfl | hx
   ·exact hB x (by simp)
   ·exact ih x hx
theorem iA(s:ByteArray)(w:World)(hs:s.size<=100000):
  Calls prog 63 #[.string s] w fun e W'=>zn (U.bn s) w e W':=by
 obtain⟨i0,hi,hz0,hz1,hz2⟩:=info_parts U.Tryz.info5;have HGS:Hid (∀ e W,((∃ t,e=.returned (.string t)/\U.bn t=de (U.bn s))/\Below w.heap.size w W)->zn (U.bn s) w e W):=fun e W h=>h;have HBY:=hid (lj _ (U.bn s) (le_refl _) (U.aL s))
 have HFR:Hid (∀ i,i<s.size->∀ W,Calls prog 116 #[.string (s.extract i s.size)] W fun e W'=>(∃(b:Int) (n:Nat),e=.returned (.tuple #[.int .u8 b,.int .i64 n])/\i+n<=s.size/\1<=n/\Hid (de ((U.bn s).drop i)=b::de ((U.bn s).drop (i+n))))/\W'=W):=fun i h W=>by
  have hz:(s.extract i s.size).size=s.size - i:=by simp
  have hl:((U.bn s).drop i).length=s.size - i:=by rw[length_drop,U.aa]
  refine(Ct (s.extract i s.size) (by omega) (by omega) W).mono ?_;rintro e W' ⟨hh,rfl⟩;refine⟨?_,rfl⟩;rw[U.aw]at hh;rcases hh with⟨b,rfl,rfl,ht⟩ | ⟨b,rfl,rfl,ht⟩
  ·refine⟨_,1,rfl,by omega,by omega,?_⟩;show _=_;rw[It (by omega) ht,drop_drop]
  ·have:=AT ht;refine⟨_,3,rfl,by omega,by omega,?_⟩;show _=_;rw[Cs ht,drop_drop]
 go_enter func63,ntmps63;go_wp2_with fail
 go_loopw [3,4] (fun v3 v4 wr=>∃(i m c:Nat) (a:Option Addr) (Y:List Int),i<=s.size/\m<=i/\v3=.slice a m c/\v4=.int .i64 i/\Hid (m=Y.length)/\Hid (de (U.bn s)=Y++de ((U.bn s).drop i))/\Hid (wr.ownsRow w.heap.size 5 1 (.slice a m c) m (Y.map (Value.int .u8)))/\Hid (Below w.heap.size w wr)) (fun _ v4 _=>s.size - (intOf v4).toNat)
 case atStart=>exact⟨0,0,0,none,[],zero_le _,le_refl _,rfl,rfl,rfl,by show _=_;rw[drop_zero];rfl,ownsRow_nil _ _ _ _,Below.refl _ _⟩
 case round =>
  obtain⟨i,m,c,a,Y,hin,hmi,rfl,rfl,HM,HD,HR,HB⟩:=hrel;by_cases hlt:i<s.size
  ·have HF:=hid (HFR.out i hlt);have zj:=HB.out.size;go_wp2_with fail;refine(HF.out _).mono ?_;rintro e w1 ⟨⟨b,n,rfl,hn,hn1,HE⟩,hw1⟩;obtain rfl:=hw1.symm;have HE2:Hid (de (U.bn s)=(Y++[b])++de ((U.bn s).drop (i+n))):=by show _=_;rw[HD.out,HE.out];simp
   clear HF HE HD;have hnz:(i:Int)+(n:Int)<=(s.size:Int):=by omega
   go_wp2_with(at_builtin;refine wpList_append_own _ rfl _ _ 36 rfl w.heap.size 5 i0 (.int .u8 0) 1 1 underlying36 hi hz0 hz1 hz2 rfl (by decide) _ _ _ rfl (HR.out.alloc _) ⟨wr.heap.size,0,none⟩ 1 1 [.int .u8 b] rfl rfl (U.ee _ _ _) (by simp[Value.oneCell']) (by unfold maxLen;omega) (by omega) (by simp;omega) ?_;intro v3 w3 r3 g3 _;obtain⟨a3,c3,rfl⟩:=dh r3)
   go_roundw
   case rel =>
    refine⟨i+n,m+1,c3,a3,Y++[b],by omega,by omega,rfl,by go_num,by show _=_;rw[length_append,<-HM.out];rfl,HE2,?_,U.below_grow (w1:=wr.alloc (.cells #[.int .u8 b] 5)) (HB.out.alloc HB.out.size _) (le_trans HB.out.size (by simp)) (HR.out.alloc _) g3⟩;show World.ownsRow _ _ _ _ _ _ _;rw[map_append];exact r3
   case measure=>simp[intOf];omega
  ·have hnil:(U.bn s).drop i=[]:=List.drop_eq_nil_of_le (by rw[U.aa];omega);have HE:Hid (de (U.bn s)=Y):=by show _=_;rw[HD.out,hnil];simp[de]
   obtain⟨t,hcv,htb⟩:=U.bB wr w.heap.size _ _ Y HM.out (by rw[<-HE.out];exact HBY.out) HR.out;have HTB:=hid (htb.trans HE.out.symm);clear hnil htb HM HR HE HD HBY HFR;go_wp2;go_ret;exact HGS.out _ _ ⟨⟨t,rfl,HTB.out⟩,HB.out⟩
end E
namespace U
open Go.RowKit Go.Shelf
attribute [local go_sem] Oper.semAt_some
theorem rO(s:ByteArray)(hs:s.size<=68719476736)(w:World):
  Calls prog 41 #[.string s] w fun e W'=>(∃ t,e=.returned (.string t)/\bn t=aj (dec (bn s)))/\Below w.heap.size w W':=by
 refine(callsIn_wide (n:=3)).1 ?_;refine callsIn_of_wp_marks func41 rfl trivial ?_ rfl;simp only[ntmps41,List.size_toArray,List.length_cons,List.length_nil,Nat.reduceAdd,Nat.reduceSub,Array.replicate_succ,Array.replicate_zero,List.push_toArray,List.append_toArray,List.nil_append,List.cons_append];gi_wp2_with fail;refine⟨trivial,?_⟩;refine(oh _ s _).mono ?_;rintro e w' ⟨rfl,rfl⟩;gi_wp2_with fail;have bO:=Boxed.new w 36 (.slice none 0 0);have bN:=Boxed.new (w.alloc (.cells #[.slice none 0 0] 36)) 9 (.string s);rw[World.size_alloc]at bN;have hB0:Below w.heap.size w ((w.alloc (.cells #[.slice none 0 0] 36)).alloc (.cells #[.string s] 9)):=((Below.refl _ w).alloc (le_refl _) _).alloc (by simp) _
 refine wpIn_rangeFunc_ownG rfl (by omega) (gf:=137) (lb:=#[.pointer (some ⟨w.heap.size+1,0,none⟩)]) rfl trivial (enters_of func137 (by kernel_rfl) rfl)
  (oZ 2 (by omega) (w.heap.size+1) s (by omega) _ bN) oU (oV (by simp)) (Below.refl _ _) (fun _=>rfl)
  (fun pre W=>((∃ v,Boxed W w.heap.size 36 v/\W.ownsRow w.heap.size 5 1 v (aj (fQ pre)).length ((aj (fQ pre)).map (Value.int .u8))/\True)/\Boxed W (w.heap.size+1) 9 (.string s))/\Below w.heap.size w W)
  (fun _ _ _=>False)
  (OwnFrom.and (OwnFrom.and (Own.from (holdsRow_own w.heap.size w.heap.size 36 5 1 (fun pre=>(aj (fQ pre)).length) (fun pre=>(aj (fQ pre)).map (Value.int .u8)) (fun pre v=>True)) _) (Own.from (boxed_own _ _ _) _)) (ownFrom_below (le_refl _) (by simp;omega)))
  (fun _ _ _ _ _ hs _ _=>hs)
  ⟨⟨⟨_,bO.alloc _,ownsRow_nil _ _ _ _,trivial⟩,bN⟩,hB0⟩
  (fun x=>{ tmps:=#[.string s,undef,.string { data:=#[] },.pointer (some ⟨w.heap.size,0,none⟩),.int .i32 x.1.1,.string s,.func (.func 137) #[] #[.pointer (some ⟨w.heap.size+1,0,none⟩)],.int .i32 x.1.1,.bool x.1.2,undef,undef,undef,undef,undef],defers:=[] }) ?assign ?body ?done ?stop
 case assign =>
  intro l x W K hK;gi_wp2;exact hK
 case body =>
  rintro l pre x W ⟨⟨⟨v,hv,aq,_⟩,hbs⟩,hB⟩ hlt;have hc:=hv.cell;have hpl:(fQ pre).length<=pre.length:=Nat.le_of_eq (wB pre);have hel:=dQ (fQ pre);gi_wp2_with fail;refine⟨trivial,?_⟩;refine(CallsIn.inRound l (callsIn_wide.2 (qn w.heap.size v _ _ x.1.1 x.2.1 x.2.2 W hB.size (by omega) aq))).mono ?_;rintro e w1 ⟨v',rfl,hown',hgrow⟩
  obtain⟨g',cap',rfl⟩:∃ g cap,v'=.slice (some ⟨g,0,none⟩) ((aj (fQ pre)).length+(enc x.1.1).length) cap:=by
   rcases hown'.2 with⟨_,h0⟩ | ⟨g,cap,_,rfl,_⟩
   ·have:=eA x.1.1;omega
   ·exact⟨g,cap,rfl⟩
  obtain⟨hv1,hv2,hr2,hk2,hb2⟩:=gY hv (by decide) aq hB.size (le_refl _) hown' hgrow;have hc1:=hv1.cell;have hf1:=hv1.frozen;gi_wp2;have hbs1:=(hbs.kept hgrow (hbs.not_row (by decide) aq)).other (B':=w.heap.size) (by omega) (.slice (some ⟨g',0,none⟩) ((aj (fQ pre)).length+(enc x.1.1).length) cap');exact⟨hk2.from _,fun _=>hbs1,⟨⟨_,hv2,by rw[rz,gu];simpa using hr2,trivial⟩,hbs1⟩,hB.trans hb2⟩
 case done =>
  rintro D ys W hD rfl ⟨⟨⟨v,hv,aq,_⟩,hbs⟩,hB⟩ hK;have hc:=hv.cell;obtain⟨t,hcv,ht⟩:=bB W w.heap.size v _ (aj (fQ (scl (bn s)))) rfl (cY _ (ME _)) aq;gi_wp2;refine⟨by simp,.inl ⟨_,_,rfl,run_takeDeferred hK,?_⟩⟩;exact⟨_,results_tmp rfl _ _ _,⟨t,rfl,ht⟩,hB.trans (belowK_b (w:=w) (le_refl _) W D _ _ (by simp at hD;omega) hK rfl rfl)⟩
 case stop =>
  rintro D c pre W _ _ h _;exact h.elim
end U
namespace E
def pos(L:List Int)(j:Nat):Nat:=(U.aj (L.take j)).length
theorem cW(a b:List Int):U.aj (a++b)=U.aj a++U.aj b:=List.flatMap_append
theorem bD(c:Int)(l:List Int):U.aj (c::l)=U.enc c++U.aj l:=List.flatMap_cons
theorem rF(L:List Int)(j:Nat):(U.aj L).drop (pos L j)=U.aj (L.drop j):=by
 have e:U.aj L=U.aj (L.take j)++U.aj (L.drop j):=by rw[<-cW,List.take_append_drop]
 unfold pos;rw[e,drop_left]
theorem drop_cons(L:List Int)(j:Nat)(h:j<L.length):L.drop j=L[j]::L.drop (j+1):=List.drop_eq_getElem_cons h
theorem bT(L:List Int)(j:Nat)(h:j<L.length):L.take (j+1)=L.take j++[L[j]]:=List.take_succ_eq_append_getElem h
theorem FB(L:List Int)(j:Nat)(h:j<L.length):pos L (j+1)=pos L j+(U.enc L[j]).length:=by unfold pos;rw[bT L j h,U.gu,length_append]
theorem Lh(L:List Int):pos L L.length=(U.aj L).length:=by unfold pos;rw[List.take_length]
theorem OV(L:List Int)(j:Nat):pos L j<=(U.aj L).length:=by
 have e:U.aj L=U.aj (L.take j)++U.aj (L.drop j):=by rw[<-cW,List.take_append_drop]
 unfold pos;rw[e,length_append];omega
theorem Qz(t:ByteArray)(a b:Nat):U.bn (t.extract a b)=((U.bn t).drop a).take (b - a):=by unfold U.bn;rw[data_extract,Array.toList_extract,List.map_take,List.map_drop]
theorem round_facts{L:List Int}{t:ByteArray}(hb:U.bn t=U.aj L)(hs:∀ c∈L,U.ar c=true)(k:Nat){j:Nat}(hj:j<L.length):
  ∃ c:Int,U.ar c=true/\U.nx (U.bn (t.extract (pos L j) t.size))=(c,(U.enc c).length,true)/\pos L (j+1)=pos L j+(U.enc c).length/\pos L (j+1)<=t.size/\U.bn (t.extract (pos L j) (pos L j+(U.enc c).length))=U.enc c/\en k (L.take (j+1))=en k (L.take j)++tok k c:=by
 have hc:U.ar L[j]=true:=hs _ (getElem_mem hj);refine⟨L[j],hc,?_,FB L j hj,?_,?_,?_⟩
 ·rw[U.aw,hb,rF,drop_cons L j hj,bD];exact U.sN _ hc _
 ·rw[<-U.aa,hb];exact OV L _
 ·rw[Qz,hb,rF,drop_cons L j hj,bD,Nat.add_sub_cancel_left,take_left]
 ·rw[bT L j hj,MQ]
theorem uz(u:ByteArray):Lib.strCells u=(U.bn u).map (Value.int .u8):=by unfold Lib.strCells U.bn;rw[List.map_map];rfl
theorem Kc{k:Nat}{c:Int}(h:inS c k=true):tok k c=(U.enc c).flatMap pe:=by unfold tok;rw[if_pos h]
theorem Ot{k:Nat}{c:Int}(h:inS c k=false):tok k c=U.enc c:=by unfold tok;rw[if_neg (by rw[h];decide)]
theorem bM(s:ByteArray)(k:Nat)(w:World)(hs:s.size<=100000)(hk:k<=255):
  Calls prog 66 #[.string s,.int .u8 k] w fun e W'=>JO k (U.dec (U.bn s)) w e W':=by
 obtain⟨i0,hi,hz0,hz1,hz2⟩:=info_parts U.Tryz.info5;have HCL:=hid (U.rO s (by omega) w);have hdl:=U.dK (U.bn s).length (U.bn s) (le_refl _) (U.aL s);rw[U.aa]at hdl;have HSC:=hid (jh s);obtain⟨L,hL⟩:=Ex' (U.dec (U.bn s));rw[hL]at HCL hdl HSC ⊢;have hel:=U.dQ L;obtain⟨n,hn⟩:=Ex' L.length;have HN:=hid hn;rw[hn]at hdl hel;have HGS:Hid (∀ e W,((∃ t,e=.returned (.string t)/\U.bn t=en k L)/\Below w.heap.size w W)->JO k L w e W):=fun e W h=>h;clear hL hn;go_enter func66,ntmps66;go_wp2_with fail;refine HCL.out.mono ?_;rintro e w1 ⟨⟨t,rfl,ht⟩,B1⟩;have HT:=hid ht;have hts:t.size<=400000:=by have:=congrArg List.length ht;rw[U.aa]at this;omega
 have HRF:Hid (∀ j,j<n->_):=fun j (h:j<n)=>round_facts ht HSC.out k (j:=j) (by rw[HN.out];exact h);have HPA:Hid (pos L n=t.size):=by show _=_;rw[<-HN.out,Lh,<-ht,U.aa]
 have HB1:=hid B1;have z1:=B1.size;clear ht B1 HCL hel;go_wp2_with fail
 go_loopw [6,7] (fun v6 v7 wr=>∃(j p m c:Nat) (a:Option Addr),j<=n/\p<=t.size/\m<=12 * j/\v6=.slice a m c/\v7=.int .i64 p/\Hid (p=pos L j)/\Hid (m=(en k (L.take j)).length)/\Hid (wr.ownsRow w1.heap.size 5 1 (.slice a m c) m ((en k (L.take j)).map (Value.int .u8)))/\Hid (Below w1.heap.size w1 wr)) (fun _ v7 _=>t.size - (intOf v7).toNat)
 case atStart=>exact⟨0,0,0,0,none,zero_le _,zero_le _,le_refl _,rfl,rfl,rfl,rfl,ownsRow_nil _ _ _ _,Below.refl _ _⟩
 case round =>
  obtain⟨j,p,m,c,a,hj,hp,hm,rfl,rfl,HP,HM,HR,HB⟩:=hrel;by_cases hlt:p<t.size
  ·have hjn:j<n:=by
    by_cases e:j=n
    ·have h1:=HP.out;rw[e,HPA.out]at h1;omega
    ·omega
   obtain⟨x,hx,hnx,hpn,hpt,hcut,hst⟩:=HRF.out j hjn;rw[<-HP.out]at hnx hpn hcut;have hel:=U.eA x;have hxb:=aS hx;have HIN:=hid (fun W=>Li x k W hx)
   have HNX:Hid (∀ W,Calls prog 121 #[.string (t.extract p t.size)] W fun e W'=>e=.returned (.tuple #[.int .i32 x,.int .i64 (U.enc x).length,.bool true])/\∃ q,W'=W.drewN q):=fun W=>(U.vE (t.extract p t.size) W (by simp;omega)).mono (by
     rintro e W' ⟨rfl,h⟩
     rw[hnx]
     exact⟨rfl,h⟩)
   obtain⟨q,hq⟩:=Ex' (inS x k);have HTY:Hid (q=true->tok k x=(U.enc x).flatMap pe):=fun h=>Kc (hq.trans h);have HTN:Hid (q=false->tok k x=U.enc x):=fun h=>Ot (hq.trans h);rw[hq]at HIN;obtain⟨E,hE⟩:=Ex' (U.enc x);rw[hE]at hpn hcut hel HNX HTY HTN;obtain⟨l,hl⟩:=Ex' E.length;rw[hl]at hpn hcut hel HNX;have HCUT:=hid hcut;have HST:=hid hst;have HPN:=hid hpn;have HEL:=hid hl;have hpl:p+l<=t.size:=by omega
   obtain⟨u,hu⟩:=Ex' (t.extract p (p+l));have hus:u.size=l:=by rw[<-hu];simp;omega
   rw[hu]at HCUT;have hplz:(p:Int)+(l:Int)<=(t.size:Int):=by omega
   have zr:=HB.out.size;obtain⟨Y,hY⟩:=Ex' (en k (L.take j));rw[hY]at HST HM HR;have hm2:m<=2000000:=by omega
   clear hx hnx hpn hpt hcut hst hq hE hl hY hxb HRF;go_wp2_with fail;refine(HNX.out _).mono ?_;rintro e w2 ⟨rfl,nq,hw2⟩;have HB2:Hid (Below w1.heap.size w1 w2):=by rw[hw2];exact HB.out.trans ((U.below_drewN _ _ _).mono (le_refl _))
   have HR2:Hid (w2.ownsRow w1.heap.size 5 1 (.slice a m c) m (Y.map (Value.int .u8))):=U.ax HR.out (B:=wr.heap.size) (by rw[hw2];exact U.below_drewN _ _ _) (le_refl _);clear hw2 HNX HB HR;go_wp2_with fail;refine(HIN.out _).mono ?_;rintro e w3 ⟨rfl,B3⟩;have HB3:=Bt' HB2 B3;have HR3:=hid (U.ax HR2.out B3 (le_refl _));have z3:=HB3.out.size;clear B3 HIN HB2 HR2;cases q with
   | true =>
    have HTK:=hid (HTY.out rfl);have HTO:=hid (En w1.heap.size a m c Y u w3 HM.out HR3.out z3 (by omega) (by omega));have HZ:Hid (Y++(U.bn u).flatMap pe=en k (L.take (j+1))):=by show _=_;rw[HST.out,HTK.out,HCUT.out]
    have hzl:(Y++(U.bn u).flatMap pe).length=m+3 * l:=by rw[length_append,iV,U.aa,hus,HM.out]
    have HZL:=hid hzl;obtain⟨Z,hZ⟩:=Ex' (Y++(U.bn u).flatMap pe);rw[hZ]at HTO HZ hzl HZL;unfold JJ at HTO;rw[hzl]at HTO;clear HTY HTN hZ hzl;go_wp2_with fail;refine HTO.out.mono ?_;rintro e w4 ⟨a4,c4,rfl,r4,B4⟩;have HR4:=hid r4;have HB4:=hid (HB3.out.trans B4);clear r4 B4 HTO;go_wp2_with fail
    go_roundw
    case rel =>
     refine⟨j+1,p+l,m+3 * l,c4,a4,by omega,by omega,by omega,rfl,by go_num,HPN.out.symm,?_,?_,HB4⟩
     ·show _=_;rw[<-HZ.out,HZL.out]
     ·show World.ownsRow _ _ _ _ _ _ _;rw[<-HZ.out];exact HR4.out
    case measure=>simp[intOf];omega
   | false =>
    have HTK:=hid (HTN.out rfl);have HZ:Hid (en k (L.take (j+1))=Y++U.bn u):=by show _=_;rw[HST.out,HTK.out,HCUT.out]
    have HUS:=hid hus;clear HTY HTN;go_wp2_with(at_builtin;refine Lib.wpList_append_own_string _ rfl _ _ 36 9 rfl w1.heap.size 5 i0 underlying36 underlying9 hi hz0 hz1 hz2 _ _ _ rfl HR3.out u (congrArg Value.string hu) (by unfold maxLen;omega) (by omega) z3 ?_;intro v4 w4 r4 g4 _;obtain⟨a4,c4,rfl⟩:=dh r4);rw[HUS.out]at r4;have HR4:=hid r4;have HB4:=hid (U.below_grow HB3.out z3 HR3.out g4);clear r4 g4;go_wp2_with fail
    go_roundw
    case rel =>
     refine⟨j+1,p+l,m+l,c4,a4,by omega,by omega,by omega,rfl,by go_num,HPN.out.symm,?_,?_,HB4⟩
     ·show _=_;rw[HZ.out,length_append,<-HM.out,U.aa,HUS.out]
     ·show World.ownsRow _ _ _ _ _ _ _;rw[HZ.out,map_append,<-uz];exact HR4.out
    case measure=>simp[intOf];omega
  ·obtain rfl:p=t.size:=by omega
   have hjn:j=n:=by
    by_cases e:j=n
    ·exact e
    ·exfalso;obtain⟨x,hx,hnx,hpn,hpt,hcut,hst⟩:=HRF.out j (by omega);rw[<-HP.out]at hpn;have:=U.eA x;omega
   have ht:L.take j=L:=List.take_of_length_le (by rw[HN.out];omega);rw[ht]at HM HR;have HBW:=hid (HB1.out.trans (HB.out.mono z1));obtain⟨r,hcv,htb⟩:=U.bB wr w1.heap.size _ _ (en k L) HM.out (IH HSC.out) HR.out;have HTB:=hid htb;clear ht htb HM HR hjn;go_wp2;go_ret;exact HGS.out _ _ ⟨⟨r,rfl,HTB.out⟩,HBW.out⟩
end E
namespace F
theorem Ma{t j:Nat}{xs:List (Nat×Int)}(h:j+1<xs.length):sm j (xs.drop j)=(xs[j]?.getD (0,0)).1 * 256 ^ (3 - j)+sm (j+1) (xs.drop (j+1))/\lg t (xs.drop j)=(decide ((xs[j]?.getD (0,0)).2=4)||decide (255<(xs[j]?.getD (0,0)).1)||lg t (xs.drop (j+1))):=by rw[List.drop_eq_getElem_cons (by omega:j<xs.length),List.drop_eq_getElem_cons h,getElem?_eq_getElem (by omega:j<xs.length)];exact⟨rfl,rfl⟩
theorem Mb{t j:Nat}{xs:List (Nat×Int)}(h:j+1=xs.length):sm j (xs.drop j)=(xs[j]?.getD (0,0)).1/\lg t (xs.drop j)=(decide ((xs[j]?.getD (0,0)).2=4)||decide (256 ^ (5 - t)<=(xs[j]?.getD (0,0)).1)):=by rw[List.drop_eq_getElem_cons (by omega:j<xs.length),h,List.drop_length,getElem?_eq_getElem (by omega:j<xs.length)];exact⟨rfl,rfl⟩
theorem lM(s:ByteArray)(w:World)(hs:s.size<=400000000)(hM:Max w):
  Calls prog 179 #[.string s] w fun e W'=>qw (bn s) w e W':=by
 have HUD:=hid (fun W=>dX s W hs);have hus:=qL s;have HPD:Hid (prt (bn s)=spl (bn (mG s))):=by show _=_;rw[Fo,zx]
 obtain⟨U,hU⟩:=Ex' (mG s);rw[hU]at HUD hus HPD;clear hU;have HSP:=hid (gF U w (by omega) hM);rw[<-HPD.out]at HSP;clear HPD hM;have HRT:Hid (∀(x:Nat) (y:Int) e W,prs (bn s)=(x,y)->e=.returned (.tuple #[.int .u32 x,.int .i64 y])->Below w.heap.size w W->qw (bn s) w e W):=fun x y e W h he hB=>by unfold qw;rw[h];exact⟨he,hB⟩
 go_enter func179,ntmps179
 go_wp2_with(first
   | (go_at_call 175;refine(HUD.out _).mono ?_;rintro e w2 ⟨rfl,hw2⟩;obtain rfl:=hw2.symm))
 refine HSP.out.mono ?_;rintro e w1 ⟨⟨b,c,qs,rfl,hcb,hor⟩,B1⟩;have HB1:=hid B1;clear B1 HSP HUD;rcases hor with⟨h4,hqs⟩ | ⟨h5,h6⟩
 ·have HLN:Hid (((prt (bn s)).map num).length=qs.length):=by show _=_;rw[length_map,<-hqs,length_map]
  have HNM:Hid (∀ i,i<qs.length->((prt (bn s)).map num)[i]?.getD (0,0)=num (bn (qs[i]?.getD ⟨#[]⟩))):=fun i hi=>by rw[<-hqs,getElem?_map,getElem?_map,getElem?_eq_getElem hi];rfl
  have HSZ:Hid (∀ i,i<qs.length->(qs[i]?.getD ⟨#[]⟩).size<=400000000):=fun i hi=>by
   have h1:qs[i]?.getD ⟨#[]⟩∈qs:=by rw[getElem?_eq_getElem hi];exact getElem_mem _
   exact le_trans (gI hqs h1) hs
  have hl:(prt (bn s)).length=qs.length:=by rw[<-hqs,length_map]
  have HPR:Hid (prs (bn s)=if Js ((prt (bn s)).map num)=true then (0,8) else if lg qs.length ((prt (bn s)).map num)=true then (0,4) else (sm 0 ((prt (bn s)).map num),0)):=by show _=_;unfold prs adr;rw[if_neg (by omega),hl];rfl
  have hq1:0<qs.length:=by
   rw[<-hl];unfold prt;have h1:=List.length_pos_iff.2 (aV (bn s));split
   ·rw[List.length_dropLast];omega
   ·exact h1
  rw[hl]at h4;have HCB:=hid hcb;obtain⟨xs,hxs⟩:=Ex' ((prt (bn s)).map num);rw[hxs]at HLN HNM HPR;obtain⟨t,ht⟩:=Ex' qs.length;rw[ht]at HLN HNM HPR HSZ HCB hq1 h4 ⊢;clear hxs ht hqs hcb hl;have h4z:¬ (4:Int)<(t:Int):=by omega
  have HSM:Hid (lg t xs=false->sm 0 xs<4294967296):=fun h=>by rw[oS]at h;rw[xQ];refine qQ (by rw[length_map,HLN.out];exact hq1) (by rw[length_map,HLN.out];exact h4) ?_;rw[length_map,HLN.out];exact(Bool.or_eq_false_iff.1 h).2
  go_wp2_with fail
  go_loopw [5,6,20] (fun v5 v6 v20 wr=>∃(j acc:Nat) (g:Bool),j<=t/\acc<=j * 72057594037927936/\v5=.int .u64 (acc:Int)/\v6=.bool g/\v20=.int .i64 (j:Int)/\Hid (Js (xs.take j)=false)/\Hid (lg t xs=(g||lg t (xs.drop j)))/\Hid (sm 0 xs=acc+sm j (xs.drop j))/\Hid (Below w1.heap.size w1 wr)) (fun _ _ v20 _=>t - (intOf v20).toNat)
  case atStart=>exact⟨0,0,false,zero_le _,by omega,rfl,rfl,rfl,rfl,by show _=_;rw[drop_zero];rfl,by show _=_;rw[drop_zero,zero_add],Below.refl _ _⟩
  case round =>
   obtain⟨j,acc,g,hj,hac,rfl,rfl,rfl,H8,HL,HA,HB⟩:=hrel;have zj:=HB.out.size;by_cases hlt:j<t
   ·have hcw:=HCB.out j hlt;have hcr:wr.cell? ⟨b,j,none⟩=some (.string (qs[j]?.getD ⟨#[]⟩)):=(HB.out.cell (p:=⟨b,j,none⟩) (mV hcw)).trans hcw;have HNU:Hid (Calls prog 177 #[.string (qs[j]?.getD ⟨#[]⟩)] wr fun e W'=>e=.returned (.tuple #[.int .u64 ((num (bn (qs[j]?.getD ⟨#[]⟩))).1:Nat),.int .i64 (num (bn (qs[j]?.getD ⟨#[]⟩))).2])/\Below wr.heap.size wr W'):=cC _ wr (HSZ.out j hlt);have hxi:j<xs.length:=by rw[HLN.out];exact hlt
    have HS8:=hid (Jr (p:=fun x=>decide (x.2=8)) xs j hxi);have HAL:Hid ((xs[j]?.getD (0,0)).2=8->Js xs=true):=fun h=>by refine List.any_eq_true.2 ⟨xs[j],getElem_mem hxi,?_⟩;rw[getElem?_eq_getElem hxi]at h;exact decide_eq_true h
    have HMO:=hid (fun h=>Ma (t:=t) (xs:=xs) (j:=j) h);have HLS:=hid (fun h=>Mb (t:=t) (xs:=xs) (j:=j) h);rw[HLN.out]at HMO HLS;rw[<-HNM.out j hlt]at HNU;have hbd:(xs[j]?.getD (0,0)).1<4294967296:=by rw[HNM.out j hlt];exact Ps _
    obtain⟨D,hD⟩:=Ex' (qs[j]?.getD ⟨#[]⟩);rw[hD]at hcr HNU;obtain⟨y,hy⟩:=Ex' (xs[j]?.getD (0,0));rw[hy]at HNU HS8 HAL hbd HMO HLS;obtain⟨x,q⟩:=y;simp only at HNU HS8 HAL hbd HMO HLS;have hltz:(j:Int)<(t:Int):=by omega
    clear hD hy hcw HCB HNM HSZ hxi;by_cases hq8:q=8
    ·have HP:=hid (HPR.out.trans (if_pos (HAL.out hq8)));have hqb:(q==8)=true:=by simpa using hq8
     have HQ8:=hid hq8;clear hq8 HAL HPR HMO HLS HS8 HL HA H8 HSM;go_wp2_with(go_at_call 177;refine HNU.out.mono ?_;rintro e w4 ⟨rfl,B4⟩);go_ret2;exact HRT.out _ _ _ _ HP.out (by rw[HQ8.out];rfl) (HB1.out.trans ((HB.out.trans (B4.mono HB.out.size)).mono HB1.out.size))
    ·have hqb:(q==8)=false:=by simpa using hq8
     have H82:Hid (Js (xs.take (j+1))=false):=by show _=_;unfold Js at H8 ⊢;rw[HS8.out,H8.out];simp[hq8]
     clear HS8 HAL HPR hq8 H8 HSM
     obtain⟨A,G,Th,HA2,HL2,hD⟩:∃(A:Nat) (G:Bool) (Th:Int),Hid (sm 0 xs=A+sm (j+1) (xs.drop (j+1)))/\Hid (lg t xs=(G||lg t (xs.drop (j+1))))/\(g=true/\G=true\/g=false/\(q==4)=true/\G=true\/g=false/\(q==4)=false/\G=decide ((0:Int)<(x:Int) / Th)) /\
       (((j:Int)==(t:Int) - 1)=false/\Th=256/\(j=0/\A=acc+x * 16777216\/j=1/\A=acc+x * 65536\/j=2/\A=acc+x * 256)\/((j:Int)==(t:Int) - 1)=true/\A=acc+x/\(j=0/\Th=4294967296\/j=1/\Th=16777216\/j=2/\Th=65536\/j=3/\Th=256)):=by
      have hG:∀ d:Bool,(g=true/\(g||(decide (q=4)||d))=true\/g=false/\(q==4)=true/\(g||(decide (q=4)||d))=true\/g=false/\(q==4)=false/\(g||(decide (q=4)||d))=d):=fun d=>by by_cases h:q=4 <;> cases g <;> simp[h]
      by_cases hlast:j+1<t
      ·obtain⟨hs1,hs2⟩:=HMO.out hlast;refine⟨acc+x * 256 ^ (3 - j),g||(decide (q=4)||decide ((0:Int)<(x:Int) / 256)),256,?_,?_,hG _,.inl ⟨by simp;omega,rfl,?_⟩⟩
       ·show _=_;rw[HA.out,hs1];omega
       ·show _=_;rw[HL.out,hs2,show decide (255<x)=decide ((0:Int)<(x:Int) / 256) from decide_eq_decide.2 ⟨fun h=>by omega,fun h=>by omega⟩];cases g <;> cases decide (q=4) <;> rfl
       ·obtain rfl | rfl | rfl:j=0\/j=1\/j=2:=by omega
        all_goals simp
      ·have hjt:j+1=t:=by omega
       obtain⟨hs1,hs2⟩:=HLS.out hjt;have he:xs.drop (j+1)=[]:=List.drop_eq_nil_of_le (by rw[HLN.out];omega);refine⟨acc+x,g||(decide (q=4)||decide ((0:Int)<(x:Int) / (256 ^ (4 - j):Nat))),(256 ^ (4 - j):Nat),?_,?_,hG _,.inr ⟨by simp;omega,rfl,?_⟩⟩
       ·show _=_;rw[HA.out,hs1,he];rfl
       ·show _=_
        have hd:decide (256 ^ (5 - t)<=x)=decide ((0:Int)<(x:Int) / (256 ^ (4 - j):Nat)):=by
         rw[show 5 - t=4 - j by omega];refine decide_eq_decide.2 ?_;obtain rfl | rfl | rfl | rfl:j=0\/j=1\/j=2\/j=3:=by omega
         all_goals (constructor <;> intro h <;> simp at h ⊢ <;> omega)
        rw[HL.out,hs2,he,hd];exact(Bool.or_false _).symm
       ·obtain rfl | rfl | rfl | rfl:j=0\/j=1\/j=2\/j=3:=by omega
        all_goals simp
     clear HMO HLS HA HL;obtain⟨⟨rfl,rfl⟩ | ⟨rfl,hq4b,rfl⟩ | ⟨rfl,hq4b,rfl⟩,⟨hne,rfl,⟨rfl,rfl⟩ | ⟨rfl,rfl⟩ | ⟨rfl,rfl⟩⟩ | ⟨hne,rfl,⟨rfl,rfl⟩ | ⟨rfl,rfl⟩ | ⟨rfl,rfl⟩ | ⟨rfl,rfl⟩⟩⟩:=hD
     all_goals
      simp only[Nat.zero_mul,Nat.one_mul,Nat.reduceMul]at hac;go_wp2_with(go_at_call 177;refine HNU.out.mono ?_;rintro e w4 ⟨rfl,B4⟩)
      go_roundw
      case rel=>exact⟨_,_,_,by omega,by omega,by go_num,rfl,by go_num,H82,HL2,HA2,HB.out.trans (B4.mono HB.out.size)⟩
      case measure=>simp[intOf];omega
   ·obtain rfl:j=t:=by omega
    have he:xs.drop j=[]:=List.drop_eq_nil_of_le (by rw[HLN.out];exact le_refl _);have ht:xs.take j=xs:=List.take_of_length_le (by rw[HLN.out];exact le_refl _);rw[ht]at H8;rw[he]at HL HA;have HL2:Hid (lg j xs=g):=by show _=_;rw[HL.out];exact Bool.or_false _
    have HA2:Hid (sm 0 xs=acc):=by show _=_;rw[HA.out];rfl
    have HP:=hid (HPR.out.trans (if_neg (by rw[H8.out];simp)));rw[HL2.out,HA2.out]at HP;rw[HL2.out,HA2.out]at HSM;have hltz:¬ (j:Int)<(j:Int):=by omega
    clear he ht H8 HL HA HPR HL2 HA2 HCB HNM HSZ HLN;cases g with
    | true =>
     have HP2:=hid (HP.out.trans (if_pos rfl));clear HP HSM;go_wp2;go_ret2;exact HRT.out _ _ _ _ HP2.out rfl (HB1.out.trans (HB.out.mono HB1.out.size))
    | false =>
     have HP2:=hid (HP.out.trans (if_neg (by simp)));have hsm:=HSM.out rfl;clear HP HSM hac;go_wp2;go_ret2;exact HRT.out _ _ _ _ HP2.out rfl (HB1.out.trans (HB.out.mono HB1.out.size))
 ·have h4z:(4:Int)<(qs.length:Int):=by omega
  have HP:Hid (prs (bn s)=(0,8)):=by show _=_;unfold prs adr;rw[if_pos h5]
  clear h5 h6 hcb;go_wp2;go_ret2;exact HRT.out _ _ _ _ HP.out rfl HB1.out
end F
namespace X
open F (bn aa hid ay aC)
def al:List (List Int)->Option (List Nat)
 | []=>some []
 | p::r=>put (pc p) (al r)
theorem ND{p:List Int}{r:List (List Int)}{L:List Nat}(h:al (p::r)=some L):∃ v M,pc p=some v/\al r=some M/\L=v::M:=by
 have h':put (pc p) (al r)=some L:=h;cases hp:pc p with
 | none=>rw[hp]at h';simp[put]at h'
 | some v =>
  cases hq:al r with
  | none=>rw[hp,hq]at h';simp[put]at h'
  | some M=>rw[hp,hq]at h';simp[put]at h';exact⟨v,M,rfl,rfl,h'.symm⟩
theorem zk:∀(ps:List (List Int)) (L:List Nat),al ps=some L->L.length=ps.length
 | [],L,h=>by cases h;rfl
 | p::r,L,h=>by obtain⟨v,M,_,h2,rfl⟩:=ND h;rw[List.length_cons,zk r M h2];rfl
theorem AG{ps:List (List Int)}{p:List Int}(h:p∈ps)(hp:pc p=none):al ps=none:=by
 induction ps with
 | nil=>cases h
 | cons q r ih =>
  rcases List.mem_cons.1 h with rfl | h
  ·show put (pc p) (al r)=none;rw[hp];rfl
  ·show put (pc q) (al r)=none;rw[ih h];cases pc q <;> rfl
theorem Jv:∀(ps:List (List Int)) (L:List Nat),ps.map pc=L.map some->al ps=some L
 | [],[],_=>rfl
 | [],_::_,h=>by simp at h
 | _::_,[],h=>by simp at h
 | p::r,v::M,h=>by simp only[map_cons,List.cons.injEq]at h;show put (pc p) (al r)=_;rw[h.1,Jv r M h.2];rfl
def rwd(l:List Int):Option (List Nat):=if l=[] then some [] else if (spB 58 l).length<=8 then al (spB 58 l) else none
def z(n:Nat):List Nat:=List.replicate n 0
theorem KQ{l:List Int}{L:List Nat}(h:rwd l=some L):L.length<=8:=by
 unfold rwd at h;split at h
 ·cases h;simp
 ·split at h
  ·rename_i h8;rw[zk _ L h];exact h8
  ·cases h
def NI(o:Option (List Nat))(e:Ending):Prop:=(∃ v:List Nat,o=some v/\v.length<=8/\e=.returned (.tuple #[.agg (av (v++z (8 - v.length))).toArray,.int .i64 (v.length:Int),.bool true]))\/(o=none/\∃ X:List Nat,X.length=8/\e=.returned (.tuple #[.agg (av X).toArray,.int .i64 0,.bool false]))
theorem dZ{fn:Func}{p u v:Tmp}{ty:TypeId}(h:fn.results=#[.cell p ty,.tmp u,.tmp v])(tmps:Array Value)(w:World)(g:Nat)(t:TypeId)(cs:Array Value)(fr:Nat×Nat)(n:Nat)(e:TypeId)
  (hp:tmps.getD p undef=.pointer (some ⟨g,0,none⟩)) (hg:w.heap[g]? = some (.cells cs t fr))
  (hu:prog.underlying ty=some (.array n e)) (hi:(prog.info? ty).map (·.size)=some cs.size) :
  (results fn tmps).run prog w=.ok (.tuple #[.agg cs,tmps.getD u undef,tmps.getD v undef]) w:=by
 simp only[results,h];have hp':tmps[p]?.getD undef=.pointer (some ⟨g,0,none⟩):=by simpa using hp
 simp[Result.andThen,hp',asAddr,run_loadVar_row w g t ty cs fr (.array n e) hg hu rfl hi]
def Fil(ps:List (List Int))(i:Nat)(X:List Nat):Prop:=X.length=8/\∃ L:List Nat,L.length=i/\(ps.take i).map pc=L.map some/\X=L++z (8 - i)
theorem Fil.start(ps:List (List Int)):Fil ps 0 z8:=⟨rfl,[],rfl,rfl,rfl⟩
theorem Fil.step{ps:List (List Int)}{i:Nat}{X:List Nat}{v:Nat}{p:List Int}(h:Fil ps i X)(hi:i<8)(hp:ps[i]? = some p)(hv:pc p=some v):Fil ps (i+1) (X.set i v):=by
 obtain⟨h8,L,h1,h2,h3⟩:=h;refine⟨by rw[length_set];exact h8,L++[v],by rw[length_append,h1];rfl,?_,?_⟩
 ·rw[List.take_add_one,hp,map_append,h2,map_append];simp[hv]
 ·rw[h3];have e:z (8 - i)=0::z (8 - (i+1)):=by unfold z;rw[show 8 - i=(8 - (i+1))+1 by omega,List.replicate_succ]
  rw[e,List.set_append_right _ _ (by omega),h1,Nat.sub_self];simp
theorem Fil.all{ps:List (List Int)}{X:List Nat}{i:Nat}(h:Fil ps i X)(hi:i=ps.length):∃ L:List Nat,al ps=some L/\L.length=ps.length/\X=L++z (8 - L.length):=by obtain⟨_,L,h1,h2,h3⟩:=h;subst hi;rw[List.take_length]at h2;exact⟨L,Jv _ _ h2,h1,by rw[h1];exact h3⟩
theorem zQ(U:ByteArray)(hU:U.size<=1000000)(w:World)(hE:Er w)(hM:Mx w):Calls prog 109 #[.string U] w fun e W'=>NI (rwd (bn U)) e/\Below w.heap.size w W':=by
 have HNO:Hid (∀ X:List Nat,rwd (bn U)=none->X.length=8->NI (rwd (bn U)) (.returned (.tuple #[.agg (av X).toArray,.int .i64 0,.bool false]))):=fun X h h8=>.inr ⟨h,X,h8,rfl⟩;have HYES:Hid (∀ v:List Nat,rwd (bn U)=some v->NI (rwd (bn U)) (.returned (.tuple #[.agg (av (v++z (8 - v.length))).toArray,.int .i64 (v.length:Int),.bool true]))):=fun v h=>.inl ⟨v,h,KQ h,rfl⟩;have HB0:Hid (Below w.heap.size w (w.alloc (.cells (av z8).toArray 25))):=(Below.refl _ w).alloc (le_refl _) _;have HA0:Hid ((w.alloc (.cells (av z8).toArray 25)).heap[w.heap.size]? = some (.cells (av z8).toArray 25 (0,0))):=heap_alloc_new _ _;have HZ0:Hid ((w.alloc (.cells (av z8).toArray 25)).heap.size=w.heap.size+1):=by show _=_;simp
 have HWE:Hid (w.alloc (.cells (av z8).toArray 25)=w.alloc (.cells #[.int .u16 0,.int .u16 0,.int .u16 0,.int .u16 0,.int .u16 0,.int .u16 0,.int .u16 0,.int .u16 0] 25)):=rfl;have HRW:Hid (U.size≠0->rwd (bn U)=if (spB 58 (bn U)).length<=8 then al (spB 58 (bn U)) else none):=fun h=>by unfold rwd;rw[if_neg (fun e=>h (by rw[<-aa,e];rfl))]
 have HRE:Hid (U.size=0->rwd (bn U)=some []):=fun h=>by unfold rwd;rw[if_pos (List.eq_nil_of_length_eq_zero (by rw[aa];exact h))]
 have hmem:=oa 58 (bn U);rw[aa]at hmem;have HMEM:=hid hmem;have HEM:=hid (ay U);have HEM0:=hid (aC U);obtain⟨o,ho⟩:=Ex' (rwd (bn U));rw[ho]at HNO HYES HRW HRE ⊢;clear ho hmem;have HXL:Hid (z8.length=8):=rfl;by_cases h0:U.size=0
 ·have HR:=hid (HYES.out [] (HRE.out h0));have hem:=HEM0.out h0;clear HYES HRE HNO HRW h0 HEM HEM0;go_enter func109,ntmps109
  go_wp2_with(first
    | (refine wpList_load_row rfl 25 (.tmp 2) rfl w.heap.size rfl 25 (av z8).toArray (0,0) _ HA0.out underlying25 rfl (aW HXL.out) ?_)
    | (refine wpList_store_row rfl 25 (.tmp 2) (.tmp 10) rfl w.heap.size (av z8).toArray rfl rfl 25 (av z8).toArray HA0.out (aW HXL.out) ((cq rfl).trans (cq HXL.out).symm) (ib z8) ?_))
  exact bodyPost_ret (dZ results109 _ _ w.heap.size 25 (av z8).toArray (0,0) _ _ rfl (aA HA0.out) underlying25 (aW HXL.out)) rfl ⟨HR.out,ai HB0.out (le_refl _) _⟩
 ·have hem:=HEM.out (by omega);have HRW2:=hid (HRW.out h0);have HSP:Hid (∀ W,Mx W->Calls prog 165 #[.string U,.string ⟨#[58]⟩,.int .i64 9] W fun e W'=>QG 58 8 U W e W'):=fun W hM=>gF 58 8 (by omega) U W (by omega) hM;have HMX:=hid (hM.below HB0.out);have HER:=hid (hE.below HB0.out);clear HRW HRE HEM HEM0 h0 hE hM;go_enter func109,ntmps109;go_wp2_with fail;rw[<-HWE.out];obtain⟨w1,hw1⟩:=Ex' (w.alloc (.cells (av z8).toArray 25));rw[hw1]at HB0 HA0 HZ0 HMX HER ⊢;clear hw1 HWE;refine(HSP.out w1 HMX.out).mono ?_;rintro e w2 ⟨⟨g,c,qs,rfl,hcb,hor⟩,B1⟩;have HB1:=Bt' HB0 B1;have HER2:=hid (HER.out.below B1);have HA1:Hid (w2.heap[w.heap.size]? = some (.cells (av z8).toArray 25 (0,0))):=(B1.block _ (by rw[HZ0.out];omega)).trans HA0.out;have HCB:=hid hcb;have hz2:w.heap.size<w2.heap.size:=by have:=HZ0.out;have:=B1.size;omega
  clear B1 HSP hcb HMX HER HA0 HB0 HZ0;by_cases h8:qs.length<=8
  ·have hqs:qs.map bn=spB 58 (bn U):=by
    rcases hor with h | h
    ·exact h.2
    ·omega
   have HSZ:Hid (∀ i,i<qs.length->(qs[i]?.getD ⟨#[]⟩).size<=1000000):=fun i hi=>by
    have h1:bn (qs[i]?.getD ⟨#[]⟩)∈spB 58 (bn U):=by rw[<-hqs,getElem?_eq_getElem hi];exact List.mem_map_of_mem (getElem_mem hi)
    have:=(HMEM.out _ h1).1;rw[aa]at this;omega
   have HO:Hid (o=al (qs.map bn)):=by show _=_;rw[HRW2.out,<-hqs,if_pos (by rw[length_map];exact h8)]
   have HLN:Hid ((qs.map bn).length=qs.length):=by show _=_;rw[length_map]
   have HPS:Hid (∀ i,i<qs.length->(qs.map bn)[i]? = some (bn (qs[i]?.getD ⟨#[]⟩))):=fun i hi=>by rw[getElem?_map,getElem?_eq_getElem hi];rfl
   obtain⟨ps,hps⟩:=Ex' (qs.map bn);rw[hps]at HO HLN HPS;obtain⟨n,hn⟩:=Ex' qs.length;rw[hn]at HCB HSZ HLN HPS h8 ⊢;clear hor hqs HMEM HRW2 hps hn;have h8z:¬ (8:Int)<(n:Int):=by omega
   have HF0:=hid (Fil.start ps);go_wp2_with fail
   go_loopw [4,19] (fun v4 v19 wr=>∃(i:Nat) (b:Bool) (X:List Nat),i<=n/\v4=.bool b/\v19=.int .i64 (i:Int)/\Hid (Fil ps i X)/\Hid (wr.heap[w.heap.size]? = some (.cells (av X).toArray 25 (0,0)))/\Hid (∀ j,j<n->wr.cell? ⟨g,j,none⟩=some (.string (qs[j]?.getD ⟨#[]⟩)))/\Hid (Er wr)/\Hid (Below w.heap.size w wr)) (fun _ v19 _=>n - (intOf v19).toNat)
   case atStart=>exact⟨0,false,z8,by omega,rfl,rfl,HF0,HA1,HCB,HER2,HB1⟩
   case round =>
    obtain⟨i,b,X,hi,rfl,rfl,HF,HA,HC,HEr,HB⟩:=hrel;have HXL2:=hid HF.out.1;by_cases hlt:i<n
    ·have hcr:=HC.out i hlt;have HPI:=HPS.out i hlt;have HSI:=HSZ.out i hlt;obtain⟨D,hD⟩:=Ex' (qs[i]?.getD ⟨#[]⟩);rw[hD]at hcr HPI HSI;have HPP:=hid HPI;have hltz:(i:Int)<(n:Int):=by omega
     have hi8:i<8:=by omega
     have hi8z:(i:Int)<8:=by omega
     have hgb:g≠w.heap.size:=by intro e;subst e;have h1:=HC.out 0 (by omega);rw[cD HA.out (by rw[HXL2.out];omega)]at h1;cases h1
     have hz:=Lib.lt_of_cell hcr
     have hzA:w.heap.size<wr.heap.size:=by
      rcases Nat.lt_or_ge w.heap.size wr.heap.size with h | h
      ·exact h
      ·have h5:=HA.out;rw[Array.getElem?_eq_none h]at h5;cases h5
     clear hD HPI;cases hp:pc (bn D) with
     | none =>
      have HN:Hid (o=none):=by show _=_;rw[HO.out];exact AG (List.mem_of_getElem? HPP.out) hp
      have HPC:=hid (FZ D hp (by omega) wr HEr.out);clear hp HPP HO HPS HSZ HCB HF0 HB1 HER2 HA1;go_wp2_with fail;refine HPC.out.mono ?_;rintro e w4 ⟨rfl,B4⟩;have HA4:Hid (w4.heap[w.heap.size]? = some (.cells (av X).toArray 25 (0,0))):=(B4.block _ hzA).trans HA.out;have HB4:=Bt' HB B4;have hdst:=cD HA4.out (j:=i) (by rw[HXL2.out];exact hi8);have hfz:=frozen_of_row w4 w.heap.size i _ _ HA4.out;have HA5:Hid ((w4.setCell ⟨w.heap.size,i,none⟩ (.int .u16 ((0:Nat):Int))).heap[w.heap.size]? = some (.cells (av (X.set i 0)).toArray 25 (0,0))):=by show _=_;rw[heap_setCell_same w4 _ i _ _ _ HA4.out,nr]
      have HB5:=hid (HB4.out.setCell (p:=⟨w.heap.size,i,none⟩) (le_refl _) (.int .u16 ((0:Nat):Int)));have HX5:Hid ((X.set i 0).length=8):=by show _=_;rw[length_set];exact HXL2.out
      clear HF HA HC HPC B4 HB HEr HXL2
      go_wp2_with(first
        | (refine wpList_load_row rfl 25 (.tmp 2) rfl w.heap.size rfl 25 (av (X.set i 0)).toArray (0,0) _ HA5.out underlying25 rfl (aW HX5.out) ?_)
        | (refine wpList_store_row rfl 25 (.tmp 2) (.tmp 33) rfl w.heap.size (av (X.set i 0)).toArray rfl rfl 25 (av (X.set i 0)).toArray HA5.out (aW HX5.out) ((cq HX5.out).trans (cq HX5.out).symm) (ib (X.set i 0)) ?_))
      exact bodyPost_ret (dZ results109 _ _ w.heap.size 25 (av (X.set i 0)).toArray (0,0) _ _ rfl (aA HA5.out) underlying25 (aW HX5.out)) rfl ⟨HNO.out _ HN.out HX5.out,ai HB5.out (le_refl _) _⟩
     | some v =>
      have HF2:=hid (HF.out.step hi8 HPP.out hp);have HPC:=hid (Ga D v hp wr);clear hp HPP HF;go_wp2_with fail;refine HPC.out.mono ?_;rintro e w4 ⟨rfl,B4⟩;have HA4:Hid (w4.heap[w.heap.size]? = some (.cells (av X).toArray 25 (0,0))):=(B4.block _ hzA).trans HA.out;have HB4:=Bt' HB B4;have HE4:=hid (HEr.out.below B4);have HC4:Hid (∀ j,j<n->w4.cell? ⟨g,j,none⟩=some (.string (qs[j]?.getD ⟨#[]⟩))):=fun j hj=>(B4.cell (p:=⟨g,j,none⟩) (Lib.lt_of_cell (HC.out j hj))).trans (HC.out j hj);have hdst:=cD HA4.out (j:=i) (by rw[HXL2.out];exact hi8);have hfz:=frozen_of_row w4 w.heap.size i _ _ HA4.out;have HA5:Hid ((w4.setCell ⟨w.heap.size,i,none⟩ (.int .u16 (v:Nat))).heap[w.heap.size]? = some (.cells (av (X.set i v)).toArray 25 (0,0))):=by show _=_;rw[heap_setCell_same w4 _ i _ _ _ HA4.out,nr]
      have HC5:Hid (∀ j,j<n->(w4.setCell ⟨w.heap.size,i,none⟩ (.int .u16 (v:Nat))).cell? ⟨g,j,none⟩=some (.string (qs[j]?.getD ⟨#[]⟩))):=fun j hj=>(jZ w4 _ i g j _ hgb).trans (HC4.out j hj);have HB5:=hid (HB4.out.setCell (p:=⟨w.heap.size,i,none⟩) (le_refl _) (.int .u16 (v:Nat)))
      have HE5:Hid (Er (w4.setCell ⟨w.heap.size,i,none⟩ (.int .u16 (v:Nat)))):=by
       obtain⟨⟨a,h1,h2⟩,⟨a',h3,h4⟩⟩:=HE4.out;refine⟨⟨a,?_,h2⟩,⟨a',?_,h4⟩⟩
       ·refine(jZ w4 _ i _ 0 _ (fun e=>?_)).trans h1;rw[e,cD HA4.out (by rw[HXL2.out];omega)]at h1;rcases h2 with rfl | ⟨_,_,rfl⟩ <;> cases h1
       ·refine(jZ w4 _ i _ 0 _ (fun e=>?_)).trans h3;rw[e,cD HA4.out (by rw[HXL2.out];omega)]at h3;rcases h4 with rfl | ⟨_,_,rfl⟩ <;> cases h3
      clear HA HC HC4 HPC B4 HB HEr HE4 HXL2;go_wp2_with fail
      go_roundw
      case rel=>exact⟨i+1,true,X.set i v,by omega,rfl,by go_num,HF2,HA5,HC5,HE5,HB5⟩
      case measure=>simp[intOf];omega
    ·have hin:i=n:=by omega
     have hltz:¬ (i:Int)<(n:Int):=by omega
     obtain⟨L,l1,l2,l3⟩:=HF.out.all (by rw[HLN.out];exact hin);have HR:Hid (NI o (.returned (.tuple #[.agg (av X).toArray,.int .i64 (n:Int),.bool true]))):=by have h5:=HYES.out L (HO.out.trans l1);rw[<-l3,l2,HLN.out]at h5;exact h5
     clear l1 l2 l3 HO HPS HSZ HCB HF0 HB1 HER2 HA1 HF HC HEr HNO HYES hin
     go_wp2_with(first
       | (refine wpList_load_row rfl 25 (.tmp 2) rfl w.heap.size rfl 25 (av X).toArray (0,0) _ HA.out underlying25 rfl (aW HXL2.out) ?_)
       | (refine wpList_store_row rfl 25 (.tmp 2) (.tmp 35) rfl w.heap.size (av X).toArray rfl rfl 25 (av X).toArray HA.out (aW HXL2.out) ((cq HXL2.out).trans (cq HXL2.out).symm) (ib X) ?_))
     exact bodyPost_ret (dZ results109 _ _ w.heap.size 25 (av X).toArray (0,0) _ _ rfl (aA HA.out) underlying25 (aW HXL2.out)) rfl ⟨HR.out,ai HB.out (le_refl _) _⟩
  ·have HN:Hid (o=none):=by
    show _=_;rw[HRW2.out,if_neg];rcases hor with⟨h,h5⟩ | ⟨h,_⟩
    ·have:=congrArg List.length h5;rw[length_map]at this;have h6:(spB 58 (bn U)).length=qs.length:=this.symm;omega
    ·have h6:8<(spB 58 (bn U)).length:=h;omega
   have hle:qs.length<=1000001:=by
    rcases hor with⟨h,h5⟩ | ⟨_,_,h⟩
    ·have:=congrArg List.length h5;rw[length_map]at this;omega
    ·omega
   have h8z:(8:Int)<(qs.length:Int):=by omega
   obtain⟨n,hn⟩:=Ex' qs.length;rw[hn]at h8z hle ⊢;clear hor HCB hn h8 HMEM HRW2 HYES
   go_wp2_with(first
     | (refine wpList_load_row rfl 25 (.tmp 2) rfl w.heap.size rfl 25 (av z8).toArray (0,0) _ HA1.out underlying25 rfl (aW HXL.out) ?_)
     | (refine wpList_store_row rfl 25 (.tmp 2) (.tmp 16) rfl w.heap.size (av z8).toArray rfl rfl 25 (av z8).toArray HA1.out (aW HXL.out) ((cq rfl).trans (cq HXL.out).symm) (ib z8) ?_))
   exact bodyPost_ret (dZ results109 _ _ w.heap.size 25 (av z8).toArray (0,0) _ _ rfl (aA HA1.out) underlying25 (aW HXL.out)) rfl ⟨HNO.out _ HN.out HXL.out,ai HB1.out (le_refl _) _⟩
theorem Ai(p:List Int):lst false p=(pc p).map (fun v=>[v]):=by unfold lst;rw[if_neg (by decide)]
theorem Ge:∀ ps:List (List Int),pcs false ps=al ps
 | []=>rfl
 | [p]=>by
  show lst false p=put (pc p) (some []);rw[Ai];cases pc p <;> rfl
 | p::q::r=>by have ih:=Ge (q::r);show put (pc p) (pcs false (q::r))=put (pc p) (al (q::r));rw[ih]
theorem jJ{l:List Int}:rwd l=pieces false l\/(rwd l=none/\∀ L,pieces false l=some L->8<L.length):=by
 unfold rwd pieces;by_cases h:l=[]
 ·left;rw[if_pos h,if_pos h]
 ·rw[if_neg h,if_neg h,Ge];by_cases h8:(spB 58 l).length<=8
  ·left;rw[if_pos h8]
  ·right;rw[if_neg h8];exact⟨rfl,fun L hL=>by rw[zk _ L hL];omega⟩
theorem wA(l:List Int):full (rwd l)=full (pieces false l):=by
 rcases jJ (l:=l) with h | ⟨h,h2⟩
 ·rw[h]
 ·rw[h];cases hp:pieces false l with
  | none=>rfl
  | some L =>
   have:=h2 L hp;show none=if L.length=8 then some L else none;rw[if_neg (by omega)]
theorem xi(f b:List Int):both (rwd f) (rwd b)=both (pieces false f) (pieces false b):=by
 have no1:∀ o:Option (List Nat),both none o=none:=fun o=>by cases o <;> rfl
 have no2:∀ o:Option (List Nat),both o none=none:=fun o=>by cases o <;> rfl
 have big:∀ F B:List Nat,7<F.length+B.length->both (some F) (some B)=none:=fun F B h=>by show(if F.length+B.length<=7 then _ else none)=none;rw[if_neg (by omega)]
 rcases jJ (l:=f) with h | ⟨h,h2⟩ <;> rcases jJ (l:=b) with g | ⟨g,g2⟩ <;> rw[h,g]
 ·rw[no2];cases hb:pieces false b with
  | none=>rw[no2]
  | some B =>
   cases hf:pieces false f with
   | none=>rw[no1]
   | some F=>rw[big F B (by have:=g2 B hb;omega)]
 ·rw[no1];cases hb:pieces false b with
  | none=>rw[no2]
  | some B =>
   cases hf:pieces false f with
   | none=>rw[no1]
   | some F=>rw[big F B (by have:=h2 F hf;omega)]
 ·rw[no1];cases hb:pieces false b with
  | none=>rw[no2]
  | some B =>
   cases hf:pieces false f with
   | none=>rw[no1]
   | some F=>rw[big F B (by have:=h2 F hf;omega)]
theorem wR{p:List Int}(h:¬ 46∈p):dt p=none:=by unfold dt;rw[dR 46 p h];show kS [dn p]=none;exact rA (by simp)
theorem rj{p:List Int}(h:dt p=none):lst true p=lst false p:=by unfold lst;rw[if_pos rfl,if_neg (by decide),h]
theorem OY{p:List Int}(h:46∈p):pc p=none:=by
 unfold pc;rw[if_neg];intro hh;have:=(List.all_eq_true.1 hh.2.2) 46 h
 revert this
 decide
theorem qY{p:List Int}(h:dt p=none):∀ ps:List (List Int),ps.getLast? = some p->pcs true ps=pcs false ps
 | [],_=>rfl
 | [q],e=>by
  have:q=p:=by simpa using e
  subst this;exact rj h
 | q::r::s,e=>by have ih:=qY h (r::s) (by simpa using e);show put (pc q) (pcs true (r::s))=put (pc q) (pcs false (r::s));rw[ih]
theorem Gd{p:List Int}(h:lst true p=none):∀ ps:List (List Int),ps.getLast? = some p->pcs true ps=none
 | [],e=>by cases e
 | [q],e=>by
  have:q=p:=by simpa using e
  subst this;exact h
 | q::r::s,e=>by have ih:=Gd h (r::s) (by simpa using e);show put (pc q) (pcs true (r::s))=none;rw[ih];cases pc q <;> rfl
theorem zZ{p qa qb:List Int}{a b:Nat}(h:lst true p=some [a,b])(ha:pc qa=some a)(hb:pc qb=some b):∀ ps:List (List Int),pcs true (ps++[p])=pcs false (ps++[qa,qb])
 | []=>by
  show lst true p=put (pc qa) (lst false qb);rw[Ai,h,ha,hb];rfl
 | q::r=>by
  have ih:=zZ h ha hb r
  have e1:pcs true (q::(r++[p]))=put (pc q) (pcs true (r++[p])):=by
   cases r with
   | nil=>rfl
   | cons _ _=>rfl
  have e2:pcs false (q::(r++[qa,qb]))=put (pc q) (pcs false (r++[qa,qb])):=by
   cases r with
   | nil=>rfl
   | cons _ _=>rfl
  show pcs true (q::(r++[p]))=pcs false (q::(r++[qa,qb]));rw[e1,e2,ih]
def Frn(X:List Int):Prop:=X=[]\/∃ Y,X=Y++[58]
theorem EU{X:List Int}(hX:Frn X):∃ L:List (List Int),∀ p:List Int,spB 58 (X++p)=L++spB 58 p:=by
 rcases hX with rfl | ⟨Y,rfl⟩
 ·exact⟨[],fun p=>rfl⟩
 ·refine⟨spB 58 Y,fun p=>?_⟩;rw[append_assoc];exact lG 58 Y p
theorem zI{X p:List Int}(hX:Frn X)(hp:¬ 58∈p):(spB 58 (X++p)).getLast? = some p:=by obtain⟨L,h⟩:=EU hX;rw[h,dR 58 p hp];simp
theorem kx{l p:List Int}(hl:(spB 58 l).getLast? = some p)(h:dt p=none):pieces true l=pieces false l:=by unfold pieces;rw[qY h _ hl]
theorem qW{l p:List Int}(hl:(spB 58 l).getLast? = some p)(h:lst true p=none)(hp:p≠[]):pieces true l=none:=by unfold pieces;rw[if_neg,Gd h _ hl];intro e;rw[e]at hl;exact hp (by simpa[spB]using hl.symm)
theorem gm:∀ l:List Int,cc l≠0->∃ A B,l=A++58::58::B/\cc (A++[58])=0
 | [],h=>absurd rfl h
 | [a],h=>absurd rfl h
 | a::b::t,h=>by
  by_cases hab:a=58/\b=58
  ·exact⟨[],t,by rw[hab.1,hab.2];rfl,rfl⟩
  ·rw[cj,if_neg hab,zero_add]at h;obtain⟨A,B,h1,h2⟩:=gm (b::t) h;refine⟨a::A,B,by rw[h1];rfl,?_⟩;cases A with
   | nil =>
    have hb:b=58:=by have h5:b::t=58::58::B:=h1;exact(List.cons.inj h5).1
    show cc (a::58::[])=0;rw[cj,if_neg (fun hh=>hab ⟨hh.1,hb⟩)];rfl
   | cons c A =>
    have hb:b=c:=by have h5:b::t=c::(A++58::58::B):=h1;exact(List.cons.inj h5).1
    show cc (a::c::(A++[58]))=0;rw[cj,if_neg (fun hh=>hab ⟨hh.1,hb.trans hh.2⟩)];rw[zero_add];exact h2
theorem Cr{B:List Int}(h:cc (58::B)≠0):[]∈spB 58 B/\B≠[]:=by
 cases B with
 | nil=>exact absurd rfl h
 | cons b t =>
  refine⟨?_,by simp⟩;by_cases hb:b=58
  ·rw[hb,spB,if_pos rfl];simp
  ·rw[cj,if_neg (fun hh=>hb hh.2),zero_add]at h;obtain⟨A,B,h1,_⟩:=gm (b::t) h;rw[h1];have e:spB 58 (A++58::58::B)=spB 58 A++spB 58 (58::B):=lG 58 A (58::B);have e2:spB 58 (58::B)=[]::spB 58 B:=if_pos rfl;rw[e,e2];simp
theorem qS{B:List Int}(h:cc (58::B)≠0):rwd B=none:=by
 obtain⟨h1,h2⟩:=Cr h;unfold rwd;rw[if_neg h2];split
 ·exact AG h1 rfl
 ·rfl
theorem Jc{A B:List Int}(h:cc (A++[58])=0):cc (A++58::58::B)=1+cc (58::B):=by
 have e:A++58::58::B=(A++[58])++(58::B):=by simp
 rw[e,cQ,h,if_pos ⟨by simp,by simp⟩];omega
def pp(l:List Int):Option (List Nat):=if cc l=0 then full (rwd l) else both (rwd (l.take (cp l))) (rwd (l.drop (cp l+2)))
theorem FA{A B:List Int}(h:cc (A++[58])=0):pp (A++58::58::B)=both (rwd A) (rwd B):=by
 have hc:=Jc (B:=B) h;unfold pp;rw[if_neg (by omega),wY A B h];have t1:(A++58::58::B).take A.length=A:=take_left;have t2:(A++58::58::B).drop (A.length+2)=B:=by rw[<-drop_drop,drop_left];rfl
 rw[t1,t2]
theorem oz{A B:List Int}(h:cc (A++[58])=0):prs (A++58::58::B)=if cc (58::B)=0 then both (pieces false A) (pieces true B) else none:=by
 have hc:=Jc (B:=B) h;unfold prs;rw[if_neg (by omega),wY A B h];have t1:(A++58::58::B).take A.length=A:=take_left;have t2:(A++58::58::B).drop (A.length+2)=B:=by rw[<-drop_drop,drop_left];rfl
 rw[t1,t2];by_cases h0:cc (58::B)=0
 ·rw[if_pos (by omega),if_pos h0]
 ·rw[if_neg (by omega),if_neg h0]
theorem jl(o:Option (List Nat)):both o none=none:=by cases o <;> rfl
theorem mj{A B:List Int}:(spB 58 (A++58::58::B)).getLast? = (spB 58 B).getLast? := by
 have e:spB 58 (A++58::58::B)=spB 58 A++spB 58 (58::B):=lG 58 A (58::B);have e2:spB 58 (58::B)=[]::spB 58 B:=if_pos rfl;rw[e,e2];cases h:spB 58 B with
 | nil=>exact absurd h (lH 58 B)
 | cons x y =>
  have e3:spB 58 A++[]::x::y=(spB 58 A++[[]])++(x::y):=by simp
  rw[e3,List.getLast?_append];cases h6:(x::y).getLast? with
  | none=>simp at h6
  | some v=>rfl
theorem Fz{X p:List Int}(hX:Frn X)(hp:¬ 58∈p)(hd:¬ 46∈p):pp (X++p)=prs (X++p):=by
 have hl:=zI hX hp;obtain⟨l,e⟩:=Ex' (X++p);rw[e]at hl ⊢;by_cases h0:cc l=0
 ·unfold pp prs;rw[if_pos h0,if_pos h0,wA,kx hl (wR hd)]
 ·obtain⟨A,B,rfl,hA⟩:=gm l h0;rw[FA hA,oz hA];rw[mj]at hl;by_cases h1:cc (58::B)=0
  ·rw[if_pos h1,xi,kx hl (wR hd)]
  ·rw[if_neg h1,qS h1,jl]
theorem Bv{X p:List Int}(hX:Frn X)(hp:¬ 58∈p)(hd:46∈p)(h:dt p=none):prs (X++p)=none:=by
 have hl:=zI hX hp;have hlst:lst true p=none:=by rw[rj h];unfold lst;rw[if_neg (by decide),OY hd];rfl
 have hne:p≠[]:=fun e=>by rw[e]at hd;cases hd
 obtain⟨l,e⟩:=Ex' (X++p);rw[e]at hl ⊢;by_cases h0:cc l=0
 ·unfold prs;rw[if_pos h0,qW hl hlst hne];rfl
 ·obtain⟨A,B,rfl,hA⟩:=gm l h0;rw[oz hA];rw[mj]at hl;split
  ·rw[qW hl hlst hne,jl]
  ·rfl
theorem Lg{X p:List Int}{a b:Nat}(hX:Frn X)(hp:¬ 58∈p)(hd:46∈p)(h:dt p=some [a,b])(ha:a<65536)(hb:b<65536):pp (X++(aM false false a++58::aM false false b))=prs (X++p):=by
 have hlst:lst true p=some [a,b]:=by unfold lst;rw[if_pos rfl,h]
 have hne:p≠[]:=fun e=>by rw[e]at hd;cases hd
 have qa:=kO (cap:=false) (nts:=false) ha;have qb:=kO (cap:=false) (nts:=false) hb;have pa:=jb (cap:=false) (nts:=false) ha;have pb:=jb (cap:=false) (nts:=false) hb;obtain⟨q1,hq1⟩:=Ex' (aM false false a);obtain⟨q2,hq2⟩:=Ex' (aM false false b);rw[hq1]at qa pa ⊢;rw[hq2]at qb pb ⊢;have pieces_eq:∀ Z:List Int,Frn Z->pieces true (Z++p)=pieces false (Z++(q1++58::q2)):=fun Z hZ=>by obtain⟨L,hL⟩:=EU hZ;unfold pieces;rw[if_neg (fun e=>hne (List.append_eq_nil_iff.1 e).2),if_neg (fun e=>by simp at e)];rw[hL,hL,dR 58 p hp,lG,dR 58 q1 qa.2,dR 58 q2 qb.2];exact zZ hlst pa pb L
 have hq0:cc (q1++58::q2)=0:=by have e:(58::q2)=[58]++q2:=rfl;rw[cQ,fw q1 qa.2,e,cQ,fw q2 qb.2,if_neg (fun hh=>head_ne qb hh.2),if_neg (fun hh=>kG qa hh.1)];rfl
 have hph:p.head? ≠ some 58:=fun e=>hp (List.mem_of_mem_head? e)
 have hqh:(q1++58::q2).head? ≠ some 58:=by
  cases hq:q1 with
  | nil=>exact absurd hq qa.1
  | cons c t =>
   have:=head_ne qa;rw[hq]at this;simpa using this
 have ccp:∀ Z:List Int,cc (Z++p)=cc Z:=fun Z=>by rw[cQ,fw p hp,if_neg (fun hh=>hph hh.2)];rfl
 have ccq:∀ Z:List Int,cc (Z++(q1++58::q2))=cc Z:=fun Z=>by rw[cQ,hq0,if_neg (fun hh=>hqh hh.2)];rfl
 by_cases h0:cc X=0
 ·unfold pp prs;rw[if_pos (by rw[ccq];exact h0),if_pos (by rw[ccp];exact h0),wA,pieces_eq X hX]
 ·obtain⟨A,B,rfl,hA⟩:=gm X h0
  have hB:Frn B:=by
   rcases hX with e | ⟨Y,e⟩
   ·simp at e
   ·rcases List.eq_nil_or_concat B with e2 | ⟨B',c,e2⟩
    ·exact .inl e2
    ·right;refine⟨B',?_⟩;rw[e2]at e ⊢;have e3:(A++58::58::B')++[c]=Y++[58]:=by simpa using e
     have:=(List.append_inj' e3 rfl).2;simpa using this
  have e1:(A++58::58::B)++p=A++58::58::(B++p):=by simp
  have e2:(A++58::58::B)++(q1++58::q2)=A++58::58::(B++(q1++58::q2)):=by simp
  rw[e1,e2,FA hA,oz hA];have c1:cc (58::(B++p))=cc (58::B):=ccp (58::B);have c2:cc (58::(B++(q1++58::q2)))=cc (58::B):=ccq (58::B);by_cases h1:cc (58::B)=0
  ·rw[if_pos (by rw[c1];exact h1),xi,pieces_eq B hB]
  ·rw[if_neg (by rw[c1];exact h1),qS (B:=B++(q1++58::q2)) (by rw[c2];exact h1),jl]
theorem wh:∀ l:List UInt8,(cc (nn l)=0/\Lib.index l [58,58]=-1)\/(cc (nn l)≠0/\Lib.index l [58,58]=(cp (nn l):Int))
 | []=>.inl ⟨rfl,rfl⟩
 | [a]=>by
  left;refine⟨rfl,?_⟩;have e:([58,58]:List UInt8).isPrefixOf [a]=false:=by simp[List.isPrefixOf]
  rw[Lib.index,e];rfl
 | a::b::t=>by
  have e0:nn (a::b::t)=(a.toNat:Int)::(b.toNat:Int)::nn t:=rfl;have e1:nn (b::t)=(b.toNat:Int)::nn t:=rfl;have ih:=wh (b::t)
  have q58:∀ x:UInt8,(x.toNat:Int)=58↔x=58:=fun x=>by
   constructor
   ·intro h;exact UInt8.toNat_inj.1 (by have h5:(58:UInt8).toNat=58:=rfl;omega)
   ·intro h;rw[h];rfl
  by_cases hab:a=58/\b=58
  ·right;rw[e0,cj,if_pos ⟨(q58 a).2 hab.1,(q58 b).2 hab.2⟩];refine⟨by omega,?_⟩;rw[cp,if_pos ⟨(q58 a).2 hab.1,(q58 b).2 hab.2⟩];have e:([58,58]:List UInt8).isPrefixOf (a::b::t)=true:=by rw[hab.1,hab.2];simp[List.isPrefixOf]
   rw[Lib.index,if_pos e];rfl
  ·have hn:¬ ((a.toNat:Int)=58/\(b.toNat:Int)=58):=fun h=>hab ⟨(q58 a).1 h.1,(q58 b).1 h.2⟩;have e:¬ ([58,58]:List UInt8).isPrefixOf (a::b::t)=true:=by intro h;simp[List.isPrefixOf]at h;exact hab ⟨h.1.symm,h.2.symm⟩
   rw[e0,cj,if_neg hn,zero_add,<-e1,Lib.index,if_neg e];rcases ih with⟨h1,h2⟩ | ⟨h1,h2⟩
   ·left;exact⟨h1,by rw[h2];rfl⟩
   ·right;refine⟨h1,?_⟩;have e5:cp ((a.toNat:Int)::nn (b::t))=cp (nn (b::t))+1:=by rw[e1,cp,if_neg hn]
    rw[h2,e5];have hne:((cp (nn (b::t)):Int)==-1)=false:=by simp <;> omega
    rw[if_neg (by rw[hne];decide)]
    <;> rfl
theorem tF(l:List UInt8):(cc (nn l)=0/\Lib.cut l [58,58]=(l,[],false))\/(cc (nn l)≠0/\nn (Lib.cut l [58,58]).1=(nn l).take (cp (nn l))/\nn (Lib.cut l [58,58]).2.1=(nn l).drop (cp (nn l)+2)/\(Lib.cut l [58,58]).2.2=true):=by
 rcases wh l with⟨h1,h2⟩ | ⟨h1,h2⟩
 ·left;refine⟨h1,?_⟩;unfold Lib.cut;rw[h2,if_neg (by decide)]
 ·right;refine⟨h1,?_⟩;unfold Lib.cut;rw[h2,if_pos (by omega),Int.toNat_natCast];unfold nn;exact⟨by rw[List.map_take],by rw[List.map_drop] <;> rfl,rfl⟩
open F (bn)
def mK(a:List Nat)(w:World)(e:Ending)(W':World):Prop:=(∃ t,e=.returned (.string t)/\bn t=txt a)/\Below w.heap.size w W'
open F (hx)
open F (hx)
theorem Gk(xs:Array Value)(i:Nat)(x:Int)(h:xs[i]? = some (.int .u16 x))(w:World):(part 22 xs i).run prog w=.ok (.int .u16 x) w:=by unfold part;simp[h,go_sem]
theorem Aw(d:Nat)(xs ys:Array Value)(f g:Nat->Int)(w:World):∀(L:List Nat),(∀ i∈L,xs[i]? = some (.int .u16 (f i)))->(∀ i∈L,ys[i]? = some (.int .u16 (g i))) ->
  Sem.run prog (forIn L ((none:Option Bool),()) fun i __s=>do
          let a <-part 22 xs (i * 1)
          let b <-part 22 ys (i * 1)
          let r <-Op.equalIn (d+1) 22 a b
          if (!r)=true then pure (ForInStep.done (some false,())) else pure (ForInStep.yield (none,()))) w=.ok ((if L.all (fun i=>f i==g i)=true then none else some false),()) w
 | [],_,_=>by simp
 | i::L,hx,hy=>by
  have ih:=Aw d xs ys f g w L (fun j hj=>hx j (by simp[hj])) (fun j hj=>hy j (by simp[hj]));have e:i * 1=i:=Nat.mul_one i;simp only[List.forIn_cons,Sem.run_bind,e,Gk xs i _ (hx i (by simp)),Gk ys i _ (hy i (by simp)),Result.andThen_ok,run_equalIn_int w d 22 .u16 .u16 _ _ underlying22];cases h:(f i==g i) with
  | true=>simp only[Bool.not_true,false_eq_true,if_false,Sem.run_pure,Result.andThen_ok,List.all_cons,h,Bool.true_and];simpa using ih
  | false=>simp[h]
theorem eq8(d:Nat)(xs ys:Array Value)(f g:Nat->Int)(hx:∀ i,i<8->xs[i]? = some (.int .u16 (f i)))(hy:∀ i,i<8->ys[i]? = some (.int .u16 (g i)))(w:World):(Op.equalIn (d+2) 25 (.agg xs) (.agg ys)).run prog w=.ok ((List.range 8).all (fun i=>f i==g i)) w:=by
 have hs:∀ w,(sizeOf 22).run prog w=.ok 1 w:=fun w=>by kernel_rfl
 rw[Op.equalIn];simp only[Sem.run_bind,run_underlying underlying25,Result.andThen_ok,hs];rw[Std.Legacy.Range.forIn_eq_forIn_range'];have e:List.range' ([:8]:Std.Legacy.Range).start ([:8]:Std.Legacy.Range).size ([:8]:Std.Legacy.Range).step=List.range 8:=by decide
 rw[e];have h:=Aw d xs ys f g w (List.range 8) (fun i hi=>hx i (List.mem_range.1 hi)) (fun i hi=>hy i (List.mem_range.1 hi));rw[h];simp only[Result.andThen_ok];cases (List.range 8).all (fun i=>f i==g i) <;> simp
theorem Ed{X:List Nat}(h:X.length=8)(i:Nat)(hi:i<8):(av X).toArray[i]? = some (.int .u16 ((X[i]?.getD 0:Nat):Int)):=by unfold av;simp[h,hi]
def err(o:Option (List Nat)):Int:=if o.isSome=true then 0 else 8
end X
end Go.Proofs.YtmkompnhefhngaaGreatDoor
namespace Go.Proofs
open Go.Shelf Go.RowKit
shelf_lay Lays.n145 Nm 145 at Tryz as Tryz.laysCutX
end Go.Proofs
namespace Go.Proofs.YtmkompnhefhngaaGreatDoor
open Tryz Go.RowKit
namespace X
open F (hid)
def Edg(A B X:List Nat)(q i:Nat):Prop:=X.length=8/\∀ j,X[j]?.getD 0=if 8 - q<=j/\j<8 - q+i then B[j - (8 - q)]?.getD 0 else A[j]?.getD 0
theorem Edg.start{A B:List Nat}{q:Nat}(hA:A.length=8):Edg A B A q 0:=⟨hA,fun j=>by rw[if_neg (by omega)]⟩
theorem Edg.step{A B X:List Nat}{q i v:Nat}(h:Edg A B X q i)(hi:i<q)(hq:q<=8)(hv:B[i]?.getD 0=v):Edg A B (X.set (8 - q+i) v) q (i+1):=by
 obtain⟨h8,h⟩:=h;refine⟨by rw[length_set];exact h8,fun j=>?_⟩;by_cases e:j=8 - q+i
 ·rw[e,List.getElem?_set_self (by omega),if_pos (by omega),show 8 - q+i - (8 - q)=i by omega,hv];rfl
 ·rw[List.getElem?_set_ne (by omega),h j];by_cases e2:8 - q<=j/\j<8 - q+i
  ·rw[if_pos e2,if_pos (by omega)]
  ·rw[if_neg e2,if_neg (by omega)]
theorem yG(a0 a1 a2 a3 a4 a5 a6 a7 b0 b1 b2 b3 b4 b5 b6 b7 q:Nat)(hq:q<=8)(w:World):
  Calls prog 110 #[.agg #[.int .u16 a0,.int .u16 a1,.int .u16 a2,.int .u16 a3,.int .u16 a4,.int .u16 a5,.int .u16 a6,.int .u16 a7],.agg #[.int .u16 b0,.int .u16 b1,.int .u16 b2,.int .u16 b3,.int .u16 b4,.int .u16 b5,.int .u16 b6,.int .u16 b7],.int .i64 (q:Int)] w fun e W'=>(∃ X,Edg [a0,a1,a2,a3,a4,a5,a6,a7] [b0,b1,b2,b3,b4,b5,b6,b7] X q q/\e=.returned (.agg (av X).toArray))/\Below w.heap.size w W':=by
 obtain⟨w1,hw1⟩:=Ex' (w.alloc (.cells #[.int .u16 a0,.int .u16 a1,.int .u16 a2,.int .u16 a3,.int .u16 a4,.int .u16 a5,.int .u16 a6,.int .u16 a7] 25));obtain⟨w2,hw2⟩:=Ex' (w1.alloc (.cells #[.int .u16 b0,.int .u16 b1,.int .u16 b2,.int .u16 b3,.int .u16 b4,.int .u16 b5,.int .u16 b6,.int .u16 b7] 25));obtain⟨w3,hw3⟩:=Ex' (w2.alloc (.cells #[.int .u16 0,.int .u16 0,.int .u16 0,.int .u16 0,.int .u16 0,.int .u16 0,.int .u16 0,.int .u16 0] 25));have hz1:w1.heap.size=w.heap.size+1:=by rw[<-hw1];simp
 have hz2:w2.heap.size=w.heap.size+2:=by rw[<-hw2];simp[hz1]
 have B1:Below w1.heap.size w1 w2:=by rw[<-hw2];exact(Below.refl _ _).alloc (le_refl _) _
 have B2:Below w2.heap.size w2 w3:=by rw[<-hw3];exact(Below.refl _ _).alloc (le_refl _) _
 have HA:Hid (w3.heap[w.heap.size]? = some (.cells (av [a0,a1,a2,a3,a4,a5,a6,a7]).toArray 25 (0,0))):=by show _=_;rw[B2.block _ (by omega),B1.block _ (by omega),<-hw1];exact ck w _ _
 have HB:Hid (w3.heap[w.heap.size+1]? = some (.cells (av [b0,b1,b2,b3,b4,b5,b6,b7]).toArray 25 (0,0))):=by show _=_;rw[B2.block _ (by omega),<-hw2,<-hz1];exact ck w1 _ _
 have HR:Hid (w3.heap[w.heap.size+2]? = some (.cells (av z8).toArray 25 (0,0))):=by show _=_;rw[<-hw3,<-hz2];exact ck w2 _ _
 have HBW:Hid (Below w.heap.size w w3):=by
  have B0:Below w.heap.size w w1:=by rw[<-hw1];exact(Below.refl _ _).alloc (le_refl _) _
  exact B0.trans ((B1.mono (by omega)).trans (B2.mono (by omega)))
 have HW:Hid (((w.alloc (.cells #[.int .u16 a0,.int .u16 a1,.int .u16 a2,.int .u16 a3,.int .u16 a4,.int .u16 a5,.int .u16 a6,.int .u16 a7] 25)).alloc (.cells #[.int .u16 b0,.int .u16 b1,.int .u16 b2,.int .u16 b3,.int .u16 b4,.int .u16 b5,.int .u16 b6,.int .u16 b7] 25)).alloc (.cells #[.int .u16 0,.int .u16 0,.int .u16 0,.int .u16 0,.int .u16 0,.int .u16 0,.int .u16 0,.int .u16 0] 25)=w3):=by show _=_;rw[hw1,hw2,hw3]
 clear hw1 hw2 hw3 B1 B2 hz1 hz2;have hlA:[a0,a1,a2,a3,a4,a5,a6,a7].length=8:=rfl;have HLB:Hid ([b0,b1,b2,b3,b4,b5,b6,b7].length=8):=rfl;obtain⟨A,hA⟩:=Ex' ([a0,a1,a2,a3,a4,a5,a6,a7]);obtain⟨B,hB⟩:=Ex' ([b0,b1,b2,b3,b4,b5,b6,b7]);rw[hA]at hlA HA ⊢;rw[hB]at HLB HB ⊢;have HST:=hid (Edg.start (B:=B) (q:=q) hlA);clear hA hB hlA;go_enter func110,ntmps110;go_wp2_with fail;rw[HW.out];obtain⟨arg,harg⟩:=Ex' (Value.agg #[.int .u16 a0,.int .u16 a1,.int .u16 a2,.int .u16 a3,.int .u16 a4,.int .u16 a5,.int .u16 a6,.int .u16 a7]:Value);obtain⟨arb,harb⟩:=Ex' (Value.agg #[.int .u16 b0,.int .u16 b1,.int .u16 b2,.int .u16 b3,.int .u16 b4,.int .u16 b5,.int .u16 b6,.int .u16 b7]:Value);rw[harg,harb];clear HW harg harb
 go_loopw [9] (fun v9 wr=>∃(i:Nat) (X:List Nat),i<=q/\v9=.int .i64 (i:Int)/\Hid (Edg A B X q i)/\Hid (wr.heap[w.heap.size]? = some (.cells (av X).toArray 25 (0,0)))/\Hid (wr.heap[w.heap.size+1]? = some (.cells (av B).toArray 25 (0,0)))/\Hid (wr.heap[w.heap.size+2]? = some (.cells (av z8).toArray 25 (0,0)))/\Hid (Below w.heap.size w wr)) (fun v9 _=>q - (intOf v9).toNat)
 case atStart=>exact⟨0,A,by omega,rfl,HST,HA,HB,HR,HBW⟩
 case round =>
  obtain⟨i,X,hi,rfl,HE,HA,HB,HR,HBW⟩:=hrel;have HXL:=hid HE.out.1;by_cases hlt:i<q
  ·have hltz:(i:Int)<(q:Int):=by omega
   have hsrc:=cD HB.out (j:=i) (by rw[HLB.out];omega);obtain⟨v,hv⟩:=Ex' (B[i]?.getD 0);rw[hv]at hsrc;have HE2:=hid (HE.out.step hlt hq hv);obtain⟨k,hk⟩:=Ex' (8 - q+i);have hkz:(8:Int) - (q:Int)+(i:Int)=(k:Int):=by omega
   have hk8:k<8:=by omega
   have hk8z:(k:Int)<8:=by omega
   rw[hk]at HE2;have hdst:=cD HA.out (j:=k) (by rw[HXL.out];exact hk8);have hfz:=frozen_of_row wr w.heap.size k _ _ HA.out;have HA2:Hid ((wr.setCell ⟨w.heap.size,k,none⟩ (.int .u16 (v:Nat))).heap[w.heap.size]? = some (.cells (av (X.set k v)).toArray 25 (0,0))):=by show _=_;rw[heap_setCell_same wr _ k _ _ _ HA.out,nr]
   have HB2:Hid ((wr.setCell ⟨w.heap.size,k,none⟩ (.int .u16 (v:Nat))).heap[w.heap.size+1]? = some (.cells (av B).toArray 25 (0,0))):=(heap_setCell_other wr _ _ _ (by simp)).trans HB.out;have HR2:Hid ((wr.setCell ⟨w.heap.size,k,none⟩ (.int .u16 (v:Nat))).heap[w.heap.size+2]? = some (.cells (av z8).toArray 25 (0,0))):=(heap_setCell_other wr _ _ _ (by simp)).trans HR.out;have HW2:=hid (HBW.out.setCell (p:=⟨w.heap.size,k,none⟩) (le_refl _) (.int .u16 (v:Nat)));clear hv HE hk;go_wp2_with fail
   go_roundw
   case rel=>exact⟨i+1,X.set k v,by omega,by go_num,HE2,HA2,HB2,HR2,HW2⟩
   case measure=>simp[intOf];omega
  ·have hiq:i=q:=by omega
   have hltz:¬ (i:Int)<(q:Int):=by omega
   have HE2:Hid (Edg A B X q q):=by rw[hiq]at HE;exact HE
   clear HE hiq
   go_wp2_with(first
     | (refine wpList_load_row rfl 25 (.tmp 3) rfl w.heap.size rfl 25 (av X).toArray (0,0) _ HA.out underlying25 rfl (aW HXL.out) ?_)
     | (refine wpList_store_row rfl 25 (.tmp 6) (.tmp 21) rfl (w.heap.size+2) (av X).toArray rfl rfl 25 (av z8).toArray HR.out (aW HXL.out) ((cq rfl).trans (cq HXL.out).symm) (ib X) ?_))
   exact bodyPost_ret (results_cell_row results110 _ _ (w.heap.size+2) 25 (av X).toArray (0,0) _ rfl (aA HR.out) underlying25 rfl (aW HXL.out)) rfl ⟨⟨X,HE2.out,rfl⟩,ai HBW.out (by omega) _⟩
theorem yH(F B:List Nat)(hF:F.length+B.length<=7\/(F.length=8/\B=[]))(w:World):
  Calls prog 110 #[.agg (av (F++z (8 - F.length))).toArray,.agg (av (B++z (8 - B.length))).toArray,.int .i64 (B.length:Int)] w fun e W'=>e=.returned (.agg (av (F++List.replicate (8 - B.length - F.length) 0++B)).toArray)/\Below w.heap.size w W':=by
 have hq:F.length+B.length<=8:=by
  rcases hF with h | ⟨h,rfl⟩
  ·omega
  ·simp[h]
 have lz:∀ L:List Nat,L.length<=8->(L++z (8 - L.length)).length=8:=fun L h=>by unfold z;simp;omega
 obtain⟨a0,a1,a2,a3,a4,a5,a6,a7,ha⟩:=BV (lz F (by omega));obtain⟨b0,b1,b2,b3,b4,b5,b6,b7,hb⟩:=BV (lz B (by omega));have h:=yG a0 a1 a2 a3 a4 a5 a6 a7 b0 b1 b2 b3 b4 b5 b6 b7 B.length (by omega) w;rw[<-ha,<-hb]at h;rw[ha,hb];refine Calls.mono h ?_;rintro e W' ⟨⟨X,⟨h8,hX⟩,rfl⟩,hB⟩;refine⟨?_,hB⟩
 have e:X=F++List.replicate (8 - B.length - F.length) 0++B:=by
  refine MN h8 (by simp;omega) (fun j hj=>?_);rw[hX j]
  have zat:∀(L:List Nat) (k:Nat),k<=7->L.length<=8->(L++z (8 - L.length))[k]?.getD 0=if k<L.length then L[k]?.getD 0 else 0:=fun L k hk hL=>by
   by_cases h:k<L.length
   ·rw[if_pos h,List.getElem?_append_left h]
   ·rw[if_neg h,List.getElem?_append_right (by omega)];unfold z;rw[List.getElem?_replicate];split <;> rfl
  by_cases e:j<F.length
  ·rw[if_neg (by omega),zat F j (by omega) (by omega),if_pos e,append_assoc,List.getElem?_append_left e]
  ·by_cases e2:8 - B.length<=j
   ·rw[if_pos (by omega),zat B _ (by omega) (by omega),if_pos (by omega),List.getElem?_append_right (by simp;omega)];congr 2;simp;omega
   ·rw[if_neg (by omega),zat F j (by omega) (by omega),if_neg e,append_assoc,List.getElem?_append_right (by omega),List.getElem?_append_left (by simp;omega),List.getElem?_replicate,if_pos (by omega)];rfl
 rw[e]
open F (bn aa hid)
def tX(U:ByteArray)(e:Ending):Prop:=∃(f b:ByteArray) (sh:Bool),e=.returned (.tuple #[.string f,.string b,.bool sh])/\f.size<=U.size/\b.size<=U.size/\((sh=false/\pp (bn U)=full (rwd (bn f))/\rwd (bn b)=some [])\/(sh=true/\pp (bn U)=both (rwd (bn f)) (rwd (bn b))))
theorem below_drewN{B:Nat}{a w:World}(h:Below B a w)(n:Nat):Below B a (w.drewN n):=⟨h.os,h.tape,h.output,h.size,h.block⟩
theorem tP(l:List UInt8):bn ⟨l.toArray⟩=nn l:=by unfold bn nn;simp
theorem dp(U:ByteArray)(hU:U.size<=1000000000)(w:World)(hM:Mx w):Calls prog 108 #[.string U,.string ⟨#[58,58]⟩] w fun e W'=>tX U e/\Below w.heap.size w W':=by
 obtain⟨m,hm⟩:=hM;have hf:Tryz.laysCutX_ren.f 145=108:=by kernel_rfl
 have hg:Tryz.laysCutX_ren.g 1=0:=by kernel_rfl
 have h:=Any.strings_Cut Tryz.laysCutX U ⟨#[58,58]⟩ m w (by omega) (by rw[hg];exact hm);rw[hf]at h;refine h.mono ?_;rintro e W' ⟨rfl,n,rfl⟩;refine⟨⟨_,_,_,rfl,?_,?_,?_⟩,below_drewN (Below.refl _ _) n⟩
 ·have e0:(⟨#[58,58]⟩:ByteArray).data.toList=[58,58]:=rfl;rw[e0,<-aa,tP,<-aa U];rcases tF U.data.toList with⟨_,h2⟩ | ⟨_,h2,_⟩
  ·rw[h2];exact le_refl _
  ·rw[h2,List.length_take];exact Nat.min_le_right _ _
 ·have e0:(⟨#[58,58]⟩:ByteArray).data.toList=[58,58]:=rfl;rw[e0,<-aa,tP,<-aa U];rcases tF U.data.toList with⟨_,h2⟩ | ⟨_,_,h2,_⟩
  ·rw[h2];exact zero_le _
  ·rw[h2,length_drop];exact Nat.sub_le _ _
 ·have e0:(⟨#[58,58]⟩:ByteArray).data.toList=[58,58]:=rfl;rw[e0];have hb1:=tP (Lib.cut U.data.toList [58,58]).1;have hb2:=tP (Lib.cut U.data.toList [58,58]).2.1;have hU0:bn U=nn U.data.toList:=rfl;rw[hb1,hb2,hU0];rcases tF U.data.toList with⟨h1,h2⟩ | ⟨h1,h2,h3,h4⟩
  ·left;rw[h2];refine⟨rfl,?_,rfl⟩;unfold pp;rw[if_pos h1]
  ·right;rw[h2,h3,h4];refine⟨rfl,?_⟩;unfold pp;rw[if_neg h1]
theorem eM(W:World)(X:List Nat):((W.alloc (.cells #[.int .u16 0,.int .u16 0,.int .u16 0,.int .u16 0,.int .u16 0,.int .u16 0,.int .u16 0,.int .u16 0] 25)).setRow W.heap.size (av X).toArray).heap[W.heap.size]? = some (.cells (av X).toArray 25 (0,0))/\Below W.heap.size W ((W.alloc (.cells #[.int .u16 0,.int .u16 0,.int .u16 0,.int .u16 0,.int .u16 0,.int .u16 0,.int .u16 0,.int .u16 0] 25)).setRow W.heap.size (av X).toArray) :=
 ⟨aA (ck W _ _),ai ((Below.refl _ W).alloc (le_refl _) _) (le_refl _) _⟩
theorem Qy(W:World):(W.alloc (.cells #[.int .u16 0,.int .u16 0,.int .u16 0,.int .u16 0,.int .u16 0,.int .u16 0,.int .u16 0,.int .u16 0] 25)).heap[W.heap.size]? = some (.cells (av z8).toArray 25 (0,0)):=ck W _ _
theorem PZ{l:List Int}{s:ByteArray}{e:Ending}(h:JI l s e)(hl:l=bn s):(prs l=none/\e=.returned (.tuple #[.string ⟨#[]⟩,.bool false]))\/(∃ t:ByteArray,e=.returned (.tuple #[.string t,.bool true])/\pp (bn t)=prs l/\t.size<=s.size+10):=by
 obtain⟨X,p,e0,h58,hX,h⟩:=h;rcases h with⟨hd,rfl⟩ | ⟨hd,hn,rfl⟩ | ⟨hd,a,b,t,ha,hb,hdt,ht,hts,rfl⟩
 ·right;exact⟨s,rfl,by rw[<-hl,e0];exact Fz hX h58 hd,by omega⟩
 ·left;exact⟨by rw[e0];exact Bv hX h58 hd hn,rfl⟩
 ·right;exact⟨t,rfl,by rw[ht,e0];exact Lg hX h58 hd hdt ha hb,hts⟩
def GX(w:World):Prop:=Tab w/\Er w/\Mx w
theorem GX.below{w w':World}(h:GX w)(hb:Below w.heap.size w w'):GX w':=⟨h.1.below hb (le_refl _),h.2.1.below hb,h.2.2.below hb⟩
def mL(o:Option (List Nat))(e:Ending):Prop:=e=.returned (.tuple #[.agg (av (o.getD z8)).toArray,.int .i64 (err o)])
theorem mL.no:mL none (.returned (.tuple #[.agg (av z8).toArray,.int .i64 8])):=rfl
theorem mL.yes(X:List Nat):mL (some X) (.returned (.tuple #[.agg (av X).toArray,.int .i64 0])):=rfl
theorem lM(s:ByteArray)(hs:s.size<=100000)(w:World)(hG:GX w):Calls prog 61 #[.string s] w fun e W'=>mL (prs (bn s)) e/\Below w.heap.size w W':=by
 have HB0:Hid (Below w.heap.size w (w.alloc (.cells #[.int .u16 0,.int .u16 0,.int .u16 0,.int .u16 0,.int .u16 0,.int .u16 0,.int .u16 0,.int .u16 0] 25))):=(Below.refl _ w).alloc (le_refl _) _;have HA0:=hid (Qy w);have HZ0:Hid ((w.alloc (.cells #[.int .u16 0,.int .u16 0,.int .u16 0,.int .u16 0,.int .u16 0,.int .u16 0,.int .u16 0,.int .u16 0] 25)).heap.size=w.heap.size+1):=by show _=_;simp
 have HG0:=hid (hG.below HB0.out);have HUN:=hid (fun W (h:GX W)=>dX s hs W h.2.1 h.2.2 h.1);have HGP:=hid (fun e (h:JI (bn s) s e)=>PZ h rfl);have HXL:Hid (z8.length=8):=rfl;obtain⟨o,ho⟩:=Ex' (prs (bn s));rw[ho]at HGP ⊢;clear ho hG;go_enter func61,ntmps61;go_wp2_with fail;obtain⟨w1,hw1⟩:=Ex' (w.alloc (.cells #[.int .u16 0,.int .u16 0,.int .u16 0,.int .u16 0,.int .u16 0,.int .u16 0,.int .u16 0,.int .u16 0] 25));rw[hw1]at HB0 HA0 HZ0 HG0 ⊢;clear hw1;refine(HUN.out w1 HG0.out).mono ?_;rintro e w2 ⟨hun,B2⟩;have HB2:=Bt' HB0 B2;have HA2:Hid (w2.heap[w.heap.size]? = some (.cells (av z8).toArray 25 (0,0))):=(B2.block _ (by rw[HZ0.out];omega)).trans HA0.out;have HG2:=hid (HG0.out.below B2);have hun2:=HGP.out e hun;clear B2 hun HGP HUN HA0 HB0 HG0 HZ0;rcases hun2 with⟨hn,rfl⟩ | ⟨U,rfl,hpp,hUs⟩
 ·have HR:Hid (mL o (.returned (.tuple #[.agg (av z8).toArray,.int .i64 8]))):=by rw[hn];exact mL.no
  clear hn;go_wp2_with((refine wpList_store_row rfl 25 (.tmp 2) (.tmp 21) rfl w.heap.size (av z8).toArray rfl rfl 25 (av z8).toArray HA2.out (aW HXL.out) ((cq rfl).trans (cq HXL.out).symm) (ib z8) ?_));exact bodyPost_ret (dT results61 _ _ w.heap.size 25 (av z8).toArray (0,0) _ _ rfl (aA HA2.out) underlying25 (aW HXL.out)) rfl ⟨HR.out,ai HB2.out (le_refl _) _⟩
 ·have HPP:=hid hpp;have HCU:=hid (dp U (by omega) w2 HG2.out.2.2);have hzA:w.heap.size<w2.heap.size:=(Array.getElem?_eq_some_iff.1 HA2.out).1;clear hpp;go_wp2_with fail;refine HCU.out.mono ?_;rintro e w3 ⟨⟨f,b,sh,rfl,hfs,hbs,hcut⟩,B3⟩;have HB3:=Bt' HB2 B3;have HA3:Hid (w3.heap[w.heap.size]? = some (.cells (av z8).toArray 25 (0,0))):=(B3.block _ hzA).trans HA2.out;have HG3:=hid (HG2.out.below B3);have hzA3:w.heap.size<w3.heap.size:=Nat.lt_of_lt_of_le hzA B3.size;have HCT:=hid hcut;have HRF:=hid (zQ f (by omega) w3 HG3.out.2.1 HG3.out.2.2);clear B3 HB2 HA2 HG2 HCU hcut hzA;go_wp2_with fail;refine HRF.out.mono ?_;rintro e w4 ⟨hrf,B4⟩;have HB4:=Bt' HB3 B4;have HA4:Hid (w4.heap[w.heap.size]? = some (.cells (av z8).toArray 25 (0,0))):=(B4.block _ hzA3).trans HA3.out;have HG4:=hid (HG3.out.below B4);have hzA4:w.heap.size<w4.heap.size:=Nat.lt_of_lt_of_le hzA3 B4.size;clear B4 HB3 HA3 HG3 HRF hzA3
  obtain⟨X,m,okF,hX8,rfl,hmb,HXF⟩:∃(X:List Nat) (m:Nat) (k:Bool),X.length=8/\e=.returned (.tuple #[.agg (av X).toArray,.int .i64 (m:Int),.bool k])/\m<=8/\Hid ((k=true/\∃ F,rwd (bn f)=some F/\F.length=m/\X=F++z (8 - F.length))\/(k=false/\rwd (bn f)=none)):=by
   rcases hrf with⟨v,h1,h2,h3⟩ | ⟨h1,X,h2,h3⟩
   ·exact⟨_,v.length,true,by unfold z;simp;omega,h3,h2,.inl ⟨rfl,v,h1,rfl,rfl⟩⟩
   ·exact⟨X,0,false,h2,h3,by omega,.inr ⟨rfl,h1⟩⟩
  have HX8:=hid hX8;have HBX:=hid (Qy w4);obtain⟨hpk1,hpk2⟩:=eM w4 X;have HPK1:=hid hpk1;have HPK2:=hid hpk2;clear hrf hX8 hpk1 hpk2;go_wp2_with((refine wpList_store_row rfl 25 (.tmp 8) (.tmp 31) rfl w4.heap.size (av X).toArray rfl rfl 25 (av z8).toArray HBX.out (aW HX8.out) ((cq rfl).trans (cq HX8.out).symm) (ib X) ?_));obtain⟨w5,hw5⟩:=Ex' ((w4.alloc (.cells #[.int .u16 0,.int .u16 0,.int .u16 0,.int .u16 0,.int .u16 0,.int .u16 0,.int .u16 0,.int .u16 0] 25)).setRow w4.heap.size (av X).toArray);rw[hw5]at HPK1 HPK2 ⊢;obtain⟨g1,hg1⟩:=Ex' w4.heap.size;have HB5:=hid (HB4.out.trans (HPK2.out.mono HB4.out.size));have HA5:Hid (w5.heap[w.heap.size]? = some (.cells (av z8).toArray 25 (0,0))):=(HPK2.out.block _ hzA4).trans HA4.out;have HG5:=hid (HG4.out.below HPK2.out);rw[hg1]at HPK1 hzA4 ⊢;have hg5:g1<w5.heap.size:=(Array.getElem?_eq_some_iff.1 HPK1.out).1;have HRB:=hid (zQ b (by omega) w5 HG5.out.2.1 HG5.out.2.2);clear hw5 hg1 HPK2 HB4 HA4 HG4 HBX;refine HRB.out.mono ?_;rintro e w6 ⟨hrb,B6⟩;have HB6:=Bt' HB5 B6;have HA6:Hid (w6.heap[w.heap.size]? = some (.cells (av z8).toArray 25 (0,0))):=(B6.block _ (by omega)).trans HA5.out;have HP6:Hid (w6.heap[g1]? = some (.cells (av X).toArray 25 (0,0))):=(B6.block _ hg5).trans HPK1.out;have hg6:g1<w6.heap.size:=Nat.lt_of_lt_of_le hg5 B6.size;clear B6 HB5 HA5 HG5 HRB HPK1 hg5
  obtain⟨Y,q,okB,hY8,rfl,hqb,HYB⟩:∃(X:List Nat) (m:Nat) (k:Bool),X.length=8/\e=.returned (.tuple #[.agg (av X).toArray,.int .i64 (m:Int),.bool k])/\m<=8/\Hid ((k=true/\∃ F,rwd (bn b)=some F/\F.length=m/\X=F++z (8 - F.length))\/(k=false/\rwd (bn b)=none)):=by
   rcases hrb with⟨v,h1,h2,h3⟩ | ⟨h1,X,h2,h3⟩
   ·exact⟨_,v.length,true,by unfold z;simp;omega,h3,h2,.inl ⟨rfl,v,h1,rfl,rfl⟩⟩
   ·exact⟨X,0,false,h2,h3,by omega,.inr ⟨rfl,h1⟩⟩
  have HY8:=hid hY8;have HBX:=hid (Qy w6);obtain⟨hpk1,hpk2⟩:=eM w6 Y;have HPK1:=hid hpk1;have HPK2:=hid hpk2;have HB7:=hid (HB6.out.trans (HPK2.out.mono HB6.out.size));have HA7:Hid (((w6.alloc (.cells #[.int .u16 0,.int .u16 0,.int .u16 0,.int .u16 0,.int .u16 0,.int .u16 0,.int .u16 0,.int .u16 0] 25)).setRow w6.heap.size (av Y).toArray).heap[w.heap.size]? = some (.cells (av z8).toArray 25 (0,0))):=(HPK2.out.block _ (by omega)).trans HA6.out;have HP7:Hid (((w6.alloc (.cells #[.int .u16 0,.int .u16 0,.int .u16 0,.int .u16 0,.int .u16 0,.int .u16 0,.int .u16 0,.int .u16 0] 25)).setRow w6.heap.size (av Y).toArray).heap[g1]? = some (.cells (av X).toArray 25 (0,0))):=(HPK2.out.block _ hg6).trans HP6.out;obtain⟨w7,hw7⟩:=Ex' ((w6.alloc (.cells #[.int .u16 0,.int .u16 0,.int .u16 0,.int .u16 0,.int .u16 0,.int .u16 0,.int .u16 0,.int .u16 0] 25)).setRow w6.heap.size (av Y).toArray);rw[hw7]at HPK1 HB7 HA7 HP7;have HW7:=hid hw7;clear hrb hY8 hpk1 hpk2 hw7 HPK2 HA6 HP6 HB6;have hmq:(m:Int)+(q:Int)=((m+q:Nat):Int):=by omega
  by_cases hgood:okF=true/\okB=true/\(sh=decide (m+q<8))
  ·obtain⟨rfl,rfl,hsh⟩:=hgood
   obtain⟨F,hF,hFm,hXF⟩:∃ F,rwd (bn f)=some F/\F.length=m/\X=F++z (8 - F.length):=by
    rcases HXF.out with⟨_,h⟩ | ⟨h,_⟩
    ·exact h
    ·cases h
   obtain⟨B,hBb,hBq,hYB⟩:∃ F,rwd (bn b)=some F/\F.length=q/\Y=F++z (8 - F.length):=by
    rcases HYB.out with⟨_,h⟩ | ⟨h,_⟩
    ·exact h
    ·cases h
   obtain⟨hok,hores⟩:(F.length+B.length<=7\/(F.length=8/\B=[]))/\o=some (F++List.replicate (8 - B.length - F.length) 0++B):=by
    rcases HCT.out with⟨h0,h1,h2⟩ | ⟨h0,h1⟩
    ·rw[hBb]at h2;cases h2;rw[h0]at hsh;have h8:¬ m+q<8:=of_decide_eq_false hsh.symm;have hq0:q=0:=by rw[<-hBq];rfl
     have hF8:F.length=8:=by omega
     refine⟨.inr ⟨hF8,rfl⟩,?_⟩;rw[<-HPP.out,h1,hF];show(if F.length=8 then some F else none)=_;rw[if_pos hF8];simp[hF8]
    ·rw[h0]at hsh;have h8:m+q<8:=of_decide_eq_true hsh.symm;refine⟨.inl (by omega),?_⟩;rw[<-HPP.out,h1,hF,hBb];show(if F.length+B.length<=7 then _ else none)=_;rw[if_pos (by omega)]
   have HEN:=hid (yH F B hok);rw[<-hXF,<-hYB,hBq]at HEN
   have HR8:Hid ((F++List.replicate (8 - q - F.length) 0++B).length=8):=by
    show _=_;rcases hok with h | ⟨h,rfl⟩
    ·simp;omega
    ·simp[h] <;> omega
   rw[hBq]at hores;obtain⟨R,hR⟩:=Ex' (F++List.replicate (8 - q - F.length) 0++B);rw[hR]at HEN HR8 hores;have HRR:Hid (mL o (.returned (.tuple #[.agg (av R).toArray,.int .i64 0]))):=by rw[hores];exact mL.yes R
   clear hR hores hok hXF hYB hBq hFm hF hBb HXF HYB HCT HPP
   have h8:sh=true/\(m:Int)+(q:Int)<8\/sh=false/\¬ (m:Int)+(q:Int)<8:=by
    by_cases h:m+q<8
    ·exact .inl ⟨hsh.trans (decide_eq_true h),by omega⟩
    ·exact .inr ⟨hsh.trans (decide_eq_false h),by omega⟩
   clear hsh hmq;rcases h8 with⟨rfl,h8⟩ | ⟨rfl,h8⟩
   all_goals
    go_wp2_with(first
      | (refine wpList_store_row rfl 25 (.tmp 10) (.tmp 37) rfl w6.heap.size (av Y).toArray rfl rfl 25 (av z8).toArray HBX.out (aW HY8.out) ((cq rfl).trans (cq HY8.out).symm) (ib Y) ?_;rw[HW7.out])
      | (refine wpList_load_row rfl 25 (.tmp 8) rfl g1 rfl 25 (av X).toArray (0,0) _ HP7.out underlying25 rfl (aW HX8.out) ?_)
      | (refine wpList_load_row rfl 25 (.tmp 10) rfl w6.heap.size rfl 25 (av Y).toArray (0,0) _ HPK1.out underlying25 rfl (aW HY8.out) ?_))
    refine(HEN.out w7).mono ?_;rintro e w8 ⟨rfl,B8⟩;have HA8:Hid (w8.heap[w.heap.size]? = some (.cells (av z8).toArray 25 (0,0))):=(B8.block _ (Array.getElem?_eq_some_iff.1 HA7.out).1).trans HA7.out;have HB8:=Bt' HB7 B8;clear B8 HEN;go_wp2_with((refine wpList_store_row rfl 25 (.tmp 2) (.tmp 59) rfl w.heap.size (av R).toArray rfl rfl 25 (av z8).toArray HA8.out (aW HR8.out) ((cq rfl).trans (cq HR8.out).symm) (ib R) ?_));exact bodyPost_ret (dT results61 _ _ w.heap.size 25 (av R).toArray (0,0) _ _ rfl (aA HA8.out) underlying25 (aW HR8.out)) rfl ⟨HRR.out,ai HB8.out (le_refl _) _⟩
  ·have hnone:o=none:=by
    rw[<-HPP.out];rcases HXF.out with⟨rfl,F,hF,hFm,_⟩ | ⟨rfl,hF⟩
    ·rcases HYB.out with⟨rfl,B,hBb,hBq,_⟩ | ⟨rfl,hBb⟩
     ·rcases HCT.out with⟨rfl,h1,h2⟩ | ⟨rfl,h1⟩
      ·rw[hBb]at h2;cases h2;have hq0:q=0:=by rw[<-hBq];rfl
       rw[h1,hF];show(if F.length=8 then some F else none)=_;rw[if_neg];intro h;exact hgood ⟨rfl,rfl,(decide_eq_false (by omega)).symm⟩
      ·rw[h1,hF,hBb];show(if F.length+B.length<=7 then _ else none)=_;rw[if_neg];intro h;exact hgood ⟨rfl,rfl,(decide_eq_true (by omega)).symm⟩
     ·rcases HCT.out with⟨rfl,h1,h2⟩ | ⟨rfl,h1⟩
      ·rw[hBb]at h2;cases h2
      ·rw[h1,hBb,jl]
    ·rcases HCT.out with⟨rfl,h1,h2⟩ | ⟨rfl,h1⟩
     ·rw[h1,hF];rfl
     ·rw[h1,hF];cases rwd (bn b) <;> rfl
   have HR:Hid (mL o (.returned (.tuple #[.agg (av z8).toArray,.int .i64 8]))):=by rw[hnone];exact mL.no
   clear hnone HXF HYB HCT HPP hmq
   have hbad:okF=false\/okF=true/\okB=false\/okF=true/\okB=true/\sh=true/\decide ((m:Int)+(q:Int)<8)=false/\(8:Int)<=(m:Int)+(q:Int)\/okF=true/\okB=true/\sh=false/\decide ((m:Int)+(q:Int)<8)=true/\(m:Int)+(q:Int)<8:=by
    cases okF <;> cases okB <;> simp at hgood ⊢
    cases sh <;> simp at hgood ⊢ <;> omega
   clear hgood;rcases hbad with rfl | ⟨rfl,rfl⟩ | ⟨rfl,rfl,rfl,h10,h9⟩ | ⟨rfl,rfl,rfl,h10,h8⟩
   all_goals
    go_wp2_with(first
      | (refine wpList_store_row rfl 25 (.tmp 10) (.tmp 37) rfl w6.heap.size (av Y).toArray rfl rfl 25 (av z8).toArray HBX.out (aW HY8.out) ((cq rfl).trans (cq HY8.out).symm) (ib Y) ?_;rw[HW7.out])
      | (refine wpList_store_row rfl 25 (.tmp 2) (.tmp 55) rfl w.heap.size (av z8).toArray rfl rfl 25 (av z8).toArray HA7.out (aW HXL.out) ((cq rfl).trans (cq HXL.out).symm) (ib z8) ?_))
    exact bodyPost_ret (dT results61 _ _ w.heap.size 25 (av z8).toArray (0,0) _ _ rfl (aA HA7.out) underlying25 (aW HXL.out)) rfl ⟨HR.out,ai HB7.out (le_refl _) _⟩
end X
namespace H
open F (bn aa hid aw ay aC)
def bZ(h:Hst)(e:Ending):Prop:=∃ n:ByteArray,bn n=h.2.1/\e=.returned (.tuple #[hvl h.1 n h.2.2.1 h.2.2.2.1,.int .i64 h.2.2.2.2])
abbrev hcs(k:Int)(n:ByteArray)(f:Int)(a0 a1 a2 a3 a4 a5 a6 a7:Int):Array Value:=#[.int .u8 k,.string n,.int .u32 f,.int .u16 a0,.int .u16 a1,.int .u16 a2,.int .u16 a3,.int .u16 a4,.int .u16 a5,.int .u16 a6,.int .u16 a7]
theorem aD(k:Int)(n:ByteArray)(f a0 a1 a2 a3 a4 a5 a6 a7:Int):(prog.info? 27).map (·.size)=some (hcs k n f a0 a1 a2 a3 a4 a5 a6 a7).size:=by kernel_rfl
theorem bW(k:Int)(n:ByteArray)(f a0 a1 a2 a3 a4 a5 a6 a7:Int):(hcs k n f a0 a1 a2 a3 a4 a5 a6 a7).all (·.oneCell')=true:=by simp[hcs,Value.oneCell']
theorem ag{fn:Func}{p u:Tmp}{ty:TypeId}(h:fn.results=#[.cell p ty,.tmp u])(tmps:Array Value)(w:World)(g:Nat)(t:TypeId)(cs:Array Value)(fr:Nat×Nat)(fs:Array Field)
  (hp:tmps.getD p undef=.pointer (some ⟨g,0,none⟩)) (hg:w.heap[g]? = some (.cells cs t fr))
  (hu:prog.underlying ty=some (.struct fs)) (hi:(prog.info? ty).map (·.size)=some cs.size) :
  (results fn tmps).run prog w=.ok (.tuple #[.agg cs,tmps.getD u undef]) w:=by
 rw[results_cell_tmp h];have hp':tmps[p]?.getD undef=.pointer (some ⟨g,0,none⟩):=by simpa using hp
 simp[hp',asAddr,run_loadVar_row w g t ty cs fr (.struct fs) hg hu rfl hi]
theorem dJ(e:Int):bZ (non e) (.returned (.tuple #[hv 0 ⟨#[]⟩ 0 0 0 0 0 0 0 0 0,.int .i64 e])):=⟨⟨#[]⟩,rfl,rfl⟩
theorem eT(w:World):Below w.heap.size w (w.alloc (.cells (hcs 0 ⟨#[]⟩ 0 0 0 0 0 0 0 0 0) 27))/\(w.alloc (.cells (hcs 0 ⟨#[]⟩ 0 0 0 0 0 0 0 0 0) 27)).heap[w.heap.size]? = some (.cells (hcs 0 ⟨#[]⟩ 0 0 0 0 0 0 0 0 0) 27 (0,0))/\(w.alloc (.cells (hcs 0 ⟨#[]⟩ 0 0 0 0 0 0 0 0 0) 27)).heap.size=w.heap.size+1 :=
 ⟨(Below.refl _ w).alloc (le_refl _) _,X.ck w _ _,by simp⟩
theorem BE(s:ByteArray)(hs:s.size<=400000000)(w:World)(hM:F.Max w):Calls prog 119 #[.string s] w fun e W'=>bZ (if (F.prs (bn s)).2=0 then (2,[],(F.prs (bn s)).1,z8,0) else non 70) e/\Below w.heap.size w W':=by
 obtain⟨nb,na,nz⟩:=eT w;have HB0:=hid nb;have HA0:=hid na;have HZ0:=hid nz;clear nb na nz;have HP:=hid (fun W h=>F.lM s W hs h);have HM:=hid (hM.below HB0.out);clear hM;unfold F.qw at HP;obtain⟨⟨a,er⟩,hp⟩:∃ p,F.prs (bn s)=p:=⟨_,rfl⟩;rw[hp]at HP ⊢;simp only at HP ⊢;obtain⟨H,hH⟩:=Ex' ((if er=0 then (2,[],a,z8,0) else non 70):Hst);have HH:=hid hH;rw[hH];clear hp hH;go_enter func119,ntmps119;go_wp2_with fail;obtain⟨w1,hw1⟩:=Ex' (w.alloc (.cells (hcs 0 ⟨#[]⟩ 0 0 0 0 0 0 0 0 0) 27));unfold hcs at hw1 HB0 HA0 HZ0 HM;rw[hw1]at HB0 HA0 HZ0 HM ⊢;clear hw1;refine(HP.out w1 HM.out).mono ?_;rintro e w2 ⟨rfl,B⟩;have HB2:=Bt' HB0 B;have HA2:Hid (w2.heap[w.heap.size]? = some (.cells (hcs 0 ⟨#[]⟩ 0 0 0 0 0 0 0 0 0) 27 (0,0))):=(B.block _ (Array.getElem?_eq_some_iff.1 HA0.out).1).trans HA0.out;clear B HB0 HA0;by_cases he:er=0
 ·have HR:Hid (bZ H (.returned (.tuple #[hv 2 ⟨#[]⟩ (a:Nat) 0 0 0 0 0 0 0 0,.int .i64 0]))):=by show bZ _ _;rw[<-HH.out,if_pos he];exact⟨⟨#[]⟩,rfl,rfl⟩
  have hen:(er != 0)=false:=by rw[he];rfl
  clear he;go_wp2_with(refine wpList_store_row rfl 27 (.tmp 2) (.tmp 15) rfl w.heap.size (hcs 2 ⟨#[]⟩ (a:Nat) 0 0 0 0 0 0 0 0) rfl rfl 27 (hcs 0 ⟨#[]⟩ 0 0 0 0 0 0 0 0 0) HA2.out (aD ..) rfl (bW ..) ?_);exact bodyPost_ret (ag results119 _ _ w.heap.size 27 (hcs 2 ⟨#[]⟩ (a:Nat) 0 0 0 0 0 0 0 0) (0,0) _ rfl (X.aA HA2.out) underlying27 (aD ..)) rfl ⟨HR.out,X.ai HB2.out (le_refl _) _⟩
 ·have HR:Hid (bZ H (.returned (.tuple #[hv 0 ⟨#[]⟩ 0 0 0 0 0 0 0 0 0,.int .i64 70]))):=by show bZ _ _;rw[<-HH.out,if_neg he];exact dJ 70
  have hen:(er != 0)=true:=by simpa using he
  clear he;go_wp2_with(refine wpList_store_row rfl 27 (.tmp 2) (.tmp 13) rfl w.heap.size (hcs 0 ⟨#[]⟩ 0 0 0 0 0 0 0 0 0) rfl rfl 27 (hcs 0 ⟨#[]⟩ 0 0 0 0 0 0 0 0 0) HA2.out (aD ..) rfl (bW ..) ?_);exact bodyPost_ret (ag results119 _ _ w.heap.size 27 (hcs 0 ⟨#[]⟩ 0 0 0 0 0 0 0 0 0) (0,0) _ rfl (X.aA HA2.out) underlying27 (aD ..)) rfl ⟨HR.out,X.ai HB2.out (le_refl _) _⟩
theorem BP(s:ByteArray)(hs:s.size<=400000000)(hl:∀ c∈bn s,0<=c/\c<128)(w:World)(hM:F.Max w):Calls prog 64 #[.string s] w fun e W'=>bZ (dom (bn s) 0) e/\Below w.heap.size w W':=by
 obtain⟨nb,na,nz⟩:=eT w;have HB0:=hid nb;have HA0:=hid na;have HZ0:=hid nz;clear nb na nz;have HCF:=hid (fun W=>dA s hs hl W);have HEN:=hid (fun W=>F.Iy s W hs);have HPF:=hid (fun W h=>BE s hs W h);have HM:=hid (hM.below HB0.out);clear hM hl;by_cases h0:s.size=0
 ·have hnil:bn s=[]:=List.length_eq_zero_iff.1 (by rw[aa];exact h0);have HR:Hid (bZ (dom (bn s) 0) (.returned (.tuple #[hv 0 ⟨#[]⟩ 0 0 0 0 0 0 0 0 0,.int .i64 70]))):=by show bZ _ _;rw[hnil];exact dJ 70
  have hem:=aC s h0;clear hnil h0 HCF HEN HPF HM;go_enter func64,ntmps64;go_wp2_with(refine wpList_store_row rfl 27 (.tmp 2) (.tmp 11) rfl w.heap.size (hcs 0 ⟨#[]⟩ 0 0 0 0 0 0 0 0 0) rfl rfl 27 (hcs 0 ⟨#[]⟩ 0 0 0 0 0 0 0 0 0) HA0.out (aD ..) rfl (bW ..) ?_);exact bodyPost_ret (ag results64 _ _ w.heap.size 27 (hcs 0 ⟨#[]⟩ 0 0 0 0 0 0 0 0 0) (0,0) _ rfl (X.aA HA0.out) underlying27 (aD ..)) rfl ⟨HR.out,X.ai HB0.out (le_refl _) _⟩
 ·have hem:=ay s (by omega);have hne:bn s≠[]:=fun e=>h0 (by rw[<-aa,e];rfl)
  have HD:dom (bn s) 0=if (bn s).any fd=true then non 70 else if F.ends (bn s)=true then (if (F.prs (bn s)).2=0 then (2,[],(F.prs (bn s)).1,z8,0) else non 70) else (1,bn s,0,z8,0):=by
   unfold dom;by_cases h:(bn s).any fd=true
   ·rw[if_pos (.inr (.inr h)),if_pos h]
   ·rw[if_neg (fun h1=>h1.elim (fun q=>q rfl) (fun q=>q.elim hne h)),if_neg h]
  have HN1:Hid (bZ (1,bn s,0,z8,0) (.returned (.tuple #[hv 1 s 0 0 0 0 0 0 0 0 0,.int .i64 0]))):=⟨s,rfl,rfl⟩;rw[HD];clear HD hne h0;obtain⟨L,hL⟩:=Ex' (bn s);rw[hL]at HCF HEN HPF HN1 ⊢;clear hL;obtain⟨b1,e1⟩:=Ex' (L.any fd);rw[e1]at HCF ⊢;obtain⟨b2,e2⟩:=Ex' (F.ends L);rw[e2]at HEN ⊢;obtain⟨H,hH⟩:=Ex' ((if b1=true then non 70 else if b2=true then (if (F.prs L).2=0 then (2,[],(F.prs L).1,z8,0) else non 70) else (1,L,0,z8,0)):Hst);have HH:=hid hH;rw[hH];clear e1 e2 hH;go_enter func64,ntmps64;go_wp2_with fail;obtain⟨w1,hw1⟩:=Ex' (w.alloc (.cells (hcs 0 ⟨#[]⟩ 0 0 0 0 0 0 0 0 0) 27));unfold hcs at hw1 HB0 HA0 HZ0 HM;rw[hw1]at HB0 HA0 HZ0 HM ⊢;clear hw1;refine(HCF.out w1).mono ?_;rintro e w2 ⟨rfl,B⟩;replace HM:=hid (HM.out.below B);have HB2:=Bt' HB0 B;have HA2:Hid (w2.heap[w.heap.size]? = some (.cells (hcs 0 ⟨#[]⟩ 0 0 0 0 0 0 0 0 0) 27 (0,0))):=(B.block _ (Array.getElem?_eq_some_iff.1 HA0.out).1).trans HA0.out;clear B HB0 HA0;cases b1 with
  | true =>
   have HR:Hid (bZ H (.returned (.tuple #[hv 0 ⟨#[]⟩ 0 0 0 0 0 0 0 0 0,.int .i64 70]))):=by show bZ _ _;rw[<-HH.out,if_pos rfl];exact dJ 70
   go_wp2_with(refine wpList_store_row rfl 27 (.tmp 2) (.tmp 11) rfl w.heap.size (hcs 0 ⟨#[]⟩ 0 0 0 0 0 0 0 0 0) rfl rfl 27 (hcs 0 ⟨#[]⟩ 0 0 0 0 0 0 0 0 0) HA2.out (aD ..) rfl (bW ..) ?_);exact bodyPost_ret (ag results64 _ _ w.heap.size 27 (hcs 0 ⟨#[]⟩ 0 0 0 0 0 0 0 0 0) (0,0) _ rfl (X.aA HA2.out) underlying27 (aD ..)) rfl ⟨HR.out,X.ai HB2.out (le_refl _) _⟩
  | false =>
   go_wp2_with fail;refine(HEN.out w2).mono ?_;rintro e w3 ⟨rfl,B⟩;replace HM:=hid (HM.out.below B);have HB3:=Bt' HB2 B;have HA3:Hid (w3.heap[w.heap.size]? = some (.cells (hcs 0 ⟨#[]⟩ 0 0 0 0 0 0 0 0 0) 27 (0,0))):=(B.block _ (Array.getElem?_eq_some_iff.1 HA2.out).1).trans HA2.out;clear B HB2 HA2 HCF HEN;cases b2 with
   | false =>
    have HR:Hid (bZ H (.returned (.tuple #[hv 1 s 0 0 0 0 0 0 0 0 0,.int .i64 0]))):=by show bZ _ _;rw[<-HH.out,if_neg Bool.false_ne_true,if_neg Bool.false_ne_true];exact HN1.out
    go_wp2_with(refine wpList_store_row rfl 27 (.tmp 2) (.tmp 20) rfl w.heap.size (hcs 1 s 0 0 0 0 0 0 0 0 0) rfl rfl 27 (hcs 0 ⟨#[]⟩ 0 0 0 0 0 0 0 0 0) HA3.out (aD ..) rfl (bW ..) ?_);exact bodyPost_ret (ag results64 _ _ w.heap.size 27 (hcs 1 s 0 0 0 0 0 0 0 0 0) (0,0) _ rfl (X.aA HA3.out) underlying27 (aD ..)) rfl ⟨HR.out,X.ai HB3.out (le_refl _) _⟩
   | true =>
    have hH:=HH.out;rw[if_neg Bool.false_ne_true,if_pos rfl]at hH;rw[hH]at HPF;clear HN1 hH HH;go_wp2_with fail;refine(HPF.out w3 HM.out).mono ?_;rintro e w4 ⟨⟨n,hn,rfl⟩,B⟩;have HR:Hid (bZ H (.returned (.tuple #[hvl H.1 n H.2.2.1 H.2.2.2.1,.int .i64 H.2.2.2.2]))):=⟨n,hn,rfl⟩;clear hn;obtain⟨k,nm,f,a,er⟩:=H;obtain⟨a0,a1,a2,a3,a4,a5,a6,a7,ha⟩:∃ a0 a1 a2 a3 a4 a5 a6 a7:Int,hvl k n f a=hv (k:Nat) n (f:Nat) a0 a1 a2 a3 a4 a5 a6 a7:=⟨_,_,_,_,_,_,_,_,rfl⟩;simp only at HR ⊢;rw[ha]at HR ⊢;clear ha;have HB4:=Bt' HB3 B;have HA4:Hid (w4.heap[w.heap.size]? = some (.cells (hcs 0 ⟨#[]⟩ 0 0 0 0 0 0 0 0 0) 27 (0,0))):=(B.block _ (Array.getElem?_eq_some_iff.1 HA3.out).1).trans HA3.out;clear B HB3 HA3 HPF HM;go_wp2_with(refine wpList_store_row rfl 27 (.tmp 2) (.tmp 17) rfl w.heap.size (hcs (k:Nat) n (f:Nat) a0 a1 a2 a3 a4 a5 a6 a7) rfl rfl 27 (hcs 0 ⟨#[]⟩ 0 0 0 0 0 0 0 0 0) HA4.out (aD ..) rfl (bW ..) ?_);exact bodyPost_ret (ag results64 _ _ w.heap.size 27 (hcs (k:Nat) n (f:Nat) a0 a1 a2 a3 a4 a5 a6 a7) (0,0) _ rfl (X.aA HA4.out) underlying27 (aD ..)) rfl ⟨HR.out,X.ai HB4.out (le_refl _) _⟩
theorem FI(s:ByteArray)(hs:s.size<=4096)(w:World):Calls prog 34 #[.string s] w fun e W'=>bZ (opq (bn s)) e/\Below w.heap.size w W':=by
 obtain⟨nb,na,nz⟩:=eT w;have HB0:=hid nb;have HA0:=hid na;have HZ0:=hid nz;clear nb na nz;have HCA:=hid (fun W=>mI s (by omega) W);have HEN:=hid (fun W=>E.bM s 0 W (by omega) (by decide))
 have HO:Hid (opq (bn s)=if (bn s).any fb=true then non 70 else if s.size=0 then non 0 else (4,E.en 0 (U.dec (bn s)),0,z8,0)):=by
  show opq (bn s)=_;unfold opq;by_cases h:(bn s).any fb=true
  ·rw[if_pos h,if_pos h]
  ·rw[if_neg h,if_neg h];by_cases h0:s.size=0
   ·rw[if_pos h0,if_pos (List.length_eq_zero_iff.1 (by rw[aa];exact h0))]
   ·rw[if_neg h0,if_neg (fun e=>h0 (by rw[<-aa,e];rfl))]
 rw[HO.out];clear HO;obtain⟨b1,e1⟩:=Ex' ((bn s).any fb);rw[e1]at HCA ⊢;obtain⟨H,hH⟩:=Ex' ((if b1=true then non 70 else if s.size=0 then non 0 else (4,E.en 0 (U.dec (bn s)),0,z8,0)):Hst);have HH:=hid hH;rw[hH];clear e1 hH;go_enter func34,ntmps34;go_wp2_with fail;obtain⟨w1,hw1⟩:=Ex' (w.alloc (.cells (hcs 0 ⟨#[]⟩ 0 0 0 0 0 0 0 0 0) 27));unfold hcs at hw1 HB0 HA0 HZ0;rw[hw1]at HB0 HA0 HZ0 ⊢;clear hw1;refine(HCA.out w1).mono ?_;rintro e w2 ⟨rfl,B⟩;have HB2:=Bt' HB0 B;have HA2:Hid (w2.heap[w.heap.size]? = some (.cells (hcs 0 ⟨#[]⟩ 0 0 0 0 0 0 0 0 0) 27 (0,0))):=(B.block _ (Array.getElem?_eq_some_iff.1 HA0.out).1).trans HA0.out;clear B HB0 HA0 HCA;cases b1 with
 | true =>
  have HR:Hid (bZ H (.returned (.tuple #[hv 0 ⟨#[]⟩ 0 0 0 0 0 0 0 0 0,.int .i64 70]))):=by show bZ _ _;rw[<-HH.out,if_pos rfl];exact dJ 70
  go_wp2_with(refine wpList_store_row rfl 27 (.tmp 2) (.tmp 7) rfl w.heap.size (hcs 0 ⟨#[]⟩ 0 0 0 0 0 0 0 0 0) rfl rfl 27 (hcs 0 ⟨#[]⟩ 0 0 0 0 0 0 0 0 0) HA2.out (aD ..) rfl (bW ..) ?_);exact bodyPost_ret (ag results34 _ _ w.heap.size 27 (hcs 0 ⟨#[]⟩ 0 0 0 0 0 0 0 0 0) (0,0) _ rfl (X.aA HA2.out) underlying27 (aD ..)) rfl ⟨HR.out,X.ai HB2.out (le_refl _) _⟩
 | false =>
  by_cases h0:s.size=0
  ·have HR:Hid (bZ H (.returned (.tuple #[hv 0 ⟨#[]⟩ 0 0 0 0 0 0 0 0 0,.int .i64 0]))):=by show bZ _ _;rw[<-HH.out,if_neg Bool.false_ne_true,if_pos h0];exact dJ 0
   have hem:=aC s h0;clear h0;go_wp2_with(refine wpList_store_row rfl 27 (.tmp 2) (.tmp 11) rfl w.heap.size (hcs 0 ⟨#[]⟩ 0 0 0 0 0 0 0 0 0) rfl rfl 27 (hcs 0 ⟨#[]⟩ 0 0 0 0 0 0 0 0 0) HA2.out (aD ..) rfl (bW ..) ?_);exact bodyPost_ret (ag results34 _ _ w.heap.size 27 (hcs 0 ⟨#[]⟩ 0 0 0 0 0 0 0 0 0) (0,0) _ rfl (X.aA HA2.out) underlying27 (aD ..)) rfl ⟨HR.out,X.ai HB2.out (le_refl _) _⟩
  ·have hem:=ay s (by omega);have hH:=HH.out;rw[if_neg Bool.false_ne_true,if_neg h0]at hH;have HH4:=hid hH;clear h0 hH HH;go_wp2_with fail;refine(HEN.out w2).mono ?_;rintro e w3 ⟨⟨t,rfl,ht⟩,B⟩;have HR:Hid (bZ H (.returned (.tuple #[hv 4 t 0 0 0 0 0 0 0 0 0,.int .i64 0]))):=by show bZ _ _;rw[<-HH4.out];exact⟨t,ht,rfl⟩
   clear ht HH4;have HB3:=Bt' HB2 B;have HA3:Hid (w3.heap[w.heap.size]? = some (.cells (hcs 0 ⟨#[]⟩ 0 0 0 0 0 0 0 0 0) 27 (0,0))):=(B.block _ (Array.getElem?_eq_some_iff.1 HA2.out).1).trans HA2.out;clear B HB2 HA2 HEN;go_wp2_with(refine wpList_store_row rfl 27 (.tmp 2) (.tmp 14) rfl w.heap.size (hcs 4 t 0 0 0 0 0 0 0 0 0) rfl rfl 27 (hcs 0 ⟨#[]⟩ 0 0 0 0 0 0 0 0 0) HA3.out (aD ..) rfl (bW ..) ?_);exact bodyPost_ret (ag results34 _ _ w.heap.size 27 (hcs 4 t 0 0 0 0 0 0 0 0 0) (0,0) _ rfl (X.aA HA3.out) underlying27 (aD ..)) rfl ⟨HR.out,X.ai HB3.out (le_refl _) _⟩
theorem BC(s:ByteArray)(hs:s.size<=4096)(w:World)(hM:F.Max w):Calls prog 33 #[.string s] w fun e W'=>(∃ d r,IA (E.de (bn s)) d r/\bZ (dom d r) e)/\Below w.heap.size w W':=by
 obtain⟨nb,na,nz⟩:=eT w;have HB0:=hid nb;have HA0:=hid na;have HZ0:=hid nz;clear nb na nz;have HDE:=hid (fun W=>E.iA s W (by omega));have HAS:Hid (∀(t:ByteArray),bn t=E.de (bn s)->∀ W,Calls prog 62 #[.string t,.bool false,.bool false] W fun e W'=>(∃(T:ByteArray) (r:Int),e=.returned (.tuple #[.string T,.int .i64 r])/\IA (E.de (bn s)) (bn T) r/\(r=0->T.size<=400000000/\∀ c∈bn T,0<=c/\c<128))/\Below W.heap.size W W'):=fun t ht W=>by have hl:=E.tC (bn s).length (bn s) (le_refl _);rw[<-ht,aa,aa]at hl;refine(I.ze t false false W (by omega)).mono ?_;rintro e W' ⟨⟨T,r,rfl,h⟩,B⟩;have hia:IA (E.de (bn s)) (bn T) r:=⟨T,rfl,by rw[<-ht];exact h⟩;refine⟨⟨T,r,rfl,hia,fun h0=>?_⟩,B⟩;rw[h0]at hia;have hz:=asc.len hia (by rw[<-ht];exact U.aL t) (by rw[<-ht,aa];omega);rw[aa]at hz;exact⟨by omega,asc.low hia⟩
 have HNA:=hid BP;have HM:=hid (hM.below HB0.out);clear hM;go_enter func33,ntmps33;go_wp2_with fail;obtain⟨w1,hw1⟩:=Ex' (w.alloc (.cells (hcs 0 ⟨#[]⟩ 0 0 0 0 0 0 0 0 0) 27));unfold hcs at hw1 HB0 HA0 HZ0 HM;rw[hw1]at HB0 HA0 HZ0 HM ⊢;clear hw1;refine(HDE.out w1).mono ?_;rintro e w2 ⟨⟨t,rfl,ht⟩,B⟩;replace HM:=hid (HM.out.below B);have HAT:=hid (HAS.out t ht);clear ht;have HB2:=Bt' HB0 B;have HA2:Hid (w2.heap[w.heap.size]? = some (.cells (hcs 0 ⟨#[]⟩ 0 0 0 0 0 0 0 0 0) 27 (0,0))):=(B.block _ (Array.getElem?_eq_some_iff.1 HA0.out).1).trans HA0.out;clear B HB0 HA0 HDE HAS;go_wp2_with fail;refine(HAT.out w2).mono ?_;rintro e w3 ⟨⟨T,r,rfl,hia,hok⟩,B⟩;replace HM:=hid (HM.out.below B);have HI:=hid hia;have HK:=hid hok;clear hia hok;have HB3:=Bt' HB2 B;have HA3:Hid (w3.heap[w.heap.size]? = some (.cells (hcs 0 ⟨#[]⟩ 0 0 0 0 0 0 0 0 0) 27 (0,0))):=(B.block _ (Array.getElem?_eq_some_iff.1 HA2.out).1).trans HA2.out;clear B HB2 HA2 HAT;by_cases hr:r=0
 ·obtain⟨hz,hlo⟩:=HK.out hr;have hrn:(r != 0)=false:=by rw[hr];rfl
  have HC:=hid (HNA.out T hz hlo w3 HM.out);subst hr;clear hlo HK HNA HM;go_wp2_with fail;refine HC.out.mono ?_;rintro e w4 ⟨⟨n,hn,rfl⟩,B⟩;generalize hH:dom (bn T) 0=H at *;have HR0:Hid (∃ d r,IA (E.de (bn s)) d r/\bZ (dom d r) (.returned (.tuple #[hvl H.1 n H.2.2.1 H.2.2.2.1,.int .i64 H.2.2.2.2]))):=⟨_,_,HI.out,by rw[hH];exact⟨n,hn,rfl⟩⟩;obtain⟨k,nm,f,a,er⟩:=H;obtain⟨a0,a1,a2,a3,a4,a5,a6,a7,ha⟩:∃ a0 a1 a2 a3 a4 a5 a6 a7:Int,hvl k n f a=hv (k:Nat) n (f:Nat) a0 a1 a2 a3 a4 a5 a6 a7:=⟨_,_,_,_,_,_,_,_,rfl⟩;simp only at HR0 ⊢;rw[ha]at HR0 ⊢;clear ha hn hH HI;have HR:=HR0;clear HR0;have HB4:=Bt' HB3 B;have HA4:Hid (w4.heap[w.heap.size]? = some (.cells (hcs 0 ⟨#[]⟩ 0 0 0 0 0 0 0 0 0) 27 (0,0))):=(B.block _ (Array.getElem?_eq_some_iff.1 HA3.out).1).trans HA3.out;clear B HB3 HA3 HC;go_wp2_with(refine wpList_store_row rfl 27 (.tmp 2) (.tmp 17) rfl w.heap.size (hcs (k:Nat) n (f:Nat) a0 a1 a2 a3 a4 a5 a6 a7) rfl rfl 27 (hcs 0 ⟨#[]⟩ 0 0 0 0 0 0 0 0 0) HA4.out (aD ..) rfl (bW ..) ?_);exact bodyPost_ret (ag results33 _ _ w.heap.size 27 (hcs (k:Nat) n (f:Nat) a0 a1 a2 a3 a4 a5 a6 a7) (0,0) _ rfl (X.aA HA4.out) underlying27 (aD ..)) rfl ⟨HR.out,X.ai HB4.out (le_refl _) _⟩
 ·have HR:Hid (∃ d r,IA (E.de (bn s)) d r/\bZ (dom d r) (.returned (.tuple #[hv 0 ⟨#[]⟩ 0 0 0 0 0 0 0 0 0,.int .i64 70]))):=⟨_,_,HI.out,by
    unfold dom
    rw[if_pos (.inl hr)];exact dJ 70⟩
  have hrn:(r != 0)=true:=by simpa using hr
  clear hr HK HI HNA HM;go_wp2_with(refine wpList_store_row rfl 27 (.tmp 2) (.tmp 14) rfl w.heap.size (hcs 0 ⟨#[]⟩ 0 0 0 0 0 0 0 0 0) rfl rfl 27 (hcs 0 ⟨#[]⟩ 0 0 0 0 0 0 0 0 0) HA3.out (aD ..) rfl (bW ..) ?_);exact bodyPost_ret (ag results33 _ _ w.heap.size 27 (hcs 0 ⟨#[]⟩ 0 0 0 0 0 0 0 0 0) (0,0) _ rfl (X.aA HA3.out) underlying27 (aD ..)) rfl ⟨HR.out,X.ai HB3.out (le_refl _) _⟩
def sxt(l:List Int):Hst:=if l.getLast? = some 93 then (match X.prs l.dropLast with | some a=>(3,[],0,a,0) | none=>non 70) else non 70
theorem Kw{s:List Int}(h:s.head? = some 91):six s=sxt (s.drop 1):=by
 cases s with
 | nil=>cases h
 | cons c l =>
  unfold six sxt;show(if 2<=(c::l).length/\(c::l).getLast? = some 93 then _ else _)=_;cases l with
  | nil=>rfl
  | cons d m =>
   have e1:(2<=(c::d::m).length/\(c::d::m).getLast? = some 93)↔(d::m).getLast? = some 93:=by rw[List.getLast?_cons_cons];exact⟨fun h=>h.2,fun h=>⟨by simp,h⟩⟩
   simp only[e1,List.drop_succ_cons,drop_zero];rfl
theorem tO(s:ByteArray)(n:Nat)(h:s.size=n+1):bn (s.extract 0 n)=(bn s).dropLast:=by
 unfold bn;rw[<-List.map_dropLast,List.dropLast_eq_take];have hl:s.data.toList.length=n+1:=by rw[<-Lib.size_eq];exact h
 rw[hl];simp[data_extract]
theorem Fm(s:ByteArray)(hs:s.size<=100000)(w:World)(hG:X.GX w):Calls prog 32 #[.string s] w fun e W'=>bZ (sxt (bn s)) e/\Below w.heap.size w W':=by
 obtain⟨nb,na,nz⟩:=eT w;have HB0:=hid nb;have HA0:=hid na;have HZ0:=hid nz;clear nb na nz;have HCS:=hid (fun W=>IU s hs W);have HG:=hid (hG.below HB0.out);clear hG
 have HPX:Hid (∀(b:Bool) (t:ByteArray),JP s (.returned (.tuple #[.string t,.bool b]))->t.size<=100000/\(b=true->sxt (bn s)=(match X.prs (bn t) with | some a=>(3,[],0,a,0) | none=>non 70))/\(b=false->sxt (bn s)=non 70)):=fun b t h=>by
  rcases h with⟨h,e⟩ | ⟨h,e⟩
  ·cases e
   have hsz:1<=s.size:=by
    rw[<-aa];cases hb:bn s with
    | nil=>rw[hb]at h;cases h
    | cons _ _=>simp
   refine⟨by simp;omega,fun _=>?_,(fun h=>by cases h)⟩;unfold sxt;rw[if_pos h,tO s (s.size - 1) (by omega)]
  ·cases e;refine⟨hs,(fun h=>by cases h),fun _=>?_⟩;unfold sxt;rw[if_neg h]
 go_enter func32,ntmps32;go_wp2_with fail;obtain⟨w1,hw1⟩:=Ex' (w.alloc (.cells (hcs 0 ⟨#[]⟩ 0 0 0 0 0 0 0 0 0) 27));unfold hcs at hw1 HB0 HA0 HZ0 HG;rw[hw1]at HB0 HA0 HZ0 HG ⊢;clear hw1;refine(HCS.out w1).mono ?_;rintro e w2 ⟨hcs2,hw2⟩;obtain⟨t,b,rfl⟩:∃(t:ByteArray) (b:Bool),e=.returned (.tuple #[.string t,.bool b]):=by rcases hcs2 with⟨_,rfl⟩ | ⟨_,rfl⟩ <;> exact⟨_,_,rfl⟩
 obtain⟨ht,hp1,hp2⟩:=HPX.out b t hcs2;have HP1:=hid hp1;have HP2:=hid hp2;obtain rfl:=hw2.symm;have HSX:=hid (X.lM t ht w1 HG.out);clear hcs2 hp1 hp2 HPX HCS HG;go_wp2_with fail;refine HSX.out.mono ?_;rintro e w3 ⟨hp,B⟩;obtain⟨o,ho⟩:=Ex' (X.prs (bn t));have hl8:∀ a,o=some a->a.length=8:=fun a h=>X.mR (ho.trans h);rw[ho]at hp HP1;unfold X.mL at hp;subst hp
 obtain⟨x0,x1,x2,x3,x4,x5,x6,x7,hx⟩:∃ x0 x1 x2 x3 x4 x5 x6 x7,o.getD X.z8=[x0,x1,x2,x3,x4,x5,x6,x7]:=by
  cases o with
  | none=>exact⟨0,0,0,0,0,0,0,0,rfl⟩
  | some a=>exact X.BV (hl8 a rfl)
 have hxa:(X.av (o.getD X.z8)).toArray=#[.int .u16 (x0:Nat),.int .u16 (x1:Nat),.int .u16 (x2:Nat),.int .u16 (x3:Nat),.int .u16 (x4:Nat),.int .u16 (x5:Nat),.int .u16 (x6:Nat),.int .u16 (x7:Nat)]:=by rw[hx];rfl
 rw[hxa];clear ho hxa hl8;have HB3:=Bt' HB0 B;have HA3:Hid (w3.heap[w.heap.size]? = some (.cells (hcs 0 ⟨#[]⟩ 0 0 0 0 0 0 0 0 0) 27 (0,0))):=(B.block _ (Array.getElem?_eq_some_iff.1 HA0.out).1).trans HA0.out;clear B HB0 HA0;have A6:=hid (heap_alloc_new w3 (.cells #[.int .u16 (x0:Nat),.int .u16 (x1:Nat),.int .u16 (x2:Nat),.int .u16 (x3:Nat),.int .u16 (x4:Nat),.int .u16 (x5:Nat),.int .u16 (x6:Nat),.int .u16 (x7:Nat)] 25));have HB4:=hid (HB3.out.alloc HB3.out.size (.cells #[.int .u16 (x0:Nat),.int .u16 (x1:Nat),.int .u16 (x2:Nat),.int .u16 (x3:Nat),.int .u16 (x4:Nat),.int .u16 (x5:Nat),.int .u16 (x6:Nat),.int .u16 (x7:Nat)] 25));have HA4:Hid ((w3.alloc (.cells #[.int .u16 (x0:Nat),.int .u16 (x1:Nat),.int .u16 (x2:Nat),.int .u16 (x3:Nat),.int .u16 (x4:Nat),.int .u16 (x5:Nat),.int .u16 (x6:Nat),.int .u16 (x7:Nat)] 25)).heap[w.heap.size]? = some (.cells (hcs 0 ⟨#[]⟩ 0 0 0 0 0 0 0 0 0) 27 (0,0))):=oT HA3.out _;by_cases hb:b=true/\X.err o=0
 ·obtain⟨rfl,he⟩:=hb
  obtain⟨a,rfl⟩:∃ a,o=some a:=by
   cases o with
   | none=>exact absurd he (by decide)
   | some a=>exact⟨a,rfl⟩
  have hax:a=[x0,x1,x2,x3,x4,x5,x6,x7]:=hx;have HR:Hid (bZ (sxt (bn s)) (.returned (.tuple #[hv 3 ⟨#[]⟩ 0 (x0:Nat) (x1:Nat) (x2:Nat) (x3:Nat) (x4:Nat) (x5:Nat) (x6:Nat) (x7:Nat),.int .i64 0]))):=by show bZ _ _;rw[HP1.out rfl,hax];exact⟨⟨#[]⟩,rfl,rfl⟩
  clear he hx hax HP1 HP2 HSX;have F0:World.cell? _ ⟨w3.heap.size,0,none⟩=some (.int .u16 (x0:Nat)):=cell_of_row _ _ 0 _ _ _ A6.out;have F1:World.cell? _ ⟨w3.heap.size,1,none⟩=some (.int .u16 (x1:Nat)):=cell_of_row _ _ 1 _ _ _ A6.out;have F2:World.cell? _ ⟨w3.heap.size,2,none⟩=some (.int .u16 (x2:Nat)):=cell_of_row _ _ 2 _ _ _ A6.out;have F3:World.cell? _ ⟨w3.heap.size,3,none⟩=some (.int .u16 (x3:Nat)):=cell_of_row _ _ 3 _ _ _ A6.out;have F4:World.cell? _ ⟨w3.heap.size,4,none⟩=some (.int .u16 (x4:Nat)):=cell_of_row _ _ 4 _ _ _ A6.out;have F5:World.cell? _ ⟨w3.heap.size,5,none⟩=some (.int .u16 (x5:Nat)):=cell_of_row _ _ 5 _ _ _ A6.out;have F6:World.cell? _ ⟨w3.heap.size,6,none⟩=some (.int .u16 (x6:Nat)):=cell_of_row _ _ 6 _ _ _ A6.out;have F7:World.cell? _ ⟨w3.heap.size,7,none⟩=some (.int .u16 (x7:Nat)):=cell_of_row _ _ 7 _ _ _ A6.out;go_wp2_with(refine wpList_store_row rfl 27 (.tmp 2) (.tmp 26) rfl w.heap.size (hcs 3 ⟨#[]⟩ 0 (x0:Nat) (x1:Nat) (x2:Nat) (x3:Nat) (x4:Nat) (x5:Nat) (x6:Nat) (x7:Nat)) rfl rfl 27 (hcs 0 ⟨#[]⟩ 0 0 0 0 0 0 0 0 0) HA4.out (aD ..) rfl (bW ..) ?_);exact bodyPost_ret (ag results32 _ _ w.heap.size 27 (hcs 3 ⟨#[]⟩ 0 (x0:Nat) (x1:Nat) (x2:Nat) (x3:Nat) (x4:Nat) (x5:Nat) (x6:Nat) (x7:Nat)) (0,0) _ rfl (X.aA HA4.out) underlying27 (aD ..)) rfl ⟨HR.out,X.ai HB4.out (le_refl _) _⟩
 ·have HR:Hid (bZ (sxt (bn s)) (.returned (.tuple #[hv 0 ⟨#[]⟩ 0 0 0 0 0 0 0 0 0,.int .i64 70]))):=by
   show bZ _ _;cases b with
   | false=>rw[HP2.out rfl];exact dJ 70
   | true =>
    cases o with
    | none=>rw[HP1.out rfl];exact dJ 70
    | some a=>exact absurd ⟨rfl,rfl⟩ hb
  have hc:b=false\/(b=true/\X.err o=8):=by
   cases b with
   | false=>exact .inl rfl
   | true =>
    cases o with
    | none=>exact .inr ⟨rfl,rfl⟩
    | some a=>exact absurd ⟨rfl,rfl⟩ hb
  clear hb hx HP1 HP2 HSX;rcases hc with rfl | ⟨rfl,he⟩
  ·generalize X.err o=q;go_wp2_with(refine wpList_store_row rfl 27 (.tmp 2) (.tmp 24) rfl w.heap.size (hcs 0 ⟨#[]⟩ 0 0 0 0 0 0 0 0 0) rfl rfl 27 (hcs 0 ⟨#[]⟩ 0 0 0 0 0 0 0 0 0) HA4.out (aD ..) rfl (bW ..) ?_);exact bodyPost_ret (ag results32 _ _ w.heap.size 27 (hcs 0 ⟨#[]⟩ 0 0 0 0 0 0 0 0 0) (0,0) _ rfl (X.aA HA4.out) underlying27 (aD ..)) rfl ⟨HR.out,X.ai HB4.out (le_refl _) _⟩
  ·rw[he];go_wp2_with(refine wpList_store_row rfl 27 (.tmp 2) (.tmp 24) rfl w.heap.size (hcs 0 ⟨#[]⟩ 0 0 0 0 0 0 0 0 0) rfl rfl 27 (hcs 0 ⟨#[]⟩ 0 0 0 0 0 0 0 0 0) HA4.out (aD ..) rfl (bW ..) ?_);exact bodyPost_ret (ag results32 _ _ w.heap.size 27 (hcs 0 ⟨#[]⟩ 0 0 0 0 0 0 0 0 0) (0,0) _ rfl (X.aA HA4.out) underlying27 (aD ..)) rfl ⟨HR.out,X.ai HB4.out (le_refl _) _⟩
def GH(w:World):Prop:=F.Pow w/\F.Max w/\X.GX w
theorem GH.below{w w':World}(h:GH w)(hb:Below w.heap.size w w'):GH w':=⟨h.1.below h.1.size hb,h.2.1.below hb,h.2.2.below hb⟩
theorem py(s:ByteArray)(sp:Bool)(hs:s.size<=400000000)(w:World)(hG:GH w):Calls prog 20 #[.string s,.bool sp] w fun e W'=>qw IA (bn s) sp w e W':=by
 obtain⟨nb,na,nz⟩:=eT w;have HB0:=hid nb;have HA0:=hid na;have HZ0:=hid nz;clear nb na nz;have HCP:=hid (fun W=>IV s W);have HG:=hid (hG.below HB0.out);clear hG;have HPR:Hid (∀(h:Hst) (e:Ending) (W':World),HP IA (bn s) sp h->bZ h e->Below w.heap.size w W'->qw IA (bn s) sp w e W'):=fun h e W' hp hr hb=>by obtain⟨n,hn,rfl⟩:=hr;exact⟨⟨h,n,hp,hn,rfl⟩,hb⟩
 go_enter func20,ntmps20;go_wp2_with fail;obtain⟨w1,hw1⟩:=Ex' (w.alloc (.cells (hcs 0 ⟨#[]⟩ 0 0 0 0 0 0 0 0 0) 27));unfold hcs at hw1 HB0 HA0 HZ0 HG;rw[hw1]at HB0 HA0 HZ0 HG ⊢;clear hw1;refine(HCP.out w1).mono ?_;rintro e w2 ⟨hcp,hw2⟩;obtain⟨t,b,rfl⟩:∃(t:ByteArray) (b:Bool),e=.returned (.tuple #[.string t,.bool b]):=by rcases hcp with⟨_,rfl⟩ | ⟨_,rfl⟩ <;> exact⟨_,_,rfl⟩
 obtain rfl:=hw2.symm;clear HCP;by_cases hl:4096<s.size
 ·have hlz:(4096:Int)<(s.size:Int):=by omega
  have HPN:Hid (HP IA (bn s) sp (non 4)):=by show HP _ _ _ _;unfold HP;rw[if_pos (by rw[aa];exact hl)]
  have HR:Hid (∀ W',Below w.heap.size w W'->qw IA (bn s) sp w (.returned (.tuple #[hv 0 ⟨#[]⟩ 0 0 0 0 0 0 0 0 0,.int .i64 4])) W'):=fun W' hb=>HPR.out _ _ _ HPN.out (dJ 4) hb;clear HPN HPR hcp HG;go_wp2_with(refine wpList_store_row rfl 27 (.tmp 4) (.tmp 17) rfl w.heap.size (hcs 0 ⟨#[]⟩ 0 0 0 0 0 0 0 0 0) rfl rfl 27 (hcs 0 ⟨#[]⟩ 0 0 0 0 0 0 0 0 0) HA0.out (aD ..) rfl (bW ..) ?_);exact bodyPost_ret (ag results20 _ _ w.heap.size 27 (hcs 0 ⟨#[]⟩ 0 0 0 0 0 0 0 0 0) (0,0) _ rfl (X.aA HA0.out) underlying27 (aD ..)) rfl (HR.out _ (X.ai HB0.out (le_refl _) _))
 ·have hlz:¬ (4096:Int)<(s.size:Int):=by omega
  have hln:¬ 4096<(bn s).length:=by rw[aa];exact hl
  rcases hcp with⟨hh,he⟩ | ⟨hh,he⟩
  focus
   cases he;have HC:=hid ((Fm (s.extract 1 s.size) (by simp;omega) w1 HG.out.2.2).mono (fun e W' ⟨hr,hb⟩=>(⟨_,by unfold HP;rw[if_neg hln,if_pos hh,Kw hh,<-aw],hr,hb⟩:∃ H,HP IA (bn s) sp H/\bZ H e/\Below w1.heap.size w1 W')))
  rotate_left
  focus
   cases he;cases sp
   focus have HC:=hid ((FI s (by omega) w1).mono (fun e W' ⟨hr,hb⟩=>(⟨_,by unfold HP;rw[if_neg hln,if_neg hh,if_pos rfl],hr,hb⟩:∃ H,HP IA (bn s) false H/\bZ H e/\Below w1.heap.size w1 W')))
   rotate_left
   focus have HC:=hid ((BC s (by omega) w1 HG.out.2.1).mono (fun e W' ⟨⟨d,r,hi,hr⟩,hb⟩=>(⟨dom d r,by unfold HP;rw[if_neg hln,if_neg hh,if_neg (by decide)];exact⟨d,r,hi,rfl⟩,hr,hb⟩:∃ H,HP IA (bn s) true H/\bZ H e/\Below w1.heap.size w1 W')))
  all_goals
   clear HG hh hln;go_wp2_with fail;refine HC.out.mono ?_;rintro e w3 ⟨H,hp,⟨n,hn,rfl⟩,B⟩;have HR:=hid (fun W' hb=>HPR.out _ _ W' hp ⟨n,hn,rfl⟩ hb);clear hn hp HPR;obtain⟨k,nm,f,a,er⟩:=H;obtain⟨a0,a1,a2,a3,a4,a5,a6,a7,ha⟩:∃ a0 a1 a2 a3 a4 a5 a6 a7:Int,hvl k n f a=hv (k:Nat) n (f:Nat) a0 a1 a2 a3 a4 a5 a6 a7:=⟨_,_,_,_,_,_,_,_,rfl⟩;simp only at HR ⊢;rw[ha]at HR ⊢;clear ha;have HB3:=Bt' HB0 B;have HA3:Hid (w3.heap[w.heap.size]? = some (.cells (hcs 0 ⟨#[]⟩ 0 0 0 0 0 0 0 0 0) 27 (0,0))):=(B.block _ (Array.getElem?_eq_some_iff.1 HA0.out).1).trans HA0.out;clear B HB0 HA0 HC;go_wp2_with(refine wpList_store_row rfl 27 (.tmp 4) _ rfl w.heap.size (hcs (k:Nat) n (f:Nat) a0 a1 a2 a3 a4 a5 a6 a7) rfl rfl 27 (hcs 0 ⟨#[]⟩ 0 0 0 0 0 0 0 0 0) HA3.out (aD ..) rfl (bW ..) ?_);exact bodyPost_ret (ag results20 _ _ w.heap.size 27 (hcs (k:Nat) n (f:Nat) a0 a1 a2 a3 a4 a5 a6 a7) (0,0) _ rfl (X.aA HA3.out) underlying27 (aD ..)) rfl (HR.out _ (X.ai HB3.out (le_refl _) _))
theorem pz(s:ByteArray)(sp:Bool)(hs:s.size<=100000)(w:World)(hG:GH w):Calls prog 20 #[.string s,.bool sp] w fun e W'=>qw IA (bn s) sp w e W':=py s sp (by omega) w hG
end H
namespace Cn
open F (bn aa bC hid aw aC Max)
open H (Hst non bZ hcs z8)
theorem MR(t:ByteArray)(w:World):Calls prog 53 #[.string t] w fun e W'=>e=.returned (.bool t.toList.isEmpty)/\W'=w:=by go_enter func53,ntmps53;go_wp2;all_goals (go_ret;exact⟨by simp_all,rfl⟩)
theorem Cd{l:List Int}{k:Nat}(h:l.drop k≠[]):l.getLast? = (l.drop k).getLast? := by
 conv=>lhs;rw[<-List.take_append_drop k l]
 rw[List.getLast?_append];cases hl:(l.drop k).getLast? with
 | none=>exact absurd (List.getLast?_eq_none_iff.1 hl) h
 | some x=>rfl
theorem Al{l:List Int}{b:Int}(h:¬ b∈l):l.getLast? ≠ some b:=fun e=>h (List.mem_of_getLast? e)
theorem Nc{s:ByteArray}{e:Ending}(h:tX 46 (fun t=>t.toList.isEmpty) s e):∃ t u v,bn t=und (bn s)/\t.size<=s.size/\e=.returned (.tuple #[.string t,.string u,.bool v]):=by
 obtain⟨k,hk,hn,ht,hc⟩:=h;have hb:((46:UInt8).toNat:Int)=46:=rfl;rw[hb]at hn ht;have hx:=aw s k;rcases hc with⟨ho,rfl⟩ | ⟨h1,h2,rfl⟩
 ·refine⟨s,_,_,?_,le_refl _,rfl⟩;unfold und;rw[if_neg];rcases ho with h0 | h0
  ·subst h0;exact Al hn
  ·have hne:(bn s).drop k≠[]:=fun e=>by
    have hz:(s.extract k s.size).size=0:=by rw[<-aa,hx,e];rfl
    have:=aC _ hz;simp only at h0;rw[this]at h0;cases h0
   rw[Cd hne];exact Al hn
 ·have hz:s.extract k s.size=⟨#[]⟩:=by simp only[List.isEmpty_iff]at h2;apply bC;have h3:(s.extract k s.size).toList=[]:=h2;rw[ByteArray.toList_eq]at h3;unfold F.bn;rw[h3]
  have hd:(bn s).drop k=[]:=by rw[<-hx,hz];rfl
  have hl:(bn s).length<=k:=by have:=congrArg List.length hd;rw[length_drop,List.length_nil]at this;omega
  have hw:bn s=(bn s).take (k - 1)++[46]:=by
   rcases ht with h0 | h0
   ·omega
   ·rw[<-h0,List.take_of_length_le hl]
  refine⟨s.extract 0 (k - 1),_,_,?_,by simp;omega,rfl⟩;rw[X.qe s (k - 1) (by omega)];unfold und;rw[if_pos (by rw[hw];simp)]
  conv=>rhs;rw[hw]
  rw[List.dropLast_concat]
def dmn(l:List Int):Hst:=if okn (und l)=true then (1,und l,0,z8,0) else non 70
theorem yN(s:ByteArray)(hs:s.size<=400000000)(w:World)(hM:Max w):Calls prog 27 #[.string s] w fun e W'=>bZ (dmn (bn s)) e/\Below w.heap.size w W':=by
 obtain⟨nb,na,nz⟩:=H.eT w;have HB0:=hid nb;have HA0:=hid na;have HZ0:=hid nz;clear nb na nz;have HCU:=hid (fun W=>dp 53 (enters_of func53 (by kernel_rfl) rfl) s 46 (fun t=>t.toList.isEmpty) hs W (fun t W ht=>MR t W));have HM:=hid (fun W h=>hM.below (w':=W) h);have HY:Hid (∀ t,bn t=und (bn s)->okn (bn t)=true->bZ (dmn (bn s)) (.returned (.tuple #[H.hv 1 t 0 0 0 0 0 0 0 0 0,.int .i64 0]))):=fun t h1 h2=>by unfold dmn;rw[<-h1,if_pos h2];exact⟨t,rfl,rfl⟩
 have HN:Hid (∀ t,bn t=und (bn s)->okn (bn t)=false->bZ (dmn (bn s)) (.returned (.tuple #[H.hv 0 ⟨#[]⟩ 0 0 0 0 0 0 0 0 0,.int .i64 70]))):=fun t h1 h2=>by unfold dmn;rw[<-h1,if_neg (by rw[h2];simp)];exact H.dJ 70
 have HD:=hid (fun e h=>Nc (s:=s) (e:=e) h);obtain⟨R,hR⟩:=Ex' (bZ (dmn (bn s)));rw[hR]at HY HN ⊢;clear hR hM;go_enter func27,ntmps27;go_wp2_with fail;obtain⟨w1,hw1⟩:=Ex' (w.alloc (.cells (hcs 0 ⟨#[]⟩ 0 0 0 0 0 0 0 0 0) 27));unfold H.hcs at hw1 HB0 HA0 HZ0;rw[hw1]at HB0 HA0 HZ0 ⊢;clear hw1;refine(HCU.out w1).mono ?_;rintro e w2 ⟨hc,B⟩;obtain⟨t,u,v,ht,hz,rfl⟩:=HD.out e hc;have HT:=hid ht;have HB2:=Bt' HB0 B;have HA2:Hid (w2.heap[w.heap.size]? = some (.cells (hcs 0 ⟨#[]⟩ 0 0 0 0 0 0 0 0 0) 27 (0,0))):=(B.block _ (Array.getElem?_eq_some_iff.1 HA0.out).1).trans HA0.out;clear B HA0 HB0 hc ht HD HCU;have HCA:=hid (qJ t (by omega) w2 (HM.out w2 HB2.out));go_wp2_with fail;refine HCA.out.mono ?_;rintro e w3 ⟨rfl,B⟩;replace HB2:=Bt' HB2 B;replace HA2:Hid (w3.heap[w.heap.size]? = some (.cells (hcs 0 ⟨#[]⟩ 0 0 0 0 0 0 0 0 0) 27 (0,0))):=(B.block _ (Array.getElem?_eq_some_iff.1 HA2.out).1).trans HA2.out;clear B HCA;have HY1:=hid (HY.out t HT.out);have HN1:=hid (HN.out t HT.out);clear HY HN HT;cases hv:okn (bn t) with
 | true =>
  rw[hv]at HY1;have HR:=hid (HY1.out rfl);have HCL:=hid (H.rN t (by omega) w3);clear hv HY1 HN1;go_wp2_with fail;refine HCL.out.mono ?_;rintro e w4 ⟨rfl,B⟩;replace HB2:=Bt' HB2 B;replace HA2:Hid (w4.heap[w.heap.size]? = some (.cells (hcs 0 ⟨#[]⟩ 0 0 0 0 0 0 0 0 0) 27 (0,0))):=(B.block _ (Array.getElem?_eq_some_iff.1 HA2.out).1).trans HA2.out;clear B HCL;go_wp2_with(refine wpList_store_row rfl 27 (.tmp 2) (.tmp 16) rfl w.heap.size (hcs 1 t 0 0 0 0 0 0 0 0 0) rfl rfl 27 (hcs 0 ⟨#[]⟩ 0 0 0 0 0 0 0 0 0) HA2.out (H.aD ..) rfl (H.bW ..) ?_);exact bodyPost_ret (H.ag results27 _ _ w.heap.size 27 (hcs 1 t 0 0 0 0 0 0 0 0 0) (0,0) _ rfl (X.aA HA2.out) underlying27 (H.aD ..)) rfl ⟨HR.out,X.ai HB2.out (le_refl _) _⟩
 | false =>
  rw[hv]at HN1;have HR:=hid (HN1.out rfl);clear hv HY1 HN1;go_wp2_with(refine wpList_store_row rfl 27 (.tmp 2) (.tmp 13) rfl w.heap.size (hcs 0 ⟨#[]⟩ 0 0 0 0 0 0 0 0 0) rfl rfl 27 (hcs 0 ⟨#[]⟩ 0 0 0 0 0 0 0 0 0) HA2.out (H.aD ..) rfl (H.bW ..) ?_);exact bodyPost_ret (H.ag results27 _ _ w.heap.size 27 (hcs 0 ⟨#[]⟩ 0 0 0 0 0 0 0 0 0) (0,0) _ rfl (X.aA HA2.out) underlying27 (H.aD ..)) rfl ⟨HR.out,X.ai HB2.out (le_refl _) _⟩
end Cn
namespace H
theorem fa(d:Nat)(k:Int)(n:ByteArray)(f a0 a1 a2 a3 a4 a5 a6 a7 k':Int)(n':ByteArray)(f' b0 b1 b2 b3 b4 b5 b6 b7:Int)(w:World):
  (Op.equalIn (d+3) 27 (hv k n f a0 a1 a2 a3 a4 a5 a6 a7) (hv k' n' f' b0 b1 b2 b3 b4 b5 b6 b7)).run prog w=.ok (eqh k n f [a0,a1,a2,a3,a4,a5,a6,a7] k' n' f' [b0,b1,b2,b3,b4,b5,b6,b7]) w:=by
 rw[run_equalIn_struct w (d+2) 27 _ _ (by kernel_rfl) (by kernel_rfl)];have hf:=fields_host;generalize (prog.fieldsOf 27).toList=fs at hf ⊢;match fs,hf with
 | [],hf=>cases hf
 | [_],hf=>simp at hf
 | [_,_],hf=>simp at hf
 | [_,_,_],hf=>simp at hf
 | _::_::_::_::_::_,hf=>simp at hf
 | [f0,f1,f2,f3],hf =>
  simp only[map_cons,List.map_nil,List.cons.injEq,Prod.mk.injEq,decide_eq_false_iff_not,and_true]at hf;obtain⟨⟨t0,o0,n0⟩,⟨t1,o1,n1⟩,⟨t2,o2,n2⟩,⟨t3,o3,n3⟩⟩:=hf;have g8:∀ w,(isAgg 5).run prog w=.ok false w:=fun w=>by kernel_rfl
  have gs:∀ w,(isAgg 9).run prog w=.ok false w:=fun w=>by kernel_rfl
  have g32:∀ w,(isAgg 24).run prog w=.ok false w:=fun w=>by kernel_rfl
  simp only[Op.eqFields,ne_eq,n0,n1,n2,n3,not_false_eq_true,if_true,t0,t1,t2,t3,o0,o1,o2,o3,Sem.run_bind];rw[aR _ g8 _ 0 (.int .u8 k) rfl,Result.andThen_ok,aR _ g8 _ 0 (.int .u8 k') rfl,Result.andThen_ok,run_equalIn_int w (d+1) 5 .u8 .u8 _ _ underlying5,Result.andThen_ok];unfold eqh;cases hk:(k==k') with
  | false=>simp
  | true =>
   simp only[Bool.not_true,false_eq_true,if_false,Bool.true_and,Sem.run_bind];rw[aR _ gs _ 1 (.string n) rfl,Result.andThen_ok,aR _ gs _ 1 (.string n') rfl,Result.andThen_ok,run_equalIn_string w (d+1) 9 _ _ underlying9,Result.andThen_ok];cases hn:(n.toList==n'.toList) with
   | false=>simp
   | true =>
    simp only[Bool.not_true,false_eq_true,if_false,Bool.true_and,Sem.run_bind];rw[aR _ g32 _ 2 (.int .u32 f) rfl,Result.andThen_ok,aR _ g32 _ 2 (.int .u32 f') rfl,Result.andThen_ok,run_equalIn_int w (d+1) 24 .u32 .u32 _ _ underlying24,Result.andThen_ok];cases h4:(f==f') with
    | false=>simp
    | true =>
     simp only[Bool.not_true,false_eq_true,if_false,Bool.true_and,Sem.run_bind];rw[kz,Result.andThen_ok,kz,Result.andThen_ok]
     rw[RP d _ _ (fun i=>([a0,a1,a2,a3,a4,a5,a6,a7])[i]?.getD 0) (fun i=>([b0,b1,b2,b3,b4,b5,b6,b7])[i]?.getD 0) (fun i hi=>by
       obtain rfl | rfl | rfl | rfl | rfl | rfl | rfl | rfl:i=0\/i=1\/i=2\/i=3\/i=4\/i=5\/i=6\/i=7:=by omega
       all_goals rfl) (fun i hi=>by
       obtain rfl | rfl | rfl | rfl | rfl | rfl | rfl | rfl:i=0\/i=1\/i=2\/i=3\/i=4\/i=5\/i=6\/i=7:=by omega
       all_goals rfl),Result.andThen_ok]
     cases ((List.range 8).all fun i=>([a0,a1,a2,a3,a4,a5,a6,a7])[i]?.getD 0==([b0,b1,b2,b3,b4,b5,b6,b7])[i]?.getD 0) <;> simp
end H
namespace Cn
open F (bn bC)
open H (Hst)
structure Tg where
 k:Nat
 nm:ByteArray
 f:Nat
 x0:Nat
 x1:Nat
 x2:Nat
 x3:Nat
 x4:Nat
 x5:Nat
 x6:Nat
 x7:Nat
 p:Nat
def Tg.hs(a:Tg):Array Value:=#[.int .u8 (a.k:Nat),.string a.nm,.int .u32 (a.f:Nat),.int .u16 (a.x0:Nat),.int .u16 (a.x1:Nat),.int .u16 (a.x2:Nat),.int .u16 (a.x3:Nat),.int .u16 (a.x4:Nat),.int .u16 (a.x5:Nat),.int .u16 (a.x6:Nat),.int .u16 (a.x7:Nat)]
def Tg.cs(a:Tg):Array Value:=#[.int .u8 (a.k:Nat),.string a.nm,.int .u32 (a.f:Nat),.int .u16 (a.x0:Nat),.int .u16 (a.x1:Nat),.int .u16 (a.x2:Nat),.int .u16 (a.x3:Nat),.int .u16 (a.x4:Nat),.int .u16 (a.x5:Nat),.int .u16 (a.x6:Nat),.int .u16 (a.x7:Nat),.int .u16 (a.p:Nat)]
structure Tv(a:Tg)(h:Hst)(p:Nat):Prop where
 k:a.k=h.1
 n:bn a.nm=h.2.1
 f:a.f=h.2.2.1
 x:[a.x0,a.x1,a.x2,a.x3,a.x4,a.x5,a.x6,a.x7]=h.2.2.2.1
 p:a.p=p
theorem Tv.one{a b:Tg}{h:Hst}{p:Nat}(x:Tv a h p)(y:Tv b h p):a=b:=by obtain⟨x1,x2,x3,x4,x5⟩:=x;obtain⟨y1,y2,y3,y4,y5⟩:=y;obtain⟨ak,an,af,a0,a1,a2,a3,a4,a5,a6,a7,ap⟩:=a;obtain⟨bk,bn',bf,b0,b1,b2,b3,b4,b5,b6,b7,bp⟩:=b;simp only at x1 x2 x3 x4 x5 y1 y2 y3 y4 y5;have e:=x4.trans y4.symm;simp only[List.cons.injEq,and_true]at e;obtain⟨rfl,rfl,rfl,rfl,rfl,rfl,rfl,rfl⟩:=e;have e2:=bC (x2.trans y2.symm);subst e2;rw[x1,x3,x5,y1,y3,y5]
theorem aG(a:Tg):(prog.info? 29).map (·.size)=some a.cs.size:=by kernel_rfl
theorem aD(a:Tg):(prog.info? 27).map (·.size)=some a.hs.size:=by kernel_rfl
theorem cT(a:Tg):a.cs.all (·.oneCell')=true:=by simp[Tg.cs,Value.oneCell']
theorem bW(a:Tg):a.hs.all (·.oneCell')=true:=by simp[Tg.hs,Value.oneCell']
theorem fields_target : ((Tryz.prog.fieldsOf 29).toList.map fun f => (f.type, f.offset, decide (f.name = "_"))) = [(27, 0, false), (22, 11, false)] := by kernel_rfl
theorem eF(a:Tg)(w:World):(part 27 a.cs 0).run prog w=.ok (.agg a.hs) w:=by
 have h1:(isAgg 27).run prog w=.ok true w:=by kernel_rfl
 have h2:(prog.info? 27).map (·.size)=some 11:=by kernel_rfl
 unfold part;simp[h1,Sem.run_bind];rfl
open F (bn)
open H (Hst Asc)
abbrev zt:Array Value:=#[.int .u8 0,.string ⟨#[]⟩,.int .u32 0,.int .u16 0,.int .u16 0,.int .u16 0,.int .u16 0,.int .u16 0,.int .u16 0,.int .u16 0,.int .u16 0,.int .u16 0]
abbrev zh:Array Value:=#[.int .u8 0,.string ⟨#[]⟩,.int .u32 0,.int .u16 0,.int .u16 0,.int .u16 0,.int .u16 0,.int .u16 0,.int .u16 0,.int .u16 0,.int .u16 0]
def Lm(a:Tg):Prop:=a.nm.size<=400000000/\a.p<=65535/\a.k<256/\a.f<4294967296/\X.Small [a.x0,a.x1,a.x2,a.x3,a.x4,a.x5,a.x6,a.x7]
def TgR(P:Hst×Nat->Prop)(w:World)(e:Ending)(W':World):Prop :=
 (∃ a h p,P (h,p)/\Tv a h p/\Lm a/\e=.returned (.tuple #[.agg (Tg.cs a),.int .i64 h.2.2.2.2]))/\Below w.heap.size w W'
def wo(h:Hst):Hst:=(h.1,h.2.1,h.2.2.1,h.2.2.2.1,0)
structure Ctr(A:List Int->List Int->Int->Prop)(G:World->Prop):Prop where
 asc:Asc A
 keep:∀(w w':World),G w->Below w.heap.size w w'->G w'
 ca:∀(s:ByteArray) (w:World),s.size<=100000->G w->Calls prog 6 #[.string s] w fun e W'=>TgR (AB A (bn s)) w e W'
 cu:∀(s:ByteArray) (q:Nat) (w:World),s.size<=100000->q<=65535->G w->Calls prog 8 #[.string s,.int .u16 (q:Nat)] w fun e W'=>TgR (AU A (bn s) q) w e W'
 ch:∀(a:Tg) (h:Hst) (p:Nat) (w:World),Tv a h p->Lm a->G w->Calls prog 12 #[.agg (Tg.hs a)] w fun e W'=>(∃ b r,CH A (wo h) r/\Tv b r 0/\e=.returned (.tuple #[.agg (Tg.hs b),.int .i64 r.2.2.2.2]))/\Below w.heap.size w W'
 ct:∀(a:Tg) (h:Hst) (p:Nat) (w:World),Tv a h p->Lm a->G w->Calls prog 9 #[.agg (Tg.cs a)] w fun e W'=>(∃ t,e=.returned (.string t)/\bn t=ttx h p)/\Below w.heap.size w W'
 cm:∀(a:Tg) (h:Hst) (p:Nat) (w:World),Tv a h p->Lm a->G w->Calls prog 10 #[.agg (Tg.cs a)] w fun e W'=>(∃ b r,CH A (wo h) r/\b=decide (r=wo h/\p≠0)/\e=.returned (.bool b))/\Below w.heap.size w W'
theorem aK(w:World)(cs:Array Value)(t:TypeId):(w.alloc (.cells cs t)).heap[w.heap.size]? = some (.cells cs t (0,0)):=heap_alloc_new w _
theorem kept{W W':World}{g:Nat}{o:Obj}(h:W.heap[g]? = some o)(hb:Below W.heap.size W W'):W'.heap[g]? = some o:=(hb.block g (Array.getElem?_eq_some_iff.1 h).1).trans h
theorem dC{B:Nat}{a w:World}(h:Below B a w){g:Nat}(hg:B<=g)(cs:Array Value):Below B a (w.setRow g cs):=by
 refine⟨h.os,h.tape,h.output,?_,fun k hk=>?_⟩
 ·rw[setRow_size];exact h.size
 ·rw[setRow_other _ _ _ _ (by omega)];exact h.block k hk
theorem eM(W:World)(z cs:Array Value)(t:TypeId):((W.alloc (.cells z t)).setRow W.heap.size cs).heap[W.heap.size]? = some (.cells cs t (0,0))/\Below W.heap.size W ((W.alloc (.cells z t)).setRow W.heap.size cs) :=
 ⟨setRow_heap _ _ _ cs t (0,0) (aK W z t),dC ((Below.refl _ W).alloc (le_refl _) _) (le_refl _) cs⟩
theorem aP{P:Program}{ops:Array Oper}{Q:Exit->Act->World->Prop}{a:Act}{w:World}{rest:List Oper}{o:Oper}
  (hw:Region.wanted o (yielded ops a.tmps)=true) (h:wpList P ops Q ({ o with guard:=none }::rest) a w):wpList P ops Q (o::rest) a w:=by
 have h0:Region.wanted { o with guard:=none } (yielded ops a.tmps)=true:=rfl;simp only[wpList,h0,hw,if_true]at h ⊢;exact h
theorem mY{W:World}{g:Nat}{t:Tg}(h:W.heap[g]? = some (.cells (Tg.cs t) 29 (0,0))):W.rangeAt g 0 (Tg.hs t).toList:=by have:=World.rangeAt_of_block h 0 11;exact this
end Cn
namespace H
open F (bn)
section
variable {P : Program} {ops : Array Oper} {S : World -> Prop}
theorem tZ{o:Oper}{a:Act}(hg:o.guard=none)(ty:TypeId)(x:Operand)(ho:o.op=.load ty x)(g:Nat)(hx:a.eval x=.pointer (some ⟨g,0,none⟩))(t:TypeId)(cs:Array Value)(fr:Nat×Nat)(fs:Array Field)
  (aq:∀ w,S w->w.heap[g]? = some (.cells cs t fr)) (hu:P.underlying ty=some (.struct fs)) (hi:(P.info? ty).map (·.size)=some cs.size):YieldsIf P ops S o (.agg cs) a:=by
 refine .inl ⟨by simp[Region.wanted,hg],fun w hS=>?_⟩;unfold execOp;simp only[ho,hx,Instr.loadAt,Instr.sureAddr,Sem.run_bind,Sem.run_pure,Result.andThen_ok,run_loadVar_row w g t ty cs fr (.struct fs) (aq w hS) hu rfl hi]
theorem gE{o:Oper}{a:Act}{w:World}{K:Act->World->Prop}{Q:Exit->Act->World->Prop}{E:Prop}(hg:o.guard=none)(f:Nat)(ss:Array Operand)(ts:Array TypeId)(hop:o.op=Op.call { callee:=Callee.value (Operand.func f),args:=ss,argTypes:=ts })
  (vs:Array Value) (hs:ss.map a.eval=vs) (hen:(callFunc f vs).run P w=.ok (.enter f vs) w) {R:Ending->World->Prop} (hc:Calls P f vs w R) (hK:∀ e w',R e w'->∃ r,e=.returned r/\K (a.put o.dst r) w') :
  if Region.wanted o (yielded ops a.tmps)=true then Oper.wp P o a w K Q else E:=by
 have hw:Region.wanted o (yielded ops a.tmps)=true:=by simp[Region.wanted,hg]
 rw[if_pos hw];unfold Oper.wp;have e:(execOp a.eval o).run P w=.ok (.enter f vs) w:=by have hf:a.eval (Operand.func f)=.func (.func f) #[] #[]:=rfl;simp[execOp,hop,resolve,invoke,hs,hf,Deferred.ofValue];exact hen
 rw[e,Oper.upon_enter];refine hc.mono ?_;intro e w' h;obtain⟨r,rfl,hk⟩:=hK e w' h;exact hk
end
abbrev lP(ps:String):Array Oper:=#[{ dst:=some 11,op:=.load 27 (.tmp 1),type:=27,pos:=ps,after:=#[],guard:=none },
  { dst:=some 12,op:=.call { callee:=.value (.func 22),args:=#[.tmp 11],argTypes:=#[27] },type:=9,pos:=ps,after:=#[{ on:=0,ground:=.data }],guard:=none },
  { dst:=some 13,op:=.fieldAddr 27 (.tmp 1) 0,type:=0,pos:=ps,after:=#[],guard:=none },
  { dst:=some 14,op:=.load 5 (.tmp 13),type:=5,pos:=ps,after:=#[{ on:=2,ground:=.data }],guard:=none },
  { dst:=some 15,op:=.binOp .neq 5 (.tmp 14) (.const (.int .u8 4)) 5,type:=4,pos:=ps,after:=#[{ on:=3,ground:=.data }],guard:=none },
  { dst:=some 16,op:=.call { callee:=.value (.func 20),args:=#[.tmp 12,.tmp 15],argTypes:=#[9,4] },type:=45,pos:=ps,after:=#[{ on:=1,ground:=.data },{ on:=4,ground:=.data },{ on:=1,ground:=.chain }],guard:=none },
  { dst:=some 10,op:=.move (.tmp 16),type:=45,pos:=ps,after:=#[{ on:=5,ground:=.data }],guard:=none },
  { dst:=some 17,op:=.extract (.tmp 10) 0,type:=27,pos:=ps,after:=#[{ on:=6,ground:=.data }],guard:=none },
  { dst:=some 18,op:=.extract (.tmp 10) 1,type:=30,pos:=ps,after:=#[{ on:=6,ground:=.data },{ on:=10,ground:=(.gcOnly .lateStores) }],guard:=none },
  { dst:=some 4,op:=.alloc 27,type:=0,pos:=ps,after:=#[],guard:=none },
  { dst:=none,op:=.store 27 (.tmp 4) (.tmp 17),type:=0,pos:=ps,after:=#[{ on:=9,ground:=.data },{ on:=7,ground:=.data },{ on:=5,ground:=.chain },{ on:=0,ground:=.phase },{ on:=1,ground:=.phase },{ on:=2,ground:=.phase },{ on:=3,ground:=.phase },{ on:=4,ground:=.phase },{ on:=5,ground:=.phase },{ on:=6,ground:=.phase },{ on:=7,ground:=.phase },{ on:=8,ground:=(.textOnly .lateStores) },{ on:=9,ground:=.phase }],guard:=none },
  { dst:=some 5,op:=.assign (.tmp 18),type:=30,pos:=ps,after:=#[{ on:=8,ground:=.data },{ on:=10,ground:=.chain },{ on:=0,ground:=.phase },{ on:=1,ground:=.phase },{ on:=2,ground:=.phase },{ on:=3,ground:=.phase },{ on:=4,ground:=.phase },{ on:=5,ground:=.phase },{ on:=6,ground:=.phase },{ on:=7,ground:=.phase },{ on:=8,ground:=.phase },{ on:=9,ground:=.phase },{ on:=10,ground:=.phase }],guard:=none }]
abbrev MA(V0 P1 V2 P3 V6 V7 V8 V9 v4 v5 v10 v11 v12 v13 v14 v15 v16 v17 v18:Value):Act:=⟨#[V0,P1,V2,P3,v4,v5,V6,V7,V8,V9,v10,v11,v12,v13,v14,v15,v16,v17,v18,undef,undef,undef,undef,undef,undef,undef],[]⟩
abbrev xcs(x:Hst)(n:ByteArray):Array Value:=hcs (x.1:Nat) n (x.2.2.1:Nat) ((x.2.2.2.1[0]?.getD 0:Nat):Int) ((x.2.2.2.1[1]?.getD 0:Nat):Int) ((x.2.2.2.1[2]?.getD 0:Nat):Int) ((x.2.2.2.1[3]?.getD 0:Nat):Int) ((x.2.2.2.1[4]?.getD 0:Nat):Int) ((x.2.2.2.1[5]?.getD 0:Nat):Int) ((x.2.2.2.1[6]?.getD 0:Nat):Int) ((x.2.2.2.1[7]?.getD 0:Nat):Int)
def Sm(w:World)(cs:Array Value)(W:World):Prop:=W.heap[w.heap.size]? = some (.cells cs 27 (0,0))/\Below w.heap.size w W
theorem Sm.step{w:World}{cs:Array Value}{W W':World}(h:Sm w cs W)(hb:Below W.heap.size W W'):Sm w cs W':=⟨(hb.block _ (Array.getElem?_eq_some_iff.1 h.1).1).trans h.1,h.2.trans (hb.mono h.2.size)⟩
theorem Sm.new{w:World}{cs:Array Value}{W:World}(h:Sm w cs W)(o:Obj):Sm w cs (W.alloc o):=h.step ((Below.refl _ W).alloc (le_refl _) o)
theorem Sm.put{w:World}{cs:Array Value}{W:World}(h:Sm w cs W){g:Nat}(hg:w.heap.size<g)(ys:Array Value):Sm w cs (W.setRow g ys):=by have hb:Below (w.heap.size+1) W W:=Below.refl _ _;have hb2:=X.ai hb (g:=g) (by omega) ys;exact⟨(hb2.block _ (by omega)).trans h.1,X.ai h.2 (by omega) ys⟩
theorem DF(ev:Operand->Value)(o:Oper)(ho:o.op=.alloc 27)(W:World):(execOp ev o).run prog W=.ok (.value (.pointer (some ⟨W.heap.size,0,none⟩))) (W.alloc (.cells (hcs 0 ⟨#[]⟩ 0 0 0 0 0 0 0 0 0) 27)):=by unfold execOp;simp only[ho];go_simp
theorem nX{ps:String}{o:Oper}{a:Act}{W:World}{K:Act->World->Prop}{Q:Exit->Act->World->Prop}{E:Prop}(hg:o.guard=none)(ho:o.op=.alloc 27)(hK:K (a.put o.dst (.pointer (some ⟨W.heap.size,0,none⟩))) (W.alloc (.cells (hcs 0 ⟨#[]⟩ 0 0 0 0 0 0 0 0 0) 27))):
  if Region.wanted o (yielded (lP ps) a.tmps)=true then Oper.wp prog o a W K Q else E:=by
 have hw:Region.wanted o (yielded (lP ps) a.tmps)=true:=by simp[Region.wanted,hg]
 rw[if_pos hw];unfold Oper.wp;rw[DF a.eval o ho W,Oper.upon_value];exact hK
theorem EL{ps:String}{o:Oper}{a:Act}{W:World}{K:Act->World->Prop}{Q:Exit->Act->World->Prop}{E:Prop}(hg:o.guard=none)(x y:Operand)(ho:o.op=.store 27 x y)(g:Nat)(cells:Array Value)(hx:a.eval x=.pointer (some ⟨g,0,none⟩))(hy:a.eval y=.agg cells)
  (old:Array Value) (hr:W.heap[g]? = some (.cells old 27 (0,0))) (hi:(prog.info? 27).map (·.size)=some cells.size) (hold:old.size=cells.size) (h1:cells.all (·.oneCell')=true) (hK:K (a.put o.dst undef) (W.setRow g cells)) :
  if Region.wanted o (yielded (lP ps) a.tmps)=true then Oper.wp prog o a W K Q else E:=by
 have hw:Region.wanted o (yielded (lP ps) a.tmps)=true:=by simp[Region.wanted,hg]
 rw[if_pos hw];exact wp_store_row 27 x y ho g cells hx hy 27 old hr hi hold h1 hK
theorem Hs{o:Oper}{ev:Operand->Value}(x:Operand)(ho:o.op=.load 5 x)(g:Nat)(hx:ev x=.pointer (some ⟨g,0,none⟩)){W:World}{v:Int}(F0:W.cell? ⟨g,0,none⟩=some (.int .u8 v)):(execOp ev o).run prog W=.ok (.value (.int .u8 v)) W:=by unfold execOp;simp only[ho,hx];go_simp
theorem Jy{o:Oper}{ev:Operand->Value}(x:Operand)(ho:o.op=.fieldAddr 27 x 0)(g:Nat)(hx:ev x=.pointer (some ⟨g,0,none⟩))(W:World):(execOp ev o).run prog W=.ok (.value (.pointer (some ⟨g,0,none⟩))) W:=by unfold execOp;simp only[ho,hx];go_simp
theorem LR{o:Oper}{ev:Operand->Value}(x y:Operand)(ho:o.op=.binOp .neq 5 x y 5)(v u:Int)(hx:ev x=.int .u8 v)(hy:ev y=.int .u8 u)(W:World):(execOp ev o).run prog W=.ok (.value (.bool (v != u))) W:=by unfold execOp;simp only[ho,hx,hy];go_simp
abbrev zhs:Array Value:=hcs 0 ⟨#[]⟩ 0 0 0 0 0 0 0 0 0
abbrev xtp(x:Hst)(n:ByteArray):Value:=.tuple #[.agg (xcs x n),.int .i64 x.2.2.2.2]
abbrev pw(g:Nat):Value:=.pointer (some ⟨g,0,none⟩)
theorem yk(ps:String)(k:Nat)(cs:Array Value)(tl:List Int)(hi:(prog.info? 27).map (·.size)=some cs.size)(h0:cs[0]? = some (.int .u8 (k:Nat)))(sp:Bool)(hsp:((k:Int) != 4)=sp)(V0 P1 V2 P3 V6 V7 V8 V9:Value)(w v:World)(hP1:P1=(pw w.heap.size)){Q:Exit->Act->World->Prop}(hQ:∀ c a (d:Option Tmp) x w,Q (.panic c) (Act.put a d x) w->Q (.panic c) a w)
  (hv:Sm w cs v) (HT:∀ W,Below w.heap.size w W->Calls prog 22 #[.agg cs] W fun e W'=>(∃ t,e=.returned (.string t)/\bn t=tl)/\Below W.heap.size W W')
  (HC:∀ t W,bn t=tl->Below w.heap.size w W->Calls prog 20 #[.string t,.bool sp] W fun e W'=>qw IA (bn t) sp W e W')
  (post:∀(t:ByteArray) (x:Hst) (n':ByteArray) (g:Nat) (W:World),bn t=tl->HP IA (bn t) sp x->bn n'=x.2.1->W.heap[g]? = some (.cells (xcs x n') 27 (0,0))->Sm w cs W->Q .normal (MA V0 P1 V2 P3 V6 V7 V8 V9 (pw g) (.int .i64 x.2.2.2.2) (xtp x n') (.agg cs) (.string t) (pw w.heap.size) (.int .u8 (k:Nat)) (.bool sp) (xtp x n') (.agg (xcs x n')) (.int .i64 x.2.2.2.2)) W) :
  (Code.region 4 (lP ps) true).wp prog Q (MA V0 P1 V2 P3 V6 V7 V8 V9 undef undef undef undef undef undef undef undef undef undef undef) v:=by
 have e1:=enters_of func22 (by kernel_rfl) rfl;have e2:=enters_of func20 (by kernel_rfl) rfl;subst hP1
 have TAIL:∀(t:ByteArray) (x:Hst) (n':ByteArray) (g:Nat) (W:World),bn t=tl->HP IA (bn t) sp x->bn n'=x.2.1->w.heap.size<g->W.heap[g]? = some (.cells zhs 27 (0,0))->Sm w cs W ->
   wpAnyH prog .any (lP ps) Q (Sm w cs) 2 #[true,true,true,true,true,true,true,true,true,true,false,false] (MA V0 (pw w.heap.size) V2 P3 V6 V7 V8 V9 (pw g) undef (xtp x n') (.agg cs) (.string t) (pw w.heap.size) (.int .u8 (k:Nat)) (.bool sp) (xtp x n') (.agg (xcs x n')) (.int .i64 x.2.2.2.2)) W:=by
  intro t x n' g W h1 h2 h3 hg hr hS;refine wpAnyH_ready (rs:=[10]) (by kernel_rfl) (by decide) (AllReadyH.cons rfl (fun K hK=>?_) AllReadyH.nil);refine EL rfl (.tmp 4) (.tmp 17) rfl g (xcs x n') rfl rfl zhs hr (aD ..) rfl (bW ..) ?_;refine hK.out _ _ (hS.put hg _) (fun hS=>?_);refine wpAnyH_take (i:=11) (v:=(.int .i64 x.2.2.2.2)) rfl (by kernel_rfl) (by kernel_rfl) (by kernel_rfl) (fun _ _ _ h=>hQ _ _ _ _ _ h) (.inl ⟨rfl,fun W hW=>rfl⟩) hS ?_;refine wpAnyH_done (by kernel_rfl) ?_ 0;exact post t x n' g _ h1 h2 h3 (X.aA hr) hS
 have T678:∀(t:ByteArray) (x:Hst) (n':ByteArray) (g:Nat) (W:World),bn t=tl->HP IA (bn t) sp x->bn n'=x.2.1->w.heap.size<g->W.heap[g]? = some (.cells zhs 27 (0,0))->Sm w cs W ->
   wpAnyH prog .any (lP ps) Q (Sm w cs) 5 #[true,true,true,true,true,true,false,false,false,true,false,false] (MA V0 (pw w.heap.size) V2 P3 V6 V7 V8 V9 (pw g) undef undef (.agg cs) (.string t) (pw w.heap.size) (.int .u8 (k:Nat)) (.bool sp) (xtp x n') undef undef) W:=by
  intro t x n' g W h1 h2 h3 hg hr hS;refine wpAnyH_take (i:=6) (v:=(xtp x n')) rfl (by kernel_rfl) (by kernel_rfl) (by kernel_rfl) (fun _ _ _ h=>hQ _ _ _ _ _ h) (.inl ⟨rfl,fun W hW=>rfl⟩) hS ?_;refine wpAnyH_take (i:=7) (v:=(.agg (xcs x n'))) rfl (by kernel_rfl) (by kernel_rfl) (by kernel_rfl) (fun _ _ _ h=>hQ _ _ _ _ _ h) (.inl ⟨rfl,fun W hW=>rfl⟩) hS ?_;refine wpAnyH_take (i:=8) (v:=(.int .i64 x.2.2.2.2)) rfl (by kernel_rfl) (by kernel_rfl) (by kernel_rfl) (fun _ _ _ h=>hQ _ _ _ _ _ h) (.inl ⟨rfl,fun W hW=>rfl⟩) hS ?_;exact TAIL t x n' g W h1 h2 h3 hg hr hS
 have H5:∀(t:ByteArray) (g:Nat) (W:World),bn t=tl->w.heap.size<g->W.heap[g]? = some (.cells zhs 27 (0,0))->Sm w cs W ->
   wpAnyH prog .any (lP ps) Q (Sm w cs) 6 #[true,true,true,true,true,false,false,false,false,true,false,false] (MA V0 (pw w.heap.size) V2 P3 V6 V7 V8 V9 (pw g) undef undef (.agg cs) (.string t) (pw w.heap.size) (.int .u8 (k:Nat)) (.bool sp) undef undef undef) W:=by
  intro t g W h1 hg hr hS;refine wpAnyH_ready (rs:=[5]) (by kernel_rfl) (by decide) (AllReadyH.cons rfl (fun K hK=>?_) AllReadyH.nil);refine gE rfl 20 #[.tmp 12,.tmp 15] #[9,4] rfl #[.string t,.bool sp] (by rw[map_toArray];rfl) (e2 _ _) (HC t W h1 hS.2) ?_;rintro e W' ⟨⟨x,n',h2,h3,rfl⟩,hb⟩;refine⟨_,rfl,hK.out _ _ (hS.step hb) (fun hS2=>?_)⟩;exact T678 t x n' g W' h1 h2 h3 hg ((hb.block _ (Array.getElem?_eq_some_iff.1 hr).1).trans hr) hS2
 have hgt:∀ W,Sm w cs W->w.heap.size<W.heap.size:=fun W h=>(Array.getElem?_eq_some_iff.1 h.1).1;refine wp_region_held_drew (S:=Sm w cs) (by kernel_rfl) ⟨hv.1,X.below_drewN hv.2 1⟩ (fun hS=>?_);show wpAnyH _ _ _ _ _ 12 _ _ _;refine wpAnyH_take (i:=0) (v:=(.agg cs)) rfl (by kernel_rfl) (by kernel_rfl) (by kernel_rfl) (fun _ _ _ h=>hQ _ _ _ _ _ h) (tZ rfl 27 (.tmp 1) rfl w.heap.size rfl 27 _ (0,0) _ (fun W h=>h.1) underlying27 hi) hS ?_;refine wpAnyH_take (i:=2) (v:=pw w.heap.size) rfl (by kernel_rfl) (by kernel_rfl) (by kernel_rfl) (fun _ _ _ h=>hQ _ _ _ _ _ h) (.inl ⟨rfl,fun W hW=>Jy (.tmp 1) rfl w.heap.size rfl W⟩) hS ?_;refine wpAnyH_take (i:=3) (v:=(.int .u8 (k:Nat))) rfl (by kernel_rfl) (by kernel_rfl) (by kernel_rfl) (fun _ _ _ h=>hQ _ _ _ _ _ h) (.inl ⟨rfl,fun W hW=>Hs (.tmp 13) rfl w.heap.size rfl ((cell_of_row _ _ 0 _ _ _ hW.1).trans h0)⟩) hS ?_;refine wpAnyH_take (i:=4) (v:=(.bool sp)) rfl (by kernel_rfl) (by kernel_rfl) (by kernel_rfl) (fun _ _ _ h=>hQ _ _ _ _ _ h) (.inl ⟨rfl,fun W hW=>by rw[<-hsp];exact LR (.tmp 14) (.const (.int .u8 4)) rfl _ _ rfl rfl W⟩) hS ?_;show wpAnyH prog .any (lP ps) Q (Sm w cs) 8 #[true,false,true,true,true,false,false,false,false,false,false,false] (MA V0 (pw w.heap.size) V2 P3 V6 V7 V8 V9 undef undef undef (.agg cs) undef (pw w.heap.size) (.int .u8 (k:Nat)) (.bool sp) undef undef undef) _;refine wpAnyH_ready (rs:=[1,9]) (by kernel_rfl) (by decide) (AllReadyH.cons rfl (fun K hK=>?_) (AllReadyH.cons rfl (fun K hK=>?_) AllReadyH.nil))
 ·refine gE rfl 22 #[.tmp 11] #[27] rfl #[.agg cs] (by rw[map_toArray];rfl) (e1 _ _) (HT _ hS.2) ?_;rintro e W' ⟨⟨t,rfl,ht⟩,hb⟩;refine⟨_,rfl,hK.out _ _ (hS.step hb) (fun hS2=>?_)⟩;clear hS hb hK;show wpAnyH prog .any (lP ps) Q (Sm w cs) 7 #[true,true,true,true,true,false,false,false,false,false,false,false] (MA V0 (pw w.heap.size) V2 P3 V6 V7 V8 V9 undef undef undef (.agg cs) (.string t) (pw w.heap.size) (.int .u8 (k:Nat)) (.bool sp) undef undef undef) _;refine wpAnyH_ready (rs:=[5,9]) (by kernel_rfl) (by decide) (AllReadyH.cons rfl (fun K hK=>?_) (AllReadyH.cons rfl (fun K hK=>?_) AllReadyH.nil))
  ·refine gE rfl 20 #[.tmp 12,.tmp 15] #[9,4] rfl #[.string t,.bool sp] (by rw[map_toArray];rfl) (e2 _ _) (HC t _ ht hS2.2) ?_;rintro e W2 ⟨⟨x,n',h2,h3,rfl⟩,hb⟩;refine⟨_,rfl,hK.out _ _ (hS2.step hb) (fun hS=>?_)⟩;clear hS2 hb hK;show wpAnyH prog .any (lP ps) Q (Sm w cs) 6 #[true,true,true,true,true,true,false,false,false,false,false,false] (MA V0 (pw w.heap.size) V2 P3 V6 V7 V8 V9 undef undef undef (.agg cs) (.string t) (pw w.heap.size) (.int .u8 (k:Nat)) (.bool sp) (xtp x n') undef undef) _;refine wpAnyH_take (i:=6) (v:=(xtp x n')) rfl (by kernel_rfl) (by kernel_rfl) (by kernel_rfl) (fun _ _ _ h=>hQ _ _ _ _ _ h) (.inl ⟨rfl,fun W hW=>rfl⟩) hS ?_;refine wpAnyH_take (i:=7) (v:=(.agg (xcs x n'))) rfl (by kernel_rfl) (by kernel_rfl) (by kernel_rfl) (fun _ _ _ h=>hQ _ _ _ _ _ h) (.inl ⟨rfl,fun W hW=>rfl⟩) hS ?_;refine wpAnyH_take (i:=8) (v:=(.int .i64 x.2.2.2.2)) rfl (by kernel_rfl) (by kernel_rfl) (by kernel_rfl) (fun _ _ _ h=>hQ _ _ _ _ _ h) (.inl ⟨rfl,fun W hW=>rfl⟩) hS ?_;show wpAnyH prog .any (lP ps) Q (Sm w cs) 3 #[true,true,true,true,true,true,true,true,true,false,false,false] (MA V0 (pw w.heap.size) V2 P3 V6 V7 V8 V9 undef undef (xtp x n') (.agg cs) (.string t) (pw w.heap.size) (.int .u8 (k:Nat)) (.bool sp) (xtp x n') (.agg (xcs x n')) (.int .i64 x.2.2.2.2)) _;refine wpAnyH_ready (rs:=[9]) (by kernel_rfl) (by decide) (AllReadyH.cons rfl (fun K hK=>?_) AllReadyH.nil);refine nX rfl rfl (hK.out _ _ (hS.new _) (fun hS2=>?_));exact TAIL t x n' _ _ ht h2 h3 (hgt _ hS) (X.ck _ _ _) hS2
  ·refine nX rfl rfl (hK.out _ _ (hS2.new _) (fun hS=>?_));exact H5 t _ _ ht (hgt _ hS2) (X.ck _ _ _) hS
 ·refine nX rfl rfl (hK.out _ _ (hS.new _) (fun hS2=>?_));have hg:=hgt _ hS;have hr:(World.alloc v.drew (Obj.cells zhs 27)).heap[v.drew.heap.size]? = some (.cells zhs 27 (0,0)):=X.ck v.drew _ _;generalize v.drew.alloc (Obj.cells zhs 27)=W1 at hS2 hr ⊢;generalize v.drew.heap.size=g at hg hr ⊢;clear hS hK;show wpAnyH prog .any (lP ps) Q (Sm w cs) 7 #[true,false,true,true,true,false,false,false,false,true,false,false] (MA V0 (pw w.heap.size) V2 P3 V6 V7 V8 V9 (pw g) undef undef (.agg cs) undef (pw w.heap.size) (.int .u8 (k:Nat)) (.bool sp) undef undef undef) W1;refine wpAnyH_ready (rs:=[1]) (by kernel_rfl) (by decide) (AllReadyH.cons rfl (fun K hK=>?_) AllReadyH.nil);refine gE rfl 22 #[.tmp 11] #[27] rfl #[.agg cs] (by rw[map_toArray];rfl) (e1 _ _) (HT _ hS2.2) ?_;rintro e W' ⟨⟨t,rfl,ht⟩,hb⟩;refine⟨_,rfl,hK.out _ _ (hS2.step hb) (fun hS=>?_)⟩;exact H5 t g W' ht hg ((hb.block _ (Array.getElem?_eq_some_iff.1 hr).1).trans hr) hS
set_option linter.unusedSimpArgs false
theorem HP.nlen{A:List Int->List Int->Int->Prop}(hA:Asc A){s:List Int}{sp:Bool}{h:Hst}(hb:U.Bytes s)(x:HP A s sp h):h.2.1.length<=400000000:=by
 unfold HP at x;split at x
 ·rw[x];unfold non;simp
 rename_i hl;split at x
 ·unfold six at x;split at x
  ·cases hp:X.prs ((s.drop 1).dropLast) with
   | none=>rw[hp]at x;rw[x];unfold non;simp
   | some a=>rw[hp]at x;rw[x];simp
  ·rw[x];unfold non;simp
 split at x
 ·unfold opq at x;split at x
  ·rw[x];unfold non;simp
  split at x
  ·rw[x];unfold non;simp
  ·rw[x];have h1:=E.yJ 0 (U.dec s);have h2:=U.dK s.length s (le_refl _) hb;show(E.en 0 (U.dec s)).length<=_;omega
 ·obtain⟨d,r,h1,rfl⟩:=x;unfold dom;split
  ·unfold non;simp
  rename_i hn;split
  ·split
   ·simp
   ·unfold non;simp
  ·have hr:r=0:=Decidable.byContradiction fun e=>hn (.inl e);rw[hr]at h1;have h2:=E.tC s.length s (le_refl _);have h3:=hA.len h1 (E.lj s.length s (le_refl _) hb) (by omega);show d.length<=_;omega
structure DL(h:Hst):Prop where
 k:h.1<=4
 f:h.2.2.1<4294967296
 a:h.2.2.2.1.length=8
 s:X.Small h.2.2.2.1
 e:h.2.2.2.2≠0->h=non h.2.2.2.2
 b:0<=h.2.2.2.2/\h.2.2.2.2<=70
 n:h.2.1=txt h\/h.2.1=[]
theorem eS{e:Int}(h0:0<=e)(h1:e<=70):DL (non e):=⟨zero_le _,by show 0<4294967296;decide,rfl,dN,fun _=>rfl,⟨h0,h1⟩,.inr rfl⟩
theorem HP.fine{A:List Int->List Int->Int->Prop}{s:List Int}{sp:Bool}{h:Hst}(x:HP A s sp h):DL h:=by
 unfold HP at x;split at x
 ·rw[x];exact eS (by decide) (by decide)
 split at x
 ·unfold six at x;split at x
  ·cases hp:X.prs ((s.drop 1).dropLast) with
   | none=>rw[hp]at x;rw[x];exact eS (by decide) (by decide)
   | some a =>
    rw[hp]at x;rw[x];exact⟨by simp,by simp,X.mR hp,X.lJ hp,fun h=>absurd rfl h,by simp,.inr rfl⟩
  ·rw[x];exact eS (by decide) (by decide)
 split at x
 ·unfold opq at x;split at x
  ·rw[x];exact eS (by decide) (by decide)
  ·split at x
   ·rw[x];exact eS (by decide) (by decide)
   ·rw[x];exact⟨by simp,by simp,rfl,dN,fun h=>absurd rfl h,by simp,.inl rfl⟩
 ·obtain⟨d,r,_,x⟩:=x;unfold dom at x;split at x
  ·rw[x];exact eS (by decide) (by decide)
  ·split at x
   ·split at x
    ·rename_i hp;rw[x];exact⟨by simp,sH d hp,rfl,dN,fun h=>absurd rfl h,by simp,.inr rfl⟩
    ·rw[x];exact eS (by decide) (by decide)
   ·rw[x];exact⟨by simp,by simp,rfl,dN,fun h=>absurd rfl h,by simp,.inl rfl⟩
theorem eight{a:List Nat}(h:a.length=8):∃ a0 a1 a2 a3 a4 a5 a6 a7,a=[a0,a1,a2,a3,a4,a5,a6,a7]:=by
 match a,h with
 | [a0,a1,a2,a3,a4,a5,a6,a7],_=>exact⟨a0,a1,a2,a3,a4,a5,a6,a7,rfl⟩
theorem Ci{A:List Int->List Int->Int->Prop}{s:List Int}{sp:Bool}{h:Hst}(x:HP A s sp h)(h0:h.2.2.2.2=0)(hk:h.1=0):h=non 0:=by
 unfold HP at x;split at x
 ·rw[x]at h0;cases h0
 split at x
 ·unfold six at x;split at x
  ·split at x
   ·rw[x]at hk;cases hk
   ·rw[x]at h0;cases h0
  ·rw[x]at h0;cases h0
 split at x
 ·unfold opq at x;split at x
  ·rw[x]at h0;cases h0
  ·split at x
   ·exact x
   ·rw[x]at hk;cases hk
 ·obtain⟨d,r,_,x⟩:=x;unfold dom at x;split at x
  ·rw[x]at h0;cases h0
  ·split at x
   ·split at x
    ·rw[x]at hk;cases hk
    ·rw[x]at h0;cases h0
   ·rw[x]at hk;cases hk
theorem aL(s:ByteArray):U.Bytes (bn s):=by intro b hb;unfold F.bn at hb;obtain⟨c,_,rfl⟩:=List.mem_map.1 hb;have:=c.toNat_lt;omega
end H
end Go.Proofs.YtmkompnhefhngaaGreatDoor
namespace Go.Proofs
open Go.Shelf Go.RowKit
shelf_lay LaysM.n288 Nm 288 at Tryz as Tryz.laysAppU
end Go.Proofs
namespace Go.Proofs.YtmkompnhefhngaaGreatDoor
open Tryz Go.RowKit
namespace F
theorem Tryz.info5:(prog.info? 5).map (fun i=>(i.zero,i.size,i.bytes))=some (some (.int .u8 0),1,1):=by kernel_rfl
theorem dh{base n:Nat}{v:Value}{X:List Value}{W:World}(h:W.ownsRow base 5 1 v n X):∃ a cap,v=.slice a n cap:=by
 rcases h.2 with⟨rfl,h0⟩ | ⟨g,cap,cur,rfl,_⟩
 ·exact⟨none,0,by rw[h0]⟩
 ·exact⟨_,cap,rfl⟩
def Bytes(l:List Int):Prop:=∀ b∈l,0<=b/\b<=255
theorem dB:∀(ns:List Int),Bytes ns->(((ns.map fun n=>UInt8.ofNat n.toNat).toArray).toList.map fun c=>(c.toNat:Int))=ns
 | [],_=>rfl
 | a::l,h=>by have ih:=dB l (fun b hb=>h b (by simp[hb]));have ha:=h a (by simp);simp only[map_cons]at ih ⊢;rw[ih];congr 1;simp only[UInt8.toNat_ofNat'];omega
theorem gy(g j:Nat):((⟨g,0,none⟩:Addr).add j)=⟨g,j,none⟩:=by simp[Addr.add];exact fun h=>h.symm
theorem bB(w:World)(base:Nat)(v:Value)(n:Nat)(ns:List Int)(hn:n=ns.length)(hb:Bytes ns)(aq:w.ownsRow base 5 1 v n (ns.map (Value.int .u8))):
  ∃ t:ByteArray,(convert 36 9 v).run prog w=.ok (.string t) w/\bn t=ns:=by
 subst hn;rcases id aq.2 with⟨rfl,h0⟩ | ⟨g,cap,cur,rfl,_⟩
 ·refine⟨⟨#[]⟩,?_,?_⟩
  ·rw[run_convert_bytes_string w 36 9 5 none 0 0 underlying36 underlying5 underlying9];simp[Conv.bytesToString];rfl
  ·rw[List.length_eq_zero_iff.1 h0];rfl
 ·refine⟨⟨(ns.map fun n=>UInt8.ofNat n.toNat).toArray⟩,?_,?_⟩
  ·have:=run_convert_bytes_back (P:=prog) w 36 9 5 ⟨g,0,none⟩ cap (ns.map fun n=>UInt8.ofNat n.toNat) underlying36 underlying5 underlying9 (by
     intro j hj
     rw[gy,aq.cellAt j (by simpa using hj)]
     have hj':j<ns.length:=by simpa using hj
     have hbj:=hb ns[j] (getElem_mem hj')
     rw[getElem?_map,getElem?_eq_getElem hj']
     simp only[Option.map_some,List.getElem_map,UInt8.toNat_ofNat']
     congr 2
     omega)
   rw[length_map]at this;exact this
  ·unfold bn;simp only;exact dB ns hb
theorem Jb{u:Nat}(h:u<256):Lib.byteCells (Lib.decDigits u)=(wr 10 u).map (Value.int .u8):=by rw[<-yR ⟨u,h⟩];unfold Lib.byteCells;rw[List.map_map];rfl
theorem dK{u:Nat}(h:u<256):(Lib.decDigits u).length=(wr 10 u).length:=by rw[<-yR ⟨u,h⟩,length_map]
theorem DT{u:Nat}(h:u<256):Bytes (wr 10 u):=by rw[<-yR ⟨u,h⟩];intro b hb;obtain⟨c,_,rfl⟩:=List.mem_map.1 hb;have:=c.toNat_lt;omega
theorem nH:∀ u:Fin 256,(wr 10 u.val).length<=3:=by decide +kernel
theorem Jq(B m u c:Nat)(a:Option Addr)(X:List Int)(hu:u<256)(w:World)(hp:Pow w)(hB:B<=w.heap.size)(hm:m<=1000)(hown:w.ownsRow B 5 1 (.slice a m c) m (X.map (Value.int .u8))):
  Calls prog 130 #[.slice a m c,.int .u64 u,.int .i64 10] w fun e W'=>(∃ a' c',e=.returned (.slice a' (m+(wr 10 u).length) c')/\W'.ownsRow B 5 1 (.slice a' (m+(wr 10 u).length) c') (m+(wr 10 u).length) ((X++wr 10 u).map (Value.int .u8)))/\Below B w W':=by
 have hf:Tryz.laysAppU_ren.f 288=130:=by kernel_rfl
 have ht:Tryz.laysAppU_ren.t 5=5:=by kernel_rfl
 have key:Calls prog 130 #[.slice a m c,.int .u64 u,.int .i64 10] w fun e w'=>∃ v',e=.returned v'/\w'.ownsRow B 5 1 v' (m+(Lib.decDigits u).length) (X.map (Value.int .u8)++Lib.byteCells (Lib.decDigits u))/\Below B w w':=by
  rw[<-hf,<-ht];rw[<-ht]at hown;by_cases h:u<100
  ·refine(Any.internal_strconv_AppendUint_10_small Tryz.laysAppU B m u h _ _ w hown hB (by omega)).mono ?_;rintro e w' ⟨v,h1,h2,h3,_⟩;exact⟨v,h1,h2,h3⟩
  ·refine(Any.internal_strconv_AppendUint_10_big Tryz.laysAppU B m u (by omega) (by omega) _ _ w hown hB (by omega) ?_).mono ?_
   ·unfold Lib.TabIs World.var?;rw[show prog.globalNamed _=some 3 from by kernel_rfl];exact hp
   ·rintro e w' ⟨v,h1,h2,h3,_⟩;exact⟨v,h1,h2,h3⟩
 refine key.mono ?_;rintro e w' ⟨v,rfl,h2,h3⟩;rw[Jb hu,dK hu,<-map_append]at h2;obtain⟨a',c',rfl⟩:=dh h2;exact⟨⟨a',c',rfl,h2⟩,h3⟩
theorem Jp(B m u c:Nat)(a:Option Addr)(X:List Int)(hu:u<256)(w:World)(hp:Pow w)(hB:B<=w.heap.size)(hm:m<=1000)(hown:w.ownsRow B 5 1 (.slice a m c) m (X.map (Value.int .u8))):
  Calls prog 70 #[.slice a m c,.int .u64 u,.int .i64 10] w fun e W'=>(∃ a' c',e=.returned (.slice a' (m+(wr 10 u).length) c')/\W'.ownsRow B 5 1 (.slice a' (m+(wr 10 u).length) c') (m+(wr 10 u).length) ((X++wr 10 u).map (Value.int .u8)))/\Below B w W':=by
 have H:=hid (Jq B m u c a X hu w hp hB hm hown);clear hp hown hB;go_enter func70,ntmps70;go_wp2_with(go_at_call 130;refine H.out.mono ?_;rintro e w4 ⟨⟨q4,c4,rfl,r4⟩,B4⟩);go_ret;exact⟨⟨q4,c4,rfl,r4⟩,B4⟩
def pd(a:Nat):Nat->List Int
 | 0=>[]
 | k+1=>pd a k++(if 0<k then [46] else [])++wr 10 (byt a k)
theorem OX{a:Nat}(ha:a<4294967296):pd a 4=txt a:=by
 have b0:byt a 0=a / 16777216:=by show a / 16777216 % 256=_;omega
 have b1:byt a 1=a / 65536 % 256:=rfl;have b2:byt a 2=a / 256 % 256:=rfl;have b3:byt a 3=a % 256:=by show a / 1 % 256=_;omega
 have e:pd a 4=(((([]++[]++wr 10 (byt a 0))++[46]++wr 10 (byt a 1))++[46])++wr 10 (byt a 2))++[46]++wr 10 (byt a 3):=rfl;have f:txt a=wr 10 (a / 16777216)++46::(wr 10 (a / 65536 % 256)++46::(wr 10 (a / 256 % 256)++46::wr 10 (a % 256))):=rfl;rw[e,f,b0,b1,b2,b3];simp
theorem uP(a:Nat):∀ k,Bytes (pd a k)
 | 0=>fun b hb=>by simp[pd]at hb
 | k+1=>fun b hb=>by
  rw[pd,List.mem_append,List.mem_append]at hb;rcases hb with(hb | hb) | hb
  ·exact uP a k b hb
  ·split at hb
   ·simp at hb;omega
   ·simp at hb
  ·exact DT (mod_lt _ (by decide)) b hb
theorem iu(a:Nat)(ha:a<4294967296)(w:World)(hp:Pow w):
  Calls prog 37 #[.int .u32 a] w fun e W'=>mK a w e W':=by
 obtain⟨i0,hi,hz0,hz1,hz2⟩:=info_parts Tryz.info5;have HAP:=hid Jp;have HWS:=hid nH;have HGS:Hid (∀ e W,((∃ t,e=.returned (.string t)/\bn t=pd a 4)/\Below w.heap.size w W)->mK a w e W):=fun e W h=>by rw[OX ha]at h;exact h
 have hgs:=hp.size;have HPW:Hid (∀ W,Below w.heap.size w W->Pow W):=fun W h=>hp.below hgs h;clear hp;go_enter func37,ntmps37;go_wp2_with fail
 go_loopw [3,5] (fun v3 v5 wr=>∃(k m c:Nat) (q:Option Addr),k<=4/\m<=4 * k/\v3=.slice q m c/\v5=.int .i64 (k:Int)/\Hid (m=(pd a k).length)/\Hid (wr.ownsRow w.heap.size 5 1 (.slice q m c) m ((pd a k).map (Value.int .u8)))/\Hid (Below w.heap.size w wr)) (fun _ v5 _=>(4 - intOf v5).toNat)
 case atStart=>exact⟨0,0,0,none,by omega,by omega,rfl,rfl,rfl,ownsRow_nil _ _ _ _,Below.refl _ _⟩
 case round =>
  obtain⟨k,m,c,q,hk,hmk,rfl,rfl,HM,HR,HB⟩:=hrel;have zj:=HB.out.size;obtain rfl | rfl | rfl | rfl | rfl:k=0\/k=1\/k=2\/k=3\/k=4:=by omega
  ·have HPN:Hid (pd a 1=pd a 0++[]++F.wr 10 (byt a 0)):=rfl;have hb:byt a 0<256:=mod_lt _ (by decide);have hbz:((byt a 0:Nat):Int)=((a:Int) / 16777216) % 256:=by show((a / 16777216 % 256:Nat):Int)=_;omega
   have hws:=HWS.out ⟨byt a 0,hb⟩;have hws':(F.wr 10 (byt a 0)).length<=3:=hws;obtain⟨y,hy⟩:=Ex' (byt a 0);have hmod:((a:Int) / 16777216) % 256=(y:Int):=by rw[<-hbz,hy]
   have hwr:IntKind.u8.wrap ((a:Int) / 16777216)=(y:Int):=by rw[<-hmod];simp[IntKind.wrap,IntKind.bits,IntKind.signed]
   rw[hy]at hb HPN hws';clear hy hbz hws HWS;have hm0:m=0:=by omega
   have HP:=hid (HPW.out _ HB.out);have HA:=hid (HAP.out w.heap.size m y c q (pd a 0) hb wr HP.out HB.out.size (by omega) HR.out);clear hm0;go_wp2_with(go_at_call 70;refine HA.out.mono ?_;rintro e w4 ⟨⟨q4,c4,rfl,r4⟩,B4⟩)
   go_roundw
   case rel=>exact⟨1,_,c4,q4,by omega,by omega,rfl,by go_num,by show _=_;rw[HPN.out,length_append,length_append,HM.out];simp,by show World.ownsRow _ _ _ _ _ _ _;rw[HPN.out,List.append_nil];exact r4,HB.out.trans B4⟩
   case measure=>simp[intOf]
  focus
   have hmod:((a:Int) / 65536) % 256=(byt a 1:Nat):=by show _=((a / 65536 % 256:Nat):Int);omega
   have hwr:IntKind.u8.wrap ((a:Int) / 65536)=(byt a 1:Nat):=by rw[<-hmod];simp[IntKind.wrap,IntKind.bits,IntKind.signed]
   obtain⟨k2,HK2,HPN⟩:∃ k2,Hid (k2=2)/\Hid (pd a k2=pd a 1++[46]++F.wr 10 (byt a 1)):=⟨2,rfl,rfl⟩;have hb:byt a 1<256:=mod_lt _ (by decide);generalize byt a 1=y at *;generalize pd a 1=L at HPN HM HR
  rotate_left
  focus
   have hmod:((a:Int) / 256) % 256=(byt a 2:Nat):=by show _=((a / 256 % 256:Nat):Int);omega
   have hwr:IntKind.u8.wrap ((a:Int) / 256)=(byt a 2:Nat):=by rw[<-hmod];simp[IntKind.wrap,IntKind.bits,IntKind.signed]
   obtain⟨k2,HK2,HPN⟩:∃ k2,Hid (k2=3)/\Hid (pd a k2=pd a 2++[46]++F.wr 10 (byt a 2)):=⟨3,rfl,rfl⟩;have hb:byt a 2<256:=mod_lt _ (by decide);generalize byt a 2=y at *;generalize pd a 2=L at HPN HM HR
  rotate_left
  focus
   have hmod:(a:Int) % 256=(byt a 3:Nat):=by show _=((a / 1 % 256:Nat):Int);omega
   have hwr:IntKind.u8.wrap (a:Int)=(byt a 3:Nat):=by rw[<-hmod];simp[IntKind.wrap,IntKind.bits,IntKind.signed]
   obtain⟨k2,HK2,HPN⟩:∃ k2,Hid (k2=4)/\Hid (pd a k2=pd a 3++[46]++F.wr 10 (byt a 3)):=⟨4,rfl,rfl⟩;have hb:byt a 3<256:=mod_lt _ (by decide);generalize byt a 3=y at *;generalize pd a 3=L at HPN HM HR
  rotate_left
  ·obtain⟨t,hcv,htb⟩:=bB wr w.heap.size _ _ (pd a 4) HM.out (uP a 4) HR.out;have HTB:=hid htb;clear htb HM HR HAP HWS HPW;go_wp2;go_ret;exact HGS.out _ _ ⟨⟨t,rfl,HTB.out⟩,HB.out⟩
  all_goals
   have hws':(F.wr 10 y).length<=3:=HWS.out ⟨y,hb⟩;clear HWS
   go_wp2_with(first
     | (at_builtin;refine wpList_append_own _ rfl _ _ 36 rfl w.heap.size 5 i0 (.int .u8 0) 1 1 underlying36 hi hz0 hz1 hz2 rfl (by decide) _ _ _ rfl (HR.out.alloc _) ⟨wr.heap.size,0,none⟩ 1 1 [.int .u8 46] rfl rfl (GP _ _ _) (by simp[Value.oneCell']) (by unfold maxLen;omega) (by omega) (by simp;omega) ?_;intro v3 w3 r3 g3 _;obtain⟨a3,c3,rfl⟩:=dh r3;have HR3:Hid (w3.ownsRow w.heap.size 5 1 (.slice a3 (m+1) c3) (m+1) ((L++[46]).map (Value.int .u8))):=(by show World.ownsRow _ _ _ _ _ _ _;rw[map_append];exact r3);have HB3:=hid (below_grow (w1:=wr.alloc (.cells #[.int .u8 46] 5)) (HB.out.alloc HB.out.size _) (le_trans HB.out.size (by simp)) (HR.out.alloc _) g3);clear r3 g3)
     | (go_at_call 70;refine(HAP.out w.heap.size (m+1) y c3 a3 (L++[46]) hb w3 (HPW.out _ HB3.out) HB3.out.size (by omega) HR3.out).mono ?_;rintro e w4 ⟨⟨q4,c4,rfl,r4⟩,B4⟩))
   go_roundw
   case rel=>exact⟨k2,_,c4,q4,by have:=HK2.out;omega,by have:=HK2.out;omega,rfl,by rw[HK2.out];go_num,by show _=_;rw[HPN.out,length_append,length_append,HM.out];rfl,by show World.ownsRow _ _ _ _ _ _ _;rw[HPN.out];exact r4,HB3.out.trans B4⟩
   case measure=>simp[intOf]
end F
end Go.Proofs.YtmkompnhefhngaaGreatDoor
