/- What the walks of stage 10 want of the program (Ctr), and works over it. -/
import Derived.Test.YtklplalfcpigcaaDoorFH
import Derived.Test.YtklplalfcpigcaaDoorFT
namespace Go.Proofs.YtklplalfcpigcaaDoor.F
open Go.RowKit
set_option linter.unusedVariables false

/-- What the four functions answer, where G holds of the world (the tables that they read lie as the text lays them). -/
structure Ctr (G : World → Prop) : Prop where
  keep : ∀ (w w' : World), G w → Below w.heap.size w w' → G w'
  cn : ∀ (s : ByteArray) (w : World), s.size ≤ 100000 → G w → Calls Tryd.prog 8 #[.string s] w fun e W' => e = .returned (.tuple #[.int .u64 ((num (bn s)).1 : Nat), .int .i64 (num (bn s)).2]) ∧ Below w.heap.size w W'
  ce : ∀ (s : ByteArray) (w : World), s.size ≤ 100000 → G w → Calls Tryd.prog 12 #[.string s] w fun e W' => e = .returned (.bool (ends (bn s))) ∧ Below w.heap.size w W'
  cp : ∀ (s : ByteArray) (w : World), s.size ≤ 100000 → G w → Calls Tryd.prog 10 #[.string s] w fun e W' => ParR (bn s) w e W'
  ct : ∀ (a : Nat) (w : World), a < 4294967296 → G w → Calls Tryd.prog 14 #[.int .u32 a] w fun e W' => TxtR a w e W'
theorem Ctr.cnIs {G : World → Prop} (C : Ctr G) {s : ByteArray} {x : Nat} {y : Int} (hs : s.size ≤ 100000) (h : num (bn s) = (x, y)) (W : World) (hG : G W) : Calls Tryd.prog 8 #[.string s] W fun e W' => e = .returned (.tuple #[.int .u64 x, .int .i64 y]) ∧ Below W.heap.size W W' :=
  (C.cn s W hs hG).mono (by
    rintro e W' ⟨rfl, hB⟩
    rw [h]; exact ⟨rfl, hB⟩)
theorem Ctr.cpIs {G : World → Prop} (C : Ctr G) {s : ByteArray} {x : Nat} {y : Int} (hs : s.size ≤ 100000) (h : prs (bn s) = (x, y)) (W : World) (hG : G W) : Calls Tryd.prog 10 #[.string s] W fun e W' => e = .returned (.tuple #[.int .u32 x, .int .i64 y]) ∧ Below W.heap.size W W' :=
  (C.cp s W hs hG).mono (by
    rintro e W' ⟨rfl, hB⟩
    rw [h]; exact ⟨rfl, hB⟩)
theorem Ctr.ceIs {G : World → Prop} (C : Ctr G) {s : ByteArray} {b : Bool} (hs : s.size ≤ 100000) (h : ends (bn s) = b) (W : World) (hG : G W) : Calls Tryd.prog 12 #[.string s] W fun e W' => e = .returned (.bool b) ∧ Below W.heap.size W W' :=
  (C.ce s W hs hG).mono (by
    rintro e W' ⟨rfl, hB⟩
    rw [h]; exact ⟨rfl, hB⟩)
theorem Ctr.ctIs {G : World → Prop} (C : Ctr G) {a : Nat} {t : ByteArray} (ha : a < 4294967296) (h : txt a = bn t) (W : World) (hG : G W) : Calls Tryd.prog 14 #[.int .u32 a] W fun e W' => e = .returned (.string t) ∧ Below W.heap.size W W' :=
  (C.ct a W ha hG).mono (by
    rintro e W' ⟨⟨u, rfl, hu⟩, hB⟩
    obtain rfl := bn_inj (hu.trans h)
    exact ⟨rfl, hB⟩)
theorem self_eq (t : ByteArray) : (t.toList == t.toList) = true := same_eq rfl
def x1 : ByteArray := ⟨#[48, 120, 55, 102, 46, 49]⟩
def x2 : ByteArray := ⟨#[50, 53, 54, 46, 49]⟩
def x3 : ByteArray := ⟨#[48, 56]⟩
def x4 : ByteArray := ⟨#[49, 50, 55, 46, 48, 46, 48, 46, 49]⟩
def x5 : ByteArray := ⟨#[97, 46, 48, 120]⟩
def x6 : ByteArray := ⟨#[49, 46, 97]⟩
set_option maxRecDepth 100000 in
set_option maxHeartbeats 4000000 in
theorem works_any {G : World → Prop} (C : Ctr G) (w : World) (hG : G w) : Calls Tryd.prog 7 #[] w fun e W' => e = .returned (.bool true) ∧ Below w.heap.size w W' := by
  have H1 : Hid (∀ W, G W → Calls Tryd.prog 10 #[.string ⟨#[48, 120, 55, 102, 46, 49]⟩] W fun e W' => e = .returned (.tuple #[.int .u32 2130706433, .int .i64 0]) ∧ Below W.heap.size W W') := fun W h => C.cpIs (s := x1) (x := 2130706433) (y := 0) (by decide) (by decide +kernel) W h
  have H2 : Hid (∀ W, G W → Calls Tryd.prog 10 #[.string ⟨#[50, 53, 54, 46, 49]⟩] W fun e W' => e = .returned (.tuple #[.int .u32 0, .int .i64 4]) ∧ Below W.heap.size W W') := fun W h => C.cpIs (s := x2) (x := 0) (y := 4) (by decide) (by decide +kernel) W h
  have H3 : Hid (∀ W, G W → Calls Tryd.prog 10 #[.string ⟨#[48, 56]⟩] W fun e W' => e = .returned (.tuple #[.int .u32 0, .int .i64 8]) ∧ Below W.heap.size W W') := fun W h => C.cpIs (s := x3) (x := 0) (y := 8) (by decide) (by decide +kernel) W h
  have H4 : Hid (∀ W, G W → Calls Tryd.prog 14 #[.int .u32 2130706433] W fun e W' => e = .returned (.string ⟨#[49, 50, 55, 46, 48, 46, 48, 46, 49]⟩) ∧ Below W.heap.size W W') := fun W h => C.ctIs (a := 2130706433) (t := x4) (by decide) (by decide +kernel) W h
  have H5 : Hid (∀ W, G W → Calls Tryd.prog 12 #[.string ⟨#[97, 46, 48, 120]⟩] W fun e W' => e = .returned (.bool true) ∧ Below W.heap.size W W') := fun W h => C.ceIs (s := x5) (by decide) (by decide +kernel) W h
  have H6 : Hid (∀ W, G W → Calls Tryd.prog 12 #[.string ⟨#[49, 46, 97]⟩] W fun e W' => e = .returned (.bool false) ∧ Below W.heap.size W W') := fun W h => C.ceIs (s := x6) (by decide) (by decide +kernel) W h
  have HB : Hid (Below w.heap.size w w) := Below.refl _ _
  have HK : Hid (∀ W, Below w.heap.size w W → G W) := fun W h => C.keep w W hG h
  have e1 := self_eq ⟨#[49, 50, 55, 46, 48, 46, 48, 46, 49]⟩
  clear C hG
  go_enter Tryd.func7, Tryd.ntmps7
  go_wp2_with fail
  refine (H1.out _ (HK.out _ HB.out)).mono ?_
  rintro e w' ⟨rfl, B⟩
  replace HB := hid (HB.out.trans (B.mono HB.out.size))
  clear B H1
  go_wp2_with fail
  refine (H2.out _ (HK.out _ HB.out)).mono ?_
  rintro e w' ⟨rfl, B⟩
  replace HB := hid (HB.out.trans (B.mono HB.out.size))
  clear B H2
  go_wp2_with fail
  refine (H3.out _ (HK.out _ HB.out)).mono ?_
  rintro e w' ⟨rfl, B⟩
  replace HB := hid (HB.out.trans (B.mono HB.out.size))
  clear B H3
  go_wp2_with fail
  refine (H4.out _ (HK.out _ HB.out)).mono ?_
  rintro e w' ⟨rfl, B⟩
  replace HB := hid (HB.out.trans (B.mono HB.out.size))
  clear B H4
  go_wp2_with fail
  refine (H5.out _ (HK.out _ HB.out)).mono ?_
  rintro e w' ⟨rfl, B⟩
  replace HB := hid (HB.out.trans (B.mono HB.out.size))
  clear B H5
  go_wp2_with fail
  refine (H6.out _ (HK.out _ HB.out)).mono ?_
  rintro e w' ⟨rfl, B⟩
  replace HB := hid (HB.out.trans (B.mono HB.out.size))
  clear B H6
  go_wp2
  go_ret
  exact ⟨rfl, HB.out⟩
/-! ### FourTells -/
set_option maxRecDepth 100000 in
set_option maxHeartbeats 4000000 in
theorem tells_walk {G : World → Prop} (C : Ctr G) (s : ByteArray) (d : Int) (w : World) (hG : G w) (hP : Pow w) (hs : s.size ≤ maxLen) (hd : (Lit.int .u32 d).wf = true) :
    Calls Tryd.prog 3 #[.string s, .int .u32 d] w fun e W' => e = .returned (.bool true) ∧ Below w.heap.size w W' := by
  unfold maxLen at hs
  have hd2 : 0 ≤ d ∧ d ≤ 4294967295 := by
    simp [Lit.wf, IntKind.min, IntKind.max, IntKind.bits, IntKind.signed] at hd
    omega
  obtain ⟨a, rfl⟩ : ∃ a : Nat, d = (a : Int) := ⟨d.toNat, by omega⟩
  have ha : a < 4294967296 := by omega
  have HK : Hid (∀ W, Below w.heap.size w W → G W) := fun W h => C.keep w W hG h
  have HPW : Hid (∀ W, Below w.heap.size w W → Pow W) := fun W h => hP.below hP.size h
  have HW : Hid (∀ W, G W → _) := fun W h => works_any C W h
  clear hd hd2
  by_cases h1 : 8192 < s.size
  · have HW0 := hid (HW.out w hG)
    go_enter Tryd.func3, Tryd.ntmps3
    go_wp2_with (go_at_call 7; refine HW0.out.mono ?_; rintro e w1 ⟨rfl, B1⟩)
    go_ret
    exact ⟨rfl, B1⟩
  have h1z : (s.size : Int) ≤ 8192 := by omega
  have H1 : Hid (∀ W, G W → _) := fun W h => C.cn s W (by omega) h
  have H2 := hid (fun W => rnumber_any s W (by omega))
  have H3 : Hid (∀ W, G W → _) := fun W h => C.cp s W (by omega) h
  have H4 := hid (fun W => rparse_any s W (by omega))
  have H5 : Hid (∀ W, G W → _) := fun W h => C.ce s W (by omega) h
  have H6 := hid (fun W => rends_any s W (by omega))
  have H7 : Hid (∀ W, G W → _) := fun W h => C.ct a W ha h
  have H8 : Hid (∀ W, Pow W → _) := fun W h => rtext_any a ha W h
  unfold ParR at H3 H4
  unfold NumR at H2
  obtain ⟨n1, q1⟩ : ∃ x, (num (bn s)).1 = x := ⟨_, rfl⟩
  obtain ⟨n2, q2⟩ : ∃ x, (num (bn s)).2 = x := ⟨_, rfl⟩
  obtain ⟨p1, q3⟩ : ∃ x, (prs (bn s)).1 = x := ⟨_, rfl⟩
  obtain ⟨p2, q4⟩ : ∃ x, (prs (bn s)).2 = x := ⟨_, rfl⟩
  rw [q1, q2] at H1 H2
  rw [q3, q4] at H3 H4
  obtain ⟨b, hb⟩ : ∃ b, ends (bn s) = b := ⟨_, rfl⟩
  rw [hb] at H5 H6
  have hbb : (b == b) = true := by cases b <;> rfl
  have HB : Hid (Below w.heap.size w w) := Below.refl _ _
  clear hb C hG hP q1 q2 q3 q4
  go_enter Tryd.func3, Tryd.ntmps3
  go_wp2_with fail
  refine (H1.out _ (HK.out _ HB.out)).mono ?_
  rintro e w' ⟨rfl, B⟩
  replace HB := hid (HB.out.trans (B.mono HB.out.size))
  clear B H1
  go_wp2_with fail
  refine (H2.out _).mono ?_
  rintro e w' ⟨rfl, hw'⟩
  obtain rfl := hw'.symm
  clear H2
  go_wp2_with fail
  refine (H3.out _ (HK.out _ HB.out)).mono ?_
  rintro e w' ⟨rfl, B⟩
  replace HB := hid (HB.out.trans (B.mono HB.out.size))
  clear B H3
  go_wp2_with fail
  refine (H4.out _).mono ?_
  rintro e w' ⟨rfl, B⟩
  replace HB := hid (HB.out.trans (B.mono HB.out.size))
  clear B H4
  go_wp2_with fail
  refine (H5.out _ (HK.out _ HB.out)).mono ?_
  rintro e w' ⟨rfl, B⟩
  replace HB := hid (HB.out.trans (B.mono HB.out.size))
  clear B H5
  go_wp2_with fail
  refine (H6.out _).mono ?_
  rintro e w' ⟨rfl, B⟩
  replace HB := hid (HB.out.trans (B.mono HB.out.size))
  clear B H6
  go_wp2_with fail
  refine (H7.out _ (HK.out _ HB.out)).mono ?_
  rintro e w' ⟨⟨x7, rfl, h7⟩, B⟩
  have HX7 := hid h7
  clear h7
  replace HB := hid (HB.out.trans (B.mono HB.out.size))
  clear B H7
  go_wp2_with fail
  refine (H8.out _ (HPW.out _ HB.out)).mono ?_
  rintro e w' ⟨⟨x8, rfl, h8⟩, B⟩
  have he : (x7.toList == x8.toList) = true := same_eq (HX7.out.trans h8.symm)
  clear h8 HX7
  replace HB := hid (HB.out.trans (B.mono HB.out.size))
  clear B H8
  go_wp2_with fail
  refine (HW.out _ (HK.out _ HB.out)).mono ?_
  rintro e w' ⟨rfl, B⟩
  replace HB := hid (HB.out.trans (B.mono HB.out.size))
  clear B HW
  go_wp2
  go_ret
  exact ⟨rfl, HB.out⟩
end Go.Proofs.YtklplalfcpigcaaDoor.F
