/- What the walks of stage 9 want of the program (Ctr), works, and PctJoins' and PctBack's walks over it. -/
import Derived.Test.YtnkbfpmaifgenaaEX
import Derived.Test.YtnkbfpmaifgenaaUL
import Derived.Test.YtnkbfpmaifgenaaUQ
import Derived.Test.YtnkbfpmaifgenaaUR
namespace Go.Proofs.Ytnkbfpmaifgenaa.U
open Go.RowKit
set_option linter.unusedVariables false
set_option maxRecDepth 100000 in
set_option maxHeartbeats 2000000 in
theorem refValid_any (s : ByteArray) (hs : s.size ≤ 17179869184) (w : World) :
    Calls Try.prog 12 #[.string s] w fun e W' => e = .returned (.bool (val (bn s))) ∧ Below w.heap.size w W' := by
  go_enter Try.func12, Try.ntmps12
  go_wp2_with fail
  go_loopw [0] (fun sv wr => ∃ (t : ByteArray), sv = .string t ∧ t.size ≤ s.size ∧ Hid (val (bn s) = val (bn t)) ∧ Below w.heap.size w wr) (fun sv _ => strLen sv)
  case atStart => exact ⟨s, rfl, Nat.le_refl _, rfl, Below.refl _ _⟩
  case round =>
    obtain ⟨t, rfl, hsz, HD, hB⟩ := hrel
    by_cases hp : 0 < t.size
    · have he : t.toList.isEmpty = false := isEmpty_false t hp
      have hnn := nx_n (bn t) (bn_ne t hp)
      rw [bn_length] at hnn
      have HC : Hid (val (bn t) = ((nx (bn t)).2.2 && val (bn (t.extract (nx (bn t)).2.1 t.size)))) := by
        show _ = _
        rw [val_cons _ (bn_ne t hp) (bn_bytes t), bn_extract]
      go_wp2_with fail
      refine (refNext_any _ _ (by omega)).mono ?_
      generalize nx (bn t) = x at hnn HC ⊢
      obtain ⟨r, n, b⟩ := x
      simp only at hnn HC ⊢
      rintro e w1 ⟨rfl, hB1⟩
      have B1 := hB.trans (hB1.mono hB.size)
      clear hB1 hB
      cases b with
      | false =>
        go_wp2
        go_ret
        exact ⟨ret_bool (by rw [HD.out, HC.out]; rfl), B1⟩
      | true =>
        go_wp2
        go_roundw
        case rel => exact ⟨t.extract n t.size, rfl, by simp; omega, by show _ = _; rw [HD.out, HC.out]; rfl, B1⟩
        case measure => simp [strLen]; omega
    · have he : t.toList.isEmpty = true := isEmpty_true t (by omega)
      have HE : Hid (val (bn s) = true) := by
        show _ = _
        rw [HD.out, List.length_eq_zero_iff.1 (show (bn t).length = 0 by rw [bn_length]; omega), val_nil]
      go_wp2
      go_ret
      exact ⟨ret_bool (by rw [HE.out]), hB⟩
end Go.Proofs.Ytnkbfpmaifgenaa.U
namespace Go.Proofs.Ytnkbfpmaifgenaa.E
open Go.RowKit
set_option linter.unusedVariables false

structure Ctr : Prop where
  inn : ∀ (r : Int) (k : Nat) (w : World), U.scal r = true → k ≤ 255 → Calls Try.prog 10 #[.int .i32 r, .int .u8 k] w fun e W' => e = .returned (.bool (inS r k)) ∧ Below w.heap.size w W'
  enc : ∀ (s : ByteArray) (k : Nat) (w : World), s.size ≤ 100000 → k ≤ 255 → Calls Try.prog 9 #[.string s, .int .u8 k] w fun e W' => EncR k (U.dec (U.bn s)) w e W'
  dec : ∀ (s : ByteArray) (w : World), s.size ≤ 100000 → Calls Try.prog 11 #[.string s] w fun e W' => DecR (U.bn s) w e W'
theorem self_eq (t : ByteArray) : (t.toList == t.toList) = true := by rw [U.str_eq_bn]; exact decide_eq_true rfl
theorem same_eq {a b : ByteArray} (h : U.bn a = U.bn b) : (a.toList == b.toList) = true := by rw [U.str_eq_bn]; exact decide_eq_true h
theorem Ctr.encIs (C : Ctr) {s t : ByteArray} {k : Nat} (hs : s.size ≤ 100000) (hk : k ≤ 255) (h : en k (U.dec (U.bn s)) = U.bn t) (W : World) : Calls Try.prog 9 #[.string s, .int .u8 k] W fun e W' => e = .returned (.string t) ∧ Below W.heap.size W W' :=
  (C.enc s k W hs hk).mono (by
    rintro e W' ⟨⟨u, rfl, hu⟩, hB⟩
    obtain rfl := U.bn_inj (hu.trans h)
    exact ⟨rfl, hB⟩)
theorem Ctr.decIs (C : Ctr) {s t : ByteArray} (hs : s.size ≤ 100000) (h : de (U.bn s) = U.bn t) (W : World) : Calls Try.prog 11 #[.string s] W fun e W' => e = .returned (.string t) ∧ Below W.heap.size W W' :=
  (C.dec s W hs).mono (by
    rintro e W' ⟨⟨u, rfl, hu⟩, hB⟩
    obtain rfl := U.bn_inj (hu.trans h)
    exact ⟨rfl, hB⟩)
theorem Ctr.innIs (C : Ctr) {r : Int} {k : Nat} {b : Bool} (h0 : U.scal r = true) (hk : k ≤ 255) (h : inS r k = b) (W : World) : Calls Try.prog 10 #[.int .i32 r, .int .u8 k] W fun e W' => e = .returned (.bool b) ∧ Below W.heap.size W W' := by
  rw [← h]; exact C.inn r k W h0 hk
def t1 : ByteArray := ⟨#[97, 32, 98, 63, 195, 169]⟩
def t2 : ByteArray := ⟨#[97, 37, 50, 48, 98, 37, 51, 70, 37, 67, 51, 37, 65, 57]⟩
def t3 : ByteArray := ⟨#[37, 52, 49, 37, 122, 122, 37, 52]⟩
def t4 : ByteArray := ⟨#[65, 37, 122, 122, 37, 52]⟩
set_option maxRecDepth 100000 in
set_option maxHeartbeats 4000000 in
theorem works_any (C : Ctr) (w : World) : Calls Try.prog 6 #[] w fun e W' => e = .returned (.bool true) ∧ Below w.heap.size w W' := by
  have H1 : Hid (∀ W, Calls Try.prog 9 #[.string ⟨#[97, 32, 98, 63, 195, 169]⟩, .int .u8 4] W fun e W' => e = .returned (.string ⟨#[97, 37, 50, 48, 98, 37, 51, 70, 37, 67, 51, 37, 65, 57]⟩) ∧ Below W.heap.size W W') := C.encIs (s := t1) (t := t2) (k := 4) (by decide) (by decide) (by decide +kernel)
  have H2 : Hid (∀ W, Calls Try.prog 11 #[.string ⟨#[37, 52, 49, 37, 122, 122, 37, 52]⟩] W fun e W' => e = .returned (.string ⟨#[65, 37, 122, 122, 37, 52]⟩) ∧ Below W.heap.size W W') := C.decIs (s := t3) (t := t4) (by decide) (by decide +kernel)
  have H3 : Hid (∀ W, Calls Try.prog 10 #[.int .i32 37, .int .u8 6] W fun e W' => e = .returned (.bool true) ∧ Below W.heap.size W W') := C.innIs (r := 37) (k := 6) (by decide) (by decide) (by decide)
  have H4 : Hid (∀ W, Calls Try.prog 10 #[.int .i32 37, .int .u8 5] W fun e W' => e = .returned (.bool false) ∧ Below W.heap.size W W') := C.innIs (r := 37) (k := 5) (by decide) (by decide) (by decide)
  have H5 : Hid (∀ W, Calls Try.prog 10 #[.int .i32 127, .int .u8 0] W fun e W' => e = .returned (.bool true) ∧ Below W.heap.size W W') := C.innIs (r := 127) (k := 0) (by decide) (by decide) (by decide)
  have HB : Hid (Below w.heap.size w w) := Below.refl _ _
  have e1 := self_eq ⟨#[97, 37, 50, 48, 98, 37, 51, 70, 37, 67, 51, 37, 65, 57]⟩
  have e2 := self_eq ⟨#[65, 37, 122, 122, 37, 52]⟩
  clear C
  go_enter Try.func6, Try.ntmps6
  go_wp2_with fail
  refine (H1.out _).mono ?_
  rintro e w' ⟨rfl, B⟩
  replace HB := hid (HB.out.trans (B.mono HB.out.size))
  clear B H1
  go_wp2_with fail
  refine (H2.out _).mono ?_
  rintro e w' ⟨rfl, B⟩
  replace HB := hid (HB.out.trans (B.mono HB.out.size))
  clear B H2
  go_wp2_with fail
  refine (H3.out _).mono ?_
  rintro e w' ⟨rfl, B⟩
  replace HB := hid (HB.out.trans (B.mono HB.out.size))
  clear B H3
  go_wp2_with fail
  refine (H4.out _).mono ?_
  rintro e w' ⟨rfl, B⟩
  replace HB := hid (HB.out.trans (B.mono HB.out.size))
  clear B H4
  go_wp2_with fail
  refine (H5.out _).mono ?_
  rintro e w' ⟨rfl, B⟩
  replace HB := hid (HB.out.trans (B.mono HB.out.size))
  clear B H5
  go_wp2
  go_ret
  exact ⟨rfl, HB.out⟩
theorem en_size {s t : ByteArray} {k : Nat} (hs : s.size ≤ 8192) (h : U.bn t = en k (U.dec (U.bn s))) : t.size ≤ 98304 := by
  have h1 := en_len k (U.dec (U.bn s))
  have h2 := U.dec_len (U.bn s).length (U.bn s) (Nat.le_refl _) (U.bn_bytes s)
  rw [U.bn_length] at h2
  rw [← h, U.bn_length] at h1
  omega
theorem u8_wf {d : Int} (h : (Lit.int .u8 d).wf = true) : 0 ≤ d ∧ d ≤ 255 := by
  simp [Lit.wf, IntKind.min, IntKind.max, IntKind.bits, IntKind.signed] at h
  omega
/-! ### PctJoins -/
set_option maxRecDepth 100000 in
set_option maxHeartbeats 4000000 in
theorem joins_walk (C : Ctr) (s t : ByteArray) (d : Int) (w : World) (hs : s.size ≤ maxLen) (ht : t.size ≤ maxLen) (hd : (Lit.int .u8 d).wf = true) :
    Calls Try.prog 5 #[.string s, .string t, .int .u8 d] w fun e W' => e = .returned (.bool true) ∧ Below w.heap.size w W' := by
  unfold maxLen at hs ht
  obtain ⟨hd0, hd1⟩ := u8_wf hd
  obtain ⟨k, rfl⟩ : ∃ k : Nat, d = (k : Int) := ⟨d.toNat, by omega⟩
  have HW := hid (works_any C)
  clear hd
  by_cases h1 : 4096 < s.size
  · go_enter Try.func5, Try.ntmps5
    go_wp2_with (go_at_call 6; refine (HW.out _).mono ?_; rintro e w1 ⟨rfl, B1⟩)
    go_ret
    exact ⟨rfl, B1⟩
  by_cases h2 : 4096 < t.size
  · have h1z : (s.size : Int) ≤ 4096 := by omega
    go_enter Try.func5, Try.ntmps5
    go_wp2_with (go_at_call 6; refine (HW.out _).mono ?_; rintro e w1 ⟨rfl, B1⟩)
    go_ret
    exact ⟨rfl, B1⟩
  have h1z : (s.size : Int) ≤ 4096 := by omega
  have h2z : (t.size : Int) ≤ 4096 := by omega
  have HV := hid (fun W => U.refValid_any s (by omega) W)
  have HD2 : Hid (U.val (U.bn s) = true → U.dec (U.bn (s ++ t)) = U.dec (U.bn s) ++ U.dec (U.bn t)) := fun h => by
    rw [U.bn_append]
    exact U.dec_app _ _ _ (Nat.le_refl _) (U.bn_bytes s) (U.bn_bytes t) h
  obtain ⟨V, hV⟩ : ∃ V, U.val (U.bn s) = V := ⟨_, rfl⟩
  rw [hV] at HV HD2
  clear hV
  cases V with
  | false =>
    go_enter Try.func5, Try.ntmps5
    go_wp2_with fail
    refine (HV.out _).mono ?_
    rintro e w1 ⟨rfl, B1⟩
    have HB1 := hid B1
    clear B1
    go_wp2_with (go_at_call 6; refine (HW.out _).mono ?_; rintro e w2 ⟨rfl, B2⟩)
    go_ret
    exact ⟨rfl, HB1.out.trans (B2.mono HB1.out.size)⟩
  | true =>
    have HJ : Hid (en k (U.dec (U.bn (s ++ t))) = en k (U.dec (U.bn s)) ++ en k (U.dec (U.bn t))) := by show _ = _; rw [HD2.out rfl, en_append]
    have hsz : (s ++ t).size ≤ 100000 := by rw [ByteArray.size_append]; omega
    have HE1 := hid (fun W => C.enc (s ++ t) k W hsz (by omega))
    have HE2 := hid (fun W => C.enc s k W (by omega) (by omega))
    have HE3 := hid (fun W => C.enc t k W (by omega) (by omega))
    clear C HD2 hsz
    go_enter Try.func5, Try.ntmps5
    go_wp2_with fail
    refine (HV.out _).mono ?_
    rintro e w1 ⟨rfl, B1⟩
    have HB1 := hid B1
    clear B1 HV
    go_wp2_with fail
    refine (HE1.out _).mono ?_
    rintro e w2 ⟨⟨x1, rfl, hx1⟩, B2⟩
    have HB2 := hid (HB1.out.trans (B2.mono HB1.out.size))
    have HX1 := hid hx1
    clear B2 HB1 HE1 hx1
    go_wp2_with fail
    refine (HE2.out _).mono ?_
    rintro e w3 ⟨⟨x2, rfl, hx2⟩, B3⟩
    have HB3 := hid (HB2.out.trans (B3.mono HB2.out.size))
    have HX2 := hid hx2
    have hx2s := en_size (by omega) hx2
    clear B3 HB2 HE2 hx2
    go_wp2_with fail
    refine (HE3.out _).mono ?_
    rintro e w4 ⟨⟨x3, rfl, hx3⟩, B4⟩
    have HB4 := hid (HB3.out.trans (B4.mono HB3.out.size))
    have hee : (x1.toList == (x2 ++ x3).toList) = true := same_eq (by rw [U.bn_append, HX1.out, HX2.out, hx3]; exact HJ.out)
    have hx3s := en_size (by omega) hx3
    clear B4 HB3 HE3 hx3 HX1 HX2 HJ
    go_wp2_with (go_at_call 6; refine (HW.out _).mono ?_; rintro e w5 ⟨rfl, B5⟩)
    go_ret
    exact ⟨rfl, HB4.out.trans (B5.mono HB4.out.size)⟩
end Go.Proofs.Ytnkbfpmaifgenaa.E
