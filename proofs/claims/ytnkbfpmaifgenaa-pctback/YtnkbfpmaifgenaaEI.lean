/- PctTwice's walk over what it wants of the program. -/
import Derived.Test.YtnkbfpmaifgenaaEG
import Derived.Laws.BitsLemmas
namespace Go.Proofs.Ytnkbfpmaifgenaa.E
open Go.RowKit
set_option linter.unusedVariables false

theorem less_at {a b : Nat} (ha : a < 7) (hb : b < 7) (h : less a b = true) {j : Nat} (hj : j < 130) (hi : inS (j : Int) a = true) : inS (j : Int) b = true := less_up ⟨a, ha⟩ ⟨b, hb⟩ h ⟨j, hj⟩ hi
/-- A greater set tells all that a less one does. (A structure: the walk must not look into it.) -/
structure LessUp (a b : Nat) : Prop where
  out : less a b = true → ∀ j : Nat, j < 130 → inS j a = true → inS j b = true
structure IsLess (a b : Nat) : Prop where
  out : less a b = true
set_option maxRecDepth 100000 in
set_option maxHeartbeats 16000000 in
theorem twice_walk (C : Ctr) (s : ByteArray) (d1 d2 : Int) (w : World) (hs : s.size ≤ maxLen) (hd1 : (Lit.int .u8 d1).wf = true) (hd2 : (Lit.int .u8 d2).wf = true) :
    Calls Try.prog 4 #[.string s, .int .u8 d1, .int .u8 d2] w fun e W' => e = .returned (.bool true) ∧ Below w.heap.size w W' := by
  unfold maxLen at hs
  obtain ⟨p0, p1⟩ := u8_wf hd1
  obtain ⟨q0, q1⟩ := u8_wf hd2
  have HW := hid (works_any C)
  clear hd1 hd2
  by_cases h1 : 8192 < s.size
  · go_enter Try.func4, Try.ntmps4
    go_wp2_with (go_at_call 6; refine (HW.out _).mono ?_; rintro e w1 ⟨rfl, B1⟩)
    go_ret
    exact ⟨rfl, B1⟩
  have h1z : (s.size : Int) ≤ 8192 := by omega
  obtain ⟨a, ha⟩ : ∃ a : Nat, d1 % 7 = (a : Int) := ⟨(d1 % 7).toNat, by omega⟩
  obtain ⟨b, hb⟩ : ∃ b : Nat, d2 % 7 = (b : Int) := ⟨(d2 % 7).toNat, by omega⟩
  have ha7 : a < 7 := by omega
  have hb7 : b < 7 := by omega
  have hta : Int.tmod d1 7 = (a : Int) := by rw [Int.tmod_eq_emod_of_nonneg p0]; exact ha
  have htb : Int.tmod d2 7 = (b : Int) := by rw [Int.tmod_eq_emod_of_nonneg q0]; exact hb
  have hwa : IntKind.u8.wrap (a : Int) = (a : Int) := by rw [IntKind.wrap_u8]; omega
  have hwb : IntKind.u8.wrap (b : Int) = (b : Int) := by rw [IntKind.wrap_u8]; omega
  have HEN := hid (fun W => C.enc s a W (by omega) (by omega))
  have HE2 : Hid (∀ (e0 : ByteArray), U.bn e0 = en a (U.dec (U.bn s)) → e0.size ≤ 98304 → a ≤ 5 → ∀ W, Calls Try.prog 9 #[.string e0, .int .u8 a] W fun e W' => e = .returned (.string e0) ∧ Below W.heap.size W W') := fun e0 h hz h5 W =>
    C.encIs (by omega) (by omega) (by rw [h]; exact en_twice h5 (dec_scs s)) W
  have HSZ := hid (fun (t : ByteArray) (h : U.bn t = en a (U.dec (U.bn s))) => en_size (by omega) h)
  have HIA : Hid (∀ (j : Nat) (W : World), j < 130 → Calls Try.prog 10 #[.int .i32 j, .int .u8 a] W fun e W' => e = .returned (.bool (inS j a)) ∧ Below W.heap.size W W') := fun j W hj => C.inn j a W (by unfold U.scal; exact decide_eq_true (by omega)) (by omega)
  have HIB : Hid (∀ (j : Nat) (W : World), j < 130 → inS j b = true → Calls Try.prog 10 #[.int .i32 j, .int .u8 b] W fun e W' => e = .returned (.bool true) ∧ Below W.heap.size W W') := fun j W hj h => C.innIs (by unfold U.scal; exact decide_eq_true (by omega)) (by omega) h W
  have HLS : LessUp a b := ⟨fun h j hj hi => less_at ha7 hb7 h hj hi⟩
  clear C ha hb
  go_enter Try.func4, Try.ntmps4
  go_wp2_with fail
  refine (HEN.out _).mono ?_
  rintro e w1 ⟨⟨e0, rfl, he0⟩, B1⟩
  have hz0 := HSZ.out e0 he0
  have HT := hid (fun h => HE2.out e0 he0 hz0 h)
  have HB1 := hid B1
  have hse : (e0.toList != e0.toList) = false := by rw [bne, self_eq]; rfl
  clear B1 he0 HSZ HE2 HEN
  by_cases h6 : a = 6
  · have h6b : ((a : Int) != 6) = false := by simp; omega
    have n3 : ((a : Int) != 3) = true := by simp; omega
    have n1 : ((a : Int) != 1) = true := by simp; omega
    by_cases hab : a ≤ b
    · have habz : (a : Int) ≤ (b : Int) := by omega
      have hless : IsLess a b := ⟨by unfold less; simp; omega⟩
      clear h6
      go_wp2_with fail
      go_loopw [9] (fun v9 wr => ∃ j : Nat, j ≤ 130 ∧ v9 = .int .i32 j ∧ Hid (Below w.heap.size w wr)) (fun v9 _ => 130 - (intOf v9).toNat)
      case atStart => exact ⟨0, by omega, rfl, HB1⟩
      case round =>
        obtain ⟨j, hj, rfl, HB⟩ := hrel
        by_cases hlt : j < 130
        · have hltz : (j : Int) < 130 := by omega
          have HA := hid (fun W => HIA.out j W hlt)
          have HBT := hid (fun (h : inS (j : Int) a = true) W => HIB.out j W hlt (HLS.out hless.out j hlt h))
          obtain ⟨b1, hb1⟩ : ∃ b1, inS (j : Int) a = b1 := ⟨_, rfl⟩
          rw [hb1] at HA HBT
          clear hb1
          cases b1 with
          | false =>
            clear HBT
            go_wp2_with (go_at_call 10; refine (HA.out _).mono ?_; rintro e w4 ⟨rfl, B4⟩; have HB4 := hid (HB.out.trans (B4.mono HB.out.size)); clear B4)
            go_roundw
            case rel => exact ⟨j + 1, by omega, by go_num, HB4⟩
            case measure => simp [intOf]; omega
          | true =>
            have HBU := hid (HBT.out rfl)
            clear HBT
            go_wp2_with (first
              | (go_at_call 10; have HB4' := HB4.out; refine (HBU.out _).mono ?_; rintro e w5 ⟨rfl, B5⟩; have HB5 := hid (HB4'.trans (B5.mono HB4'.size)); clear B5 HB4')
              | (go_at_call 10; refine (HA.out _).mono ?_; rintro e w4 ⟨rfl, B4⟩; have HB4 := hid (HB.out.trans (B4.mono HB.out.size)); clear B4))
            go_roundw
            case rel => exact ⟨j + 1, by omega, by go_num, HB5⟩
            case measure => simp [intOf]; omega
        · have hltz : ¬ (j : Int) < 130 := by omega
          go_wp2_with (go_at_call 6; refine (HW.out _).mono ?_; rintro e w6 ⟨rfl, B6⟩)
          go_ret
          exact ⟨rfl, HB.out.trans (B6.mono HB.out.size)⟩
    · have habz : ¬ (a : Int) ≤ (b : Int) := by omega
      have heq : ((a : Int) == (b : Int)) = false := by simp; omega
      clear h6
      go_wp2_with fail
      go_loopw [9] (fun v9 wr => ∃ j : Nat, j ≤ 130 ∧ v9 = .int .i32 j ∧ Hid (Below w.heap.size w wr)) (fun v9 _ => 130 - (intOf v9).toNat)
      case atStart => exact ⟨0, by omega, rfl, HB1⟩
      case round =>
        obtain ⟨j, hj, rfl, HB⟩ := hrel
        by_cases hlt : j < 130
        · have hltz : (j : Int) < 130 := by omega
          go_wp2
          go_roundw
          case rel => exact ⟨j + 1, by omega, by go_num, HB⟩
          case measure => simp [intOf]; omega
        · have hltz : ¬ (j : Int) < 130 := by omega
          go_wp2_with (go_at_call 6; refine (HW.out _).mono ?_; rintro e w6 ⟨rfl, B6⟩)
          go_ret
          exact ⟨rfl, HB.out.trans (B6.mono HB.out.size)⟩
  · have h6b : ((a : Int) != 6) = true := by simp; omega
    have HT5 := hid (HT.out (by omega))
    clear HT
    go_wp2_with fail
    refine (HT5.out _).mono ?_
    rintro e w2 ⟨rfl, B2⟩
    have HB2 := hid (HB1.out.trans (B2.mono HB1.out.size))
    clear B2 HB1 HT5
    by_cases hab : a ≤ b
    · have habz : (a : Int) ≤ (b : Int) := by omega
      by_cases h3 : a = 3
      · have n3 : ((a : Int) != 3) = false := by simp; omega
        by_cases hee : a = b
        · have heq : ((a : Int) == (b : Int)) = true := by simp; omega
          have hless : IsLess a b := ⟨by unfold less; simp; omega⟩
          clear h6 h3 hee
          go_wp2_with fail
          go_loopw [9] (fun v9 wr => ∃ j : Nat, j ≤ 130 ∧ v9 = .int .i32 j ∧ Hid (Below w.heap.size w wr)) (fun v9 _ => 130 - (intOf v9).toNat)
          case atStart => exact ⟨0, by omega, rfl, HB2⟩
          case round =>
            obtain ⟨j, hj, rfl, HB⟩ := hrel
            by_cases hlt : j < 130
            · have hltz : (j : Int) < 130 := by omega
              have HA := hid (fun W => HIA.out j W hlt)
              have HBT := hid (fun (h : inS (j : Int) a = true) W => HIB.out j W hlt (HLS.out hless.out j hlt h))
              obtain ⟨b1, hb1⟩ : ∃ b1, inS (j : Int) a = b1 := ⟨_, rfl⟩
              rw [hb1] at HA HBT
              clear hb1
              cases b1 with
              | false =>
                clear HBT
                go_wp2_with (go_at_call 10; refine (HA.out _).mono ?_; rintro e w4 ⟨rfl, B4⟩; have HB4 := hid (HB.out.trans (B4.mono HB.out.size)); clear B4)
                go_roundw
                case rel => exact ⟨j + 1, by omega, by go_num, HB4⟩
                case measure => simp [intOf]; omega
              | true =>
                have HBU := hid (HBT.out rfl)
                clear HBT
                go_wp2_with (first
                  | (go_at_call 10; have HB4' := HB4.out; refine (HBU.out _).mono ?_; rintro e w5 ⟨rfl, B5⟩; have HB5 := hid (HB4'.trans (B5.mono HB4'.size)); clear B5 HB4')
                  | (go_at_call 10; refine (HA.out _).mono ?_; rintro e w4 ⟨rfl, B4⟩; have HB4 := hid (HB.out.trans (B4.mono HB.out.size)); clear B4))
                go_roundw
                case rel => exact ⟨j + 1, by omega, by go_num, HB5⟩
                case measure => simp [intOf]; omega
            · have hltz : ¬ (j : Int) < 130 := by omega
              go_wp2_with (go_at_call 6; refine (HW.out _).mono ?_; rintro e w6 ⟨rfl, B6⟩)
              go_ret
              exact ⟨rfl, HB.out.trans (B6.mono HB.out.size)⟩
        · have heq : ((a : Int) == (b : Int)) = false := by simp; omega
          clear h6 h3 hee
          go_wp2_with fail
          go_loopw [9] (fun v9 wr => ∃ j : Nat, j ≤ 130 ∧ v9 = .int .i32 j ∧ Hid (Below w.heap.size w wr)) (fun v9 _ => 130 - (intOf v9).toNat)
          case atStart => exact ⟨0, by omega, rfl, HB2⟩
          case round =>
            obtain ⟨j, hj, rfl, HB⟩ := hrel
            by_cases hlt : j < 130
            · have hltz : (j : Int) < 130 := by omega
              go_wp2
              go_roundw
              case rel => exact ⟨j + 1, by omega, by go_num, HB⟩
              case measure => simp [intOf]; omega
            · have hltz : ¬ (j : Int) < 130 := by omega
              go_wp2_with (go_at_call 6; refine (HW.out _).mono ?_; rintro e w6 ⟨rfl, B6⟩)
              go_ret
              exact ⟨rfl, HB.out.trans (B6.mono HB.out.size)⟩
      · have n3 : ((a : Int) != 3) = true := by simp; omega
        by_cases hx1 : a = 1
        · have n1 : ((a : Int) != 1) = false := by simp; omega
          by_cases hee : a = b
          · have heq : ((a : Int) == (b : Int)) = true := by simp; omega
            have hless : IsLess a b := ⟨by unfold less; simp; omega⟩
            clear h6 h3 hx1 hee
            go_wp2_with fail
            go_loopw [9] (fun v9 wr => ∃ j : Nat, j ≤ 130 ∧ v9 = .int .i32 j ∧ Hid (Below w.heap.size w wr)) (fun v9 _ => 130 - (intOf v9).toNat)
            case atStart => exact ⟨0, by omega, rfl, HB2⟩
            case round =>
              obtain ⟨j, hj, rfl, HB⟩ := hrel
              by_cases hlt : j < 130
              · have hltz : (j : Int) < 130 := by omega
                have HA := hid (fun W => HIA.out j W hlt)
                have HBT := hid (fun (h : inS (j : Int) a = true) W => HIB.out j W hlt (HLS.out hless.out j hlt h))
                obtain ⟨b1, hb1⟩ : ∃ b1, inS (j : Int) a = b1 := ⟨_, rfl⟩
                rw [hb1] at HA HBT
                clear hb1
                cases b1 with
                | false =>
                  clear HBT
                  go_wp2_with (go_at_call 10; refine (HA.out _).mono ?_; rintro e w4 ⟨rfl, B4⟩; have HB4 := hid (HB.out.trans (B4.mono HB.out.size)); clear B4)
                  go_roundw
                  case rel => exact ⟨j + 1, by omega, by go_num, HB4⟩
                  case measure => simp [intOf]; omega
                | true =>
                  have HBU := hid (HBT.out rfl)
                  clear HBT
                  go_wp2_with (first
                    | (go_at_call 10; have HB4' := HB4.out; refine (HBU.out _).mono ?_; rintro e w5 ⟨rfl, B5⟩; have HB5 := hid (HB4'.trans (B5.mono HB4'.size)); clear B5 HB4')
                    | (go_at_call 10; refine (HA.out _).mono ?_; rintro e w4 ⟨rfl, B4⟩; have HB4 := hid (HB.out.trans (B4.mono HB.out.size)); clear B4))
                  go_roundw
                  case rel => exact ⟨j + 1, by omega, by go_num, HB5⟩
                  case measure => simp [intOf]; omega
              · have hltz : ¬ (j : Int) < 130 := by omega
                go_wp2_with (go_at_call 6; refine (HW.out _).mono ?_; rintro e w6 ⟨rfl, B6⟩)
                go_ret
                exact ⟨rfl, HB.out.trans (B6.mono HB.out.size)⟩
          · have heq : ((a : Int) == (b : Int)) = false := by simp; omega
            clear h6 h3 hx1 hee
            go_wp2_with fail
            go_loopw [9] (fun v9 wr => ∃ j : Nat, j ≤ 130 ∧ v9 = .int .i32 j ∧ Hid (Below w.heap.size w wr)) (fun v9 _ => 130 - (intOf v9).toNat)
            case atStart => exact ⟨0, by omega, rfl, HB2⟩
            case round =>
              obtain ⟨j, hj, rfl, HB⟩ := hrel
              by_cases hlt : j < 130
              · have hltz : (j : Int) < 130 := by omega
                go_wp2
                go_roundw
                case rel => exact ⟨j + 1, by omega, by go_num, HB⟩
                case measure => simp [intOf]; omega
              · have hltz : ¬ (j : Int) < 130 := by omega
                go_wp2_with (go_at_call 6; refine (HW.out _).mono ?_; rintro e w6 ⟨rfl, B6⟩)
                go_ret
                exact ⟨rfl, HB.out.trans (B6.mono HB.out.size)⟩
        · have n1 : ((a : Int) != 1) = true := by simp; omega
          have hless : IsLess a b := ⟨by unfold less; simp; omega⟩
          clear h6 h3 hx1
          go_wp2_with fail
          go_loopw [9] (fun v9 wr => ∃ j : Nat, j ≤ 130 ∧ v9 = .int .i32 j ∧ Hid (Below w.heap.size w wr)) (fun v9 _ => 130 - (intOf v9).toNat)
          case atStart => exact ⟨0, by omega, rfl, HB2⟩
          case round =>
            obtain ⟨j, hj, rfl, HB⟩ := hrel
            by_cases hlt : j < 130
            · have hltz : (j : Int) < 130 := by omega
              have HA := hid (fun W => HIA.out j W hlt)
              have HBT := hid (fun (h : inS (j : Int) a = true) W => HIB.out j W hlt (HLS.out hless.out j hlt h))
              obtain ⟨b1, hb1⟩ : ∃ b1, inS (j : Int) a = b1 := ⟨_, rfl⟩
              rw [hb1] at HA HBT
              clear hb1
              cases b1 with
              | false =>
                clear HBT
                go_wp2_with (go_at_call 10; refine (HA.out _).mono ?_; rintro e w4 ⟨rfl, B4⟩; have HB4 := hid (HB.out.trans (B4.mono HB.out.size)); clear B4)
                go_roundw
                case rel => exact ⟨j + 1, by omega, by go_num, HB4⟩
                case measure => simp [intOf]; omega
              | true =>
                have HBU := hid (HBT.out rfl)
                clear HBT
                go_wp2_with (first
                  | (go_at_call 10; have HB4' := HB4.out; refine (HBU.out _).mono ?_; rintro e w5 ⟨rfl, B5⟩; have HB5 := hid (HB4'.trans (B5.mono HB4'.size)); clear B5 HB4')
                  | (go_at_call 10; refine (HA.out _).mono ?_; rintro e w4 ⟨rfl, B4⟩; have HB4 := hid (HB.out.trans (B4.mono HB.out.size)); clear B4))
                go_roundw
                case rel => exact ⟨j + 1, by omega, by go_num, HB5⟩
                case measure => simp [intOf]; omega
            · have hltz : ¬ (j : Int) < 130 := by omega
              go_wp2_with (go_at_call 6; refine (HW.out _).mono ?_; rintro e w6 ⟨rfl, B6⟩)
              go_ret
              exact ⟨rfl, HB.out.trans (B6.mono HB.out.size)⟩
    · have habz : ¬ (a : Int) ≤ (b : Int) := by omega
      have heq : ((a : Int) == (b : Int)) = false := by simp; omega
      clear h6
      go_wp2_with fail
      go_loopw [9] (fun v9 wr => ∃ j : Nat, j ≤ 130 ∧ v9 = .int .i32 j ∧ Hid (Below w.heap.size w wr)) (fun v9 _ => 130 - (intOf v9).toNat)
      case atStart => exact ⟨0, by omega, rfl, HB2⟩
      case round =>
        obtain ⟨j, hj, rfl, HB⟩ := hrel
        by_cases hlt : j < 130
        · have hltz : (j : Int) < 130 := by omega
          go_wp2
          go_roundw
          case rel => exact ⟨j + 1, by omega, by go_num, HB⟩
          case measure => simp [intOf]; omega
        · have hltz : ¬ (j : Int) < 130 := by omega
          go_wp2_with (go_at_call 6; refine (HW.out _).mono ?_; rintro e w6 ⟨rfl, B6⟩)
          go_ret
          exact ⟨rfl, HB.out.trans (B6.mono HB.out.size)⟩
end Go.Proofs.Ytnkbfpmaifgenaa.E
