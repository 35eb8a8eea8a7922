/- The program's value, front and Decode. -/
import Derived.Test.YtnkbfpmaifgenaaHC
namespace Go.Proofs.Ytnkbfpmaifgenaa.E
open Go.RowKit
set_option linter.unusedVariables false

/-- What value answers. -/
def vlu (c : Int) : Int := if 0 ≤ hx c then hx c else 0
set_option maxRecDepth 100000 in
set_option maxHeartbeats 1000000 in
theorem value_any (c : Int) (h0 : 0 ≤ c) (h1 : c ≤ 255) (w : World) : Calls Try.prog 29 #[.int .u8 c] w fun e W' => e = .returned (.tuple #[.int .u8 (vlu c), .bool (decide (0 ≤ hx c))]) ∧ W' = w := by
  by_cases a1 : 48 ≤ c ∧ c ≤ 57
  · obtain ⟨x1, x2⟩ := a1
    have e1 : hx c = c - 48 := by unfold hx; (repeat' split) <;> omega
    have e2 : vlu c = c - 48 := by unfold vlu; rw [e1, if_pos (by omega)]
    rw [e2, e1, decide_eq_true (by omega : 0 ≤ c - 48)]
    clear e1 e2
    go_enter Try.func29, Try.ntmps29
    go_wp2
    go_ret2
    exact ⟨rfl, rfl⟩
  by_cases a2 : 65 ≤ c ∧ c ≤ 70
  · obtain ⟨x1, x2⟩ := a2
    have e1 : hx c = c - 65 + 10 := by unfold hx; (repeat' split) <;> omega
    have e2 : vlu c = c - 65 + 10 := by unfold vlu; rw [e1, if_pos (by omega)]
    rw [e2, e1, decide_eq_true (by omega : 0 ≤ c - 65 + 10)]
    clear e1 e2
    go_enter Try.func29, Try.ntmps29
    go_wp2
    go_ret2
    exact ⟨rfl, rfl⟩
  by_cases a3 : 97 ≤ c ∧ c ≤ 102
  · obtain ⟨x1, x2⟩ := a3
    have e1 : hx c = c - 97 + 10 := by unfold hx; (repeat' split) <;> omega
    have e2 : vlu c = c - 97 + 10 := by unfold vlu; rw [e1, if_pos (by omega)]
    rw [e2, e1, decide_eq_true (by omega : 0 ≤ c - 97 + 10)]
    clear e1 e2
    go_enter Try.func29, Try.ntmps29
    go_wp2
    go_ret2
    exact ⟨rfl, rfl⟩
  have e1 : hx c = -1 := by unfold hx; (repeat' split) <;> omega
  have e2 : vlu c = 0 := by unfold vlu; rw [e1]; rfl
  rw [e2, e1, decide_eq_false (by omega : ¬ (0 : Int) ≤ -1)]
  clear e1 e2
  go_enter Try.func29, Try.ntmps29
  go_wp2
  all_goals first
    | (go_ret2; exact ⟨rfl, rfl⟩)
    | (exfalso; omega)
/-- Whether a percent sign with two digits stands at the front. -/
def isTold (l : List Int) : Prop := l[0]?.getD 0 = 37 ∧ 2 < l.length ∧ 0 ≤ hx (l[1]?.getD 0) ∧ 0 ≤ hx (l[2]?.getD 0)
theorem or_tab : ∀ x y : Fin 16, bits BinOp.or IntKind.u8 ((16 * x.val : Nat) : Int) y.val = ((16 * x.val + y.val : Nat) : Int) := by decide +kernel
theorem or_at {x y : Int} (x0 : 0 ≤ x) (x1 : x ≤ 15) (y0 : 0 ≤ y) (y1 : y ≤ 15) : bits BinOp.or IntKind.u8 (16 * x) y = 16 * x + y := by
  have := or_tab ⟨x.toNat, by omega⟩ ⟨y.toNat, by omega⟩
  simp only at this
  rw [show ((16 * x.toNat : Nat) : Int) = 16 * x by omega, show ((y.toNat : Nat) : Int) = y by omega] at this
  rw [this]
  omega
set_option maxRecDepth 100000 in
set_option maxHeartbeats 2000000 in
theorem front_any (s : ByteArray) (hp : 0 < s.size) (hs : s.size ≤ 1000000) (w : World) : Calls Try.prog 20 #[.string s] w fun e W' =>
    ((∃ b : Int, e = .returned (.tuple #[.int .u8 b, .int .i64 1]) ∧ b = (U.bn s)[0]?.getD 0 ∧ ¬ isTold (U.bn s)) ∨ (∃ b : Int, e = .returned (.tuple #[.int .u8 b, .int .i64 3]) ∧ b = 16 * hx ((U.bn s)[1]?.getD 0) + hx ((U.bn s)[2]?.getD 0) ∧ isTold (U.bn s))) ∧ W' = w := by
  have HT : Hid (isTold (U.bn s) ↔ ((U.bn s)[0]?.getD 0 = 37 ∧ 2 < s.size ∧ 0 ≤ hx ((U.bn s)[1]?.getD 0) ∧ 0 ≤ hx ((U.bn s)[2]?.getD 0))) := by
    show _ ↔ _
    unfold isTold; rw [U.bn_length]
  have hg0 := (bn_get s 0 hp).symm
  obtain ⟨hb0, hb1⟩ := byte_bd hp
  obtain ⟨T, hT⟩ : ∃ T, isTold (U.bn s) = T := ⟨_, rfl⟩
  obtain ⟨y, hy⟩ : ∃ y, (U.bn s)[0]?.getD 0 = y := ⟨_, rfl⟩
  have HG1 := hid (fun h => bn_get s 1 h)
  have HG2 := hid (fun h => bn_get s 2 h)
  have HB1 := hid (fun h => byte_bd (s := s) (i := 1) h)
  have HB2 := hid (fun h => byte_bd (s := s) (i := 2) h)
  rw [hT, hy] at HT
  rw [hy] at hg0 hb0 hb1
  rw [hT, hy]
  clear hT hy
  by_cases h37 : y = 37
  · by_cases h2 : 2 < s.size
    · have g1 := (HG1.out (by omega)).symm
      have g2 := (HG2.out h2).symm
      obtain ⟨c0, c1⟩ := HB1.out (by omega)
      obtain ⟨d0, d1⟩ := HB2.out h2
      obtain ⟨x1, hx1⟩ : ∃ x, (U.bn s)[1]?.getD 0 = x := ⟨_, rfl⟩
      obtain ⟨x2, hx2⟩ : ∃ x, (U.bn s)[2]?.getD 0 = x := ⟨_, rfl⟩
      rw [hx1] at g1 c0 c1 HT ⊢
      rw [hx2] at g2 d0 d1 HT ⊢
      have HV1 := hid (fun W => value_any x1 c0 c1 W)
      have HV2 := hid (fun W => value_any x2 d0 d1 W)
      have q1 := hx_bd x1
      have q2 := hx_bd x2
      have HU1 : Hid (0 ≤ hx x1 → vlu x1 = hx x1) := fun h => by unfold vlu; rw [if_pos h]
      have HU2 : Hid (0 ≤ hx x2 → vlu x2 = hx x2) := fun h => by unfold vlu; rw [if_pos h]
      obtain ⟨z1, hz1⟩ : ∃ z, hx x1 = z := ⟨_, rfl⟩
      obtain ⟨z2, hz2⟩ : ∃ z, hx x2 = z := ⟨_, rfl⟩
      obtain ⟨v1, hv1⟩ : ∃ z, vlu x1 = z := ⟨_, rfl⟩
      obtain ⟨v2, hv2⟩ : ∃ z, vlu x2 = z := ⟨_, rfl⟩
      rw [hz1] at q1 HT HV1 HU1 ⊢
      rw [hz2] at q2 HT HV2 HU2 ⊢
      rw [hv1] at HV1 HU1
      rw [hv2] at HV2 HU2
      clear hz1 hz2 hv1 hv2 hx1 hx2 HG1 HG2 HB1 HB2
      have h37b : (y != 37) = false := by simp [h37]
      have h2z : ¬ (s.size : Int) < 3 := by omega
      by_cases p1 : 0 ≤ z1
      · have e1 := HU1.out p1
        subst e1
        by_cases p2 : 0 ≤ z2
        · have e2 := HU2.out p2
          subst e2
          have HTT := hid (HT.out.2 ⟨h37, h2, p1, p2⟩)
          obtain ⟨_, q1b⟩ := q1
          obtain ⟨_, q2b⟩ := q2
          have hor := or_at p1 q1b p2 q2b
          rw [decide_eq_true p1] at HV1
          rw [decide_eq_true p2] at HV2
          have hsh : IntKind.u8.wrap (v1 * 16) = 16 * v1 := by rw [IntKind.wrap_u8]; omega
          clear HT HU1 HU2 h37
          go_enter Try.func20, Try.ntmps20
          go_wp2_with fail
          refine (HV1.out _).mono ?_
          rintro e w1 ⟨rfl, hw1⟩
          obtain rfl := hw1.symm
          clear HV1
          go_wp2_with fail
          refine (HV2.out _).mono ?_
          rintro e w1 ⟨rfl, hw1⟩
          obtain rfl := hw1.symm
          clear HV2
          go_wp2
          go_ret2
          exact ⟨.inr ⟨_, rfl, rfl, HTT.out⟩, rfl⟩
        · have HTT := hid (fun h => p2 (HT.out.1 h).2.2.2)
          rw [decide_eq_true p1] at HV1
          rw [decide_eq_false p2] at HV2
          clear HT HU1 HU2 h37
          go_enter Try.func20, Try.ntmps20
          go_wp2_with fail
          refine (HV1.out _).mono ?_
          rintro e w1 ⟨rfl, hw1⟩
          obtain rfl := hw1.symm
          clear HV1
          go_wp2_with fail
          refine (HV2.out _).mono ?_
          rintro e w1 ⟨rfl, hw1⟩
          obtain rfl := hw1.symm
          clear HV2
          go_wp2
          go_ret2
          exact ⟨.inl ⟨_, rfl, rfl, HTT.out⟩, rfl⟩
      · have HTT := hid (fun h => p1 (HT.out.1 h).2.2.1)
        rw [decide_eq_false p1] at HV1
        obtain ⟨B2, hB2⟩ : ∃ B, decide (0 ≤ z2) = B := ⟨_, rfl⟩
        rw [hB2] at HV2
        clear HT HU1 HU2 h37 hB2
        go_enter Try.func20, Try.ntmps20
        go_wp2_with fail
        refine (HV1.out _).mono ?_
        rintro e w1 ⟨rfl, hw1⟩
        obtain rfl := hw1.symm
        clear HV1
        go_wp2_with fail
        refine (HV2.out _).mono ?_
        rintro e w1 ⟨rfl, hw1⟩
        obtain rfl := hw1.symm
        clear HV2
        go_wp2
        go_ret2
        exact ⟨.inl ⟨_, rfl, rfl, HTT.out⟩, rfl⟩
    · have HTT := hid (fun h => h2 (HT.out.1 h).2.1)
      have h37b : (y != 37) = false := by simp [h37]
      have h2z : (s.size : Int) < 3 := by omega
      clear HT h37
      go_enter Try.func20, Try.ntmps20
      go_wp2
      go_ret2
      exact ⟨.inl ⟨_, rfl, rfl, HTT.out⟩, rfl⟩
  · have HTT := hid (fun h => h37 (HT.out.1 h).1)
    have h37b : (y != 37) = true := by simpa using h37
    clear HT h37
    go_enter Try.func20, Try.ntmps20
    go_wp2
    go_ret2
    exact ⟨.inl ⟨_, rfl, rfl, HTT.out⟩, rfl⟩
end Go.Proofs.Ytnkbfpmaifgenaa.E
