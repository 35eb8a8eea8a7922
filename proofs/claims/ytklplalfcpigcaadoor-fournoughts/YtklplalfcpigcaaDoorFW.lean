/- The law's own 'written': a number by sixteen, eight or ten. (Stage 10.) -/
import Derived.Test.YtklplalfcpigcaaDoorProg
import Derived.Test.YtklplalfcpigcaaDoorFO
import Derived.Test.YtklplalfcpigcaaDoorFP
import Derived.WalkKit
import Derived.WalkSpells
import Derived.WalkLawsBesides
import Derived.Below
import Derived.BigQuiet
import Derived.Deep.QuietTactic
namespace Go.Proofs.YtklplalfcpigcaaDoor.F
open Go.RowKit
set_option linter.unusedVariables false

theorem wrF_more {b : Nat} (h2 : 2 ≤ b) : ∀ (f n : Nat), n < b ^ (f + 1) → wrF b (f + 1) n = wrF b f n
  | 0, n, h => by
    have hn : n < b := by simpa using h
    show (if n < b then [dg n] else wrF b 0 (n / b) ++ [dg (n % b)]) = [dg (n % b)]
    rw [if_pos hn, Nat.mod_eq_of_lt hn]
  | f + 1, n, h => by
    have e1 : wrF b (f + 1 + 1) n = if n < b then [dg n] else wrF b (f + 1) (n / b) ++ [dg (n % b)] := rfl
    have e2 : wrF b (f + 1) n = if n < b then [dg n] else wrF b f (n / b) ++ [dg (n % b)] := rfl
    rw [e1, e2]
    by_cases hn : n < b
    · rw [if_pos hn, if_pos hn]
    · rw [if_neg hn, if_neg hn, wrF_more h2 f (n / b) (by rw [Nat.div_lt_iff_lt_mul (by omega)]; rwa [Nat.pow_succ] at h)]
theorem wr_step {b n : Nat} (h2 : 2 ≤ b) (hn : n < 2 ^ 64) : wr b n = if n < b then [dg n] else wr b (n / b) ++ [dg (n % b)] := by
  have e2 : wr b n = if n < b then [dg n] else wrF b 63 (n / b) ++ [dg (n % b)] := rfl
  rw [e2]
  by_cases hb : n < b
  · rw [if_pos hb, if_pos hb]
  · have h3 : n / b < b ^ (63 + 1) := by
      rw [Nat.div_lt_iff_lt_mul (by omega)]
      have := pow_big h2
      rw [Nat.pow_succ] at this
      exact Nat.lt_of_lt_of_le hn this
    rw [if_neg hb, if_neg hb, ← wrF_more h2 63 (n / b) h3]; rfl
theorem wrF_len (b : Nat) : ∀ f n, (wrF b f n).length ≤ f + 1
  | 0, n => by simp [wrF]
  | f + 1, n => by
    rw [wrF]
    split
    · simp
    · have := wrF_len b f (n / b)
      simp; omega
theorem wr_len (b n : Nat) : (wr b n).length ≤ 65 := wrF_len b 64 n
def abcx : ByteArray := ⟨#[48, 49, 50, 51, 52, 53, 54, 55, 56, 57, 97, 98, 99, 100, 101, 102]⟩
theorem abcx_at : ∀ q : Fin 16, bn (abcx.extract q.val (q.val + 1)) = [dg q.val] := by decide +kernel
/-- What the loop holds: nothing yet, all, or what is left and what is there. -/
def Wr (b n0 n : Nat) (T : ByteArray) : Prop := (T.size = 0 ∧ n = n0) ∨ (0 < T.size ∧ n = 0 ∧ bn T = wr b n0) ∨ (0 < T.size ∧ 0 < n ∧ wr b n0 = wr b n ++ bn T)
theorem Wr.size {b n0 n : Nat} {T : ByteArray} (h : Wr b n0 n T) : T.size ≤ 65 := by
  have := wr_len b n0
  rcases h with ⟨h, _⟩ | ⟨_, _, h⟩ | ⟨_, _, h⟩
  · omega
  · rw [← h, bn_length] at this; exact this
  · rw [h, List.length_append, bn_length] at this; omega
theorem Wr.step {b n0 n : Nat} {T D : ByteArray} (h2 : 2 ≤ b) (hn : n < 2 ^ 64) (hgo : T.size = 0 ∨ 0 < n) (hD : bn D = [dg (n % b)]) (h : Wr b n0 n T) : Wr b n0 (n / b) (D ++ T) := by
  have hs : 0 < (D ++ T).size := by
    rw [ByteArray.size_append]
    have : D.size = 1 := by rw [← bn_length, hD]; rfl
    omega
  have hb : bn (D ++ T) = dg (n % b) :: bn T := by rw [bn_append, hD]; rfl
  have key : wr b n0 = wr b n ++ bn T := by
    rcases h with ⟨h, rfl⟩ | ⟨h1, h3, _⟩ | ⟨_, _, h⟩
    · have : bn T = [] := List.length_eq_zero_iff.1 (by rw [bn_length]; exact h)
      rw [this, List.append_nil]
    · omega
    · exact h
  rw [wr_step h2 hn] at key
  by_cases hlt : n < b
  · rw [if_pos hlt] at key
    have h0 : n / b = 0 := Nat.div_eq_of_lt hlt
    refine .inr (.inl ⟨hs, h0, ?_⟩)
    rw [hb, Nat.mod_eq_of_lt hlt, key]; rfl
  · rw [if_neg hlt] at key
    refine .inr (.inr ⟨hs, Nat.div_pos (by omega) (by omega), ?_⟩)
    rw [hb, key]; simp
theorem Wr.fin {b n0 : Nat} {T : ByteArray} (hT : 0 < T.size) (h : Wr b n0 0 T) : bn T = wr b n0 := by
  rcases h with ⟨h, _⟩ | ⟨_, _, h⟩ | ⟨_, h, _⟩
  · omega
  · exact h
  · omega
def strLen : Value → Nat
  | .string s => s.size
  | _ => 0
set_option maxRecDepth 100000 in
set_option maxHeartbeats 4000000 in
theorem written0 (n0 : Nat) (hn0 : n0 < 18446744073709551616) (w : World) : Calls Tryd.prog 16 #[.int .u64 n0, .int .u8 0] w fun e W' => (∃ t, e = .returned (.string t) ∧ bn t = wrt 0 n0) ∧ Below w.heap.size w W' := by
  have HFIN : Hid (∀ T : ByteArray, bn T = wr 16 n0 → bn (⟨#[48, 120]⟩ ++ T) = wrt 0 n0) := fun T h => by rw [bn_append, h]; rfl
  have HAB := hid abcx_at
  unfold abcx at HAB
  have hi1 : ∀ W : World, (Instr.index 56 (.agg #[.int .u64 16, .int .u64 8, .int .u64 10]) (.int .u8 0)).run Tryd.prog W = .ok (.int .u64 16) W := fun W => by kernel_rfl
  have hi2 : ∀ W : World, (Instr.index 57 (.agg #[.string ⟨#[48, 120]⟩, .string ⟨#[48]⟩, .string ⟨#[]⟩]) (.int .u8 0)).run Tryd.prog W = .ok (.string ⟨#[48, 120]⟩) W := fun W => by kernel_rfl
  go_enter Tryd.func16, Tryd.ntmps16
  go_wp2_with fail
  go_loopw [0, 6] (fun v0 v6 wr' => ∃ (n : Nat) (T : ByteArray), n < 18446744073709551616 ∧ v0 = .int .u64 n ∧ v6 = .string T ∧ T.size ≤ 65 ∧ Hid (Wr 16 n0 n T) ∧ Hid (Below w.heap.size w wr')) (fun v0 v6 _ => 2 * (intOf v0).toNat + (if strLen v6 = 0 then 1 else 0))
  case atStart => exact ⟨n0, ⟨#[]⟩, hn0, rfl, rfl, by decide, .inl ⟨rfl, rfl⟩, Below.refl _ _⟩
  case round =>
    obtain ⟨n, T, hn, rfl, rfl, hT, HI, HB⟩ := hrel
    by_cases h0 : T.size = 0
    · have he : T.toList.isEmpty = true := isEmpty_true T h0
      have hgo : T.size = 0 ∨ 0 < n := .inl h0
      obtain ⟨q, hq⟩ : ∃ q, n % 16 = q := ⟨_, rfl⟩
      obtain ⟨m, hm⟩ : ∃ m, n / 16 = m := ⟨_, rfl⟩
      have hq16 : q < 16 := by omega
      have HLT : Hid (2 * m + 0 < 2 * n + (if T.size = 0 then 1 else 0)) := by show _ < _; split <;> omega
      have htm : Int.tmod (n : Int) 16 = (q : Int) := by rw [Int.tmod_eq_emod_of_nonneg (by omega)]; omega
      have htd : Int.tdiv (n : Int) 16 = (m : Int) := by rw [Int.tdiv_eq_ediv_of_nonneg (by omega)]; omega
      have hw1 : IntKind.u64.wrap (q : Int) = (q : Int) := by simp [IntKind.wrap, IntKind.bits, IntKind.signed]; omega
      have hw2 : IntKind.u64.wrap ((q : Int) + 1) = (q : Int) + 1 := by simp [IntKind.wrap, IntKind.bits, IntKind.signed]; omega
      have hw3 : IntKind.u64.wrap (m : Int) = (m : Int) := by simp [IntKind.wrap, IntKind.bits, IntKind.signed]; omega
      have hm64 : m < 18446744073709551616 := by omega
      have hab := HAB.out ⟨q, hq16⟩
      simp only at hab
      have HST : Hid (∀ D : ByteArray, bn D = [dg q] → Wr 16 n0 m (D ++ T)) := fun D hD => by
        rw [← hm]
        exact Wr.step (by decide) (by exact hn) hgo (by rw [hq]; exact hD) HI.out
      obtain ⟨D, hD⟩ : ∃ D : ByteArray, (⟨#[48, 49, 50, 51, 52, 53, 54, 55, 56, 57, 97, 98, 99, 100, 101, 102]⟩ : ByteArray).extract q (q + 1) = D := ⟨_, rfl⟩
      rw [hD] at hab
      have HW2 := hid (HST.out D hab)
      have HDS : Hid (D.size = 1) := by show _ = _; rw [← bn_length, hab]; rfl
      have HSZ := hid (HW2.out.size)
      have HDD := hid hD
      clear hq hm hab HST hD
      go_wp2
      go_quiet (fail)
      go_wp2
      rw [HDD.out]
      refine ⟨⟨m, D ++ T, hm64, rfl, rfl, HSZ.out, HW2, hid (below_drewN HB.out _)⟩, ?_⟩
      have e0 : ¬ (D ++ T).size = 0 := by rw [ByteArray.size_append, HDS.out]; omega
      rw [show (if strLen (Value.string (D ++ T)) = 0 then 1 else 0) = 0 from if_neg e0]
      exact HLT.out
    · have he : T.toList.isEmpty = false := isEmpty_false T (by omega)
      by_cases hp : 0 < n
      · have hpz : (0 : Int) < (n : Int) := by omega
        have hgo : T.size = 0 ∨ 0 < n := .inr hp
        obtain ⟨q, hq⟩ : ∃ q, n % 16 = q := ⟨_, rfl⟩
        obtain ⟨m, hm⟩ : ∃ m, n / 16 = m := ⟨_, rfl⟩
        have hq16 : q < 16 := by omega
        have HLT : Hid (2 * m + 0 < 2 * n + (if T.size = 0 then 1 else 0)) := by show _ < _; split <;> omega
        have htm : Int.tmod (n : Int) 16 = (q : Int) := by rw [Int.tmod_eq_emod_of_nonneg (by omega)]; omega
        have htd : Int.tdiv (n : Int) 16 = (m : Int) := by rw [Int.tdiv_eq_ediv_of_nonneg (by omega)]; omega
        have hw1 : IntKind.u64.wrap (q : Int) = (q : Int) := by simp [IntKind.wrap, IntKind.bits, IntKind.signed]; omega
        have hw2 : IntKind.u64.wrap ((q : Int) + 1) = (q : Int) + 1 := by simp [IntKind.wrap, IntKind.bits, IntKind.signed]; omega
        have hw3 : IntKind.u64.wrap (m : Int) = (m : Int) := by simp [IntKind.wrap, IntKind.bits, IntKind.signed]; omega
        have hm64 : m < 18446744073709551616 := by omega
        have hab := HAB.out ⟨q, hq16⟩
        simp only at hab
        have HST : Hid (∀ D : ByteArray, bn D = [dg q] → Wr 16 n0 m (D ++ T)) := fun D hD => by
          rw [← hm]
          exact Wr.step (by decide) (by exact hn) hgo (by rw [hq]; exact hD) HI.out
        obtain ⟨D, hD⟩ : ∃ D : ByteArray, (⟨#[48, 49, 50, 51, 52, 53, 54, 55, 56, 57, 97, 98, 99, 100, 101, 102]⟩ : ByteArray).extract q (q + 1) = D := ⟨_, rfl⟩
        rw [hD] at hab
        have HW2 := hid (HST.out D hab)
        have HDS : Hid (D.size = 1) := by show _ = _; rw [← bn_length, hab]; rfl
        have HSZ := hid (HW2.out.size)
        have HDD := hid hD
        clear hq hm hab HST hD
        go_wp2
        go_quiet (fail)
        go_wp2
        rw [HDD.out]
        refine ⟨⟨m, D ++ T, hm64, rfl, rfl, HSZ.out, HW2, hid (below_drewN HB.out _)⟩, ?_⟩
        have e0 : ¬ (D ++ T).size = 0 := by rw [ByteArray.size_append, HDS.out]; omega
        rw [show (if strLen (Value.string (D ++ T)) = 0 then 1 else 0) = 0 from if_neg e0]
        exact HLT.out
      · obtain rfl : n = 0 := by omega
        have HE := hid (HFIN.out T (HI.out.fin (by omega)))
        clear HI
        go_wp2
        go_ret
        exact ⟨⟨_, rfl, HE.out⟩, HB.out⟩
set_option maxRecDepth 100000 in
set_option maxHeartbeats 4000000 in
theorem written1 (n0 : Nat) (hn0 : n0 < 18446744073709551616) (w : World) : Calls Tryd.prog 16 #[.int .u64 n0, .int .u8 1] w fun e W' => (∃ t, e = .returned (.string t) ∧ bn t = wrt 1 n0) ∧ Below w.heap.size w W' := by
  have HFIN : Hid (∀ T : ByteArray, bn T = wr 8 n0 → bn (⟨#[48]⟩ ++ T) = wrt 1 n0) := fun T h => by rw [bn_append, h]; rfl
  have HAB := hid abcx_at
  unfold abcx at HAB
  have hi1 : ∀ W : World, (Instr.index 56 (.agg #[.int .u64 16, .int .u64 8, .int .u64 10]) (.int .u8 1)).run Tryd.prog W = .ok (.int .u64 8) W := fun W => by kernel_rfl
  have hi2 : ∀ W : World, (Instr.index 57 (.agg #[.string ⟨#[48, 120]⟩, .string ⟨#[48]⟩, .string ⟨#[]⟩]) (.int .u8 1)).run Tryd.prog W = .ok (.string ⟨#[48]⟩) W := fun W => by kernel_rfl
  go_enter Tryd.func16, Tryd.ntmps16
  go_wp2_with fail
  go_loopw [0, 6] (fun v0 v6 wr' => ∃ (n : Nat) (T : ByteArray), n < 18446744073709551616 ∧ v0 = .int .u64 n ∧ v6 = .string T ∧ T.size ≤ 65 ∧ Hid (Wr 8 n0 n T) ∧ Hid (Below w.heap.size w wr')) (fun v0 v6 _ => 2 * (intOf v0).toNat + (if strLen v6 = 0 then 1 else 0))
  case atStart => exact ⟨n0, ⟨#[]⟩, hn0, rfl, rfl, by decide, .inl ⟨rfl, rfl⟩, Below.refl _ _⟩
  case round =>
    obtain ⟨n, T, hn, rfl, rfl, hT, HI, HB⟩ := hrel
    by_cases h0 : T.size = 0
    · have he : T.toList.isEmpty = true := isEmpty_true T h0
      have hgo : T.size = 0 ∨ 0 < n := .inl h0
      obtain ⟨q, hq⟩ : ∃ q, n % 8 = q := ⟨_, rfl⟩
      obtain ⟨m, hm⟩ : ∃ m, n / 8 = m := ⟨_, rfl⟩
      have hq16 : q < 16 := by omega
      have HLT : Hid (2 * m + 0 < 2 * n + (if T.size = 0 then 1 else 0)) := by show _ < _; split <;> omega
      have htm : Int.tmod (n : Int) 8 = (q : Int) := by rw [Int.tmod_eq_emod_of_nonneg (by omega)]; omega
      have htd : Int.tdiv (n : Int) 8 = (m : Int) := by rw [Int.tdiv_eq_ediv_of_nonneg (by omega)]; omega
      have hw1 : IntKind.u64.wrap (q : Int) = (q : Int) := by simp [IntKind.wrap, IntKind.bits, IntKind.signed]; omega
      have hw2 : IntKind.u64.wrap ((q : Int) + 1) = (q : Int) + 1 := by simp [IntKind.wrap, IntKind.bits, IntKind.signed]; omega
      have hw3 : IntKind.u64.wrap (m : Int) = (m : Int) := by simp [IntKind.wrap, IntKind.bits, IntKind.signed]; omega
      have hm64 : m < 18446744073709551616 := by omega
      have hab := HAB.out ⟨q, hq16⟩
      simp only at hab
      have HST : Hid (∀ D : ByteArray, bn D = [dg q] → Wr 8 n0 m (D ++ T)) := fun D hD => by
        rw [← hm]
        exact Wr.step (by decide) (by exact hn) hgo (by rw [hq]; exact hD) HI.out
      obtain ⟨D, hD⟩ : ∃ D : ByteArray, (⟨#[48, 49, 50, 51, 52, 53, 54, 55, 56, 57, 97, 98, 99, 100, 101, 102]⟩ : ByteArray).extract q (q + 1) = D := ⟨_, rfl⟩
      rw [hD] at hab
      have HW2 := hid (HST.out D hab)
      have HDS : Hid (D.size = 1) := by show _ = _; rw [← bn_length, hab]; rfl
      have HSZ := hid (HW2.out.size)
      have HDD := hid hD
      clear hq hm hab HST hD
      go_wp2
      go_quiet (fail)
      go_wp2
      rw [HDD.out]
      refine ⟨⟨m, D ++ T, hm64, rfl, rfl, HSZ.out, HW2, hid (below_drewN HB.out _)⟩, ?_⟩
      have e0 : ¬ (D ++ T).size = 0 := by rw [ByteArray.size_append, HDS.out]; omega
      rw [show (if strLen (Value.string (D ++ T)) = 0 then 1 else 0) = 0 from if_neg e0]
      exact HLT.out
    · have he : T.toList.isEmpty = false := isEmpty_false T (by omega)
      by_cases hp : 0 < n
      · have hpz : (0 : Int) < (n : Int) := by omega
        have hgo : T.size = 0 ∨ 0 < n := .inr hp
        obtain ⟨q, hq⟩ : ∃ q, n % 8 = q := ⟨_, rfl⟩
        obtain ⟨m, hm⟩ : ∃ m, n / 8 = m := ⟨_, rfl⟩
        have hq16 : q < 16 := by omega
        have HLT : Hid (2 * m + 0 < 2 * n + (if T.size = 0 then 1 else 0)) := by show _ < _; split <;> omega
        have htm : Int.tmod (n : Int) 8 = (q : Int) := by rw [Int.tmod_eq_emod_of_nonneg (by omega)]; omega
        have htd : Int.tdiv (n : Int) 8 = (m : Int) := by rw [Int.tdiv_eq_ediv_of_nonneg (by omega)]; omega
        have hw1 : IntKind.u64.wrap (q : Int) = (q : Int) := by simp [IntKind.wrap, IntKind.bits, IntKind.signed]; omega
        have hw2 : IntKind.u64.wrap ((q : Int) + 1) = (q : Int) + 1 := by simp [IntKind.wrap, IntKind.bits, IntKind.signed]; omega
        have hw3 : IntKind.u64.wrap (m : Int) = (m : Int) := by simp [IntKind.wrap, IntKind.bits, IntKind.signed]; omega
        have hm64 : m < 18446744073709551616 := by omega
        have hab := HAB.out ⟨q, hq16⟩
        simp only at hab
        have HST : Hid (∀ D : ByteArray, bn D = [dg q] → Wr 8 n0 m (D ++ T)) := fun D hD => by
          rw [← hm]
          exact Wr.step (by decide) (by exact hn) hgo (by rw [hq]; exact hD) HI.out
        obtain ⟨D, hD⟩ : ∃ D : ByteArray, (⟨#[48, 49, 50, 51, 52, 53, 54, 55, 56, 57, 97, 98, 99, 100, 101, 102]⟩ : ByteArray).extract q (q + 1) = D := ⟨_, rfl⟩
        rw [hD] at hab
        have HW2 := hid (HST.out D hab)
        have HDS : Hid (D.size = 1) := by show _ = _; rw [← bn_length, hab]; rfl
        have HSZ := hid (HW2.out.size)
        have HDD := hid hD
        clear hq hm hab HST hD
        go_wp2
        go_quiet (fail)
        go_wp2
        rw [HDD.out]
        refine ⟨⟨m, D ++ T, hm64, rfl, rfl, HSZ.out, HW2, hid (below_drewN HB.out _)⟩, ?_⟩
        have e0 : ¬ (D ++ T).size = 0 := by rw [ByteArray.size_append, HDS.out]; omega
        rw [show (if strLen (Value.string (D ++ T)) = 0 then 1 else 0) = 0 from if_neg e0]
        exact HLT.out
      · obtain rfl : n = 0 := by omega
        have HE := hid (HFIN.out T (HI.out.fin (by omega)))
        clear HI
        go_wp2
        go_ret
        exact ⟨⟨_, rfl, HE.out⟩, HB.out⟩
set_option maxRecDepth 100000 in
set_option maxHeartbeats 4000000 in
theorem written2 (n0 : Nat) (hn0 : n0 < 18446744073709551616) (w : World) : Calls Tryd.prog 16 #[.int .u64 n0, .int .u8 2] w fun e W' => (∃ t, e = .returned (.string t) ∧ bn t = wrt 2 n0) ∧ Below w.heap.size w W' := by
  have HFIN : Hid (∀ T : ByteArray, bn T = wr 10 n0 → bn (⟨#[]⟩ ++ T) = wrt 2 n0) := fun T h => by rw [bn_append, h]; rfl
  have HAB := hid abcx_at
  unfold abcx at HAB
  have hi1 : ∀ W : World, (Instr.index 56 (.agg #[.int .u64 16, .int .u64 8, .int .u64 10]) (.int .u8 2)).run Tryd.prog W = .ok (.int .u64 10) W := fun W => by kernel_rfl
  have hi2 : ∀ W : World, (Instr.index 57 (.agg #[.string ⟨#[48, 120]⟩, .string ⟨#[48]⟩, .string ⟨#[]⟩]) (.int .u8 2)).run Tryd.prog W = .ok (.string ⟨#[]⟩) W := fun W => by kernel_rfl
  go_enter Tryd.func16, Tryd.ntmps16
  go_wp2_with fail
  go_loopw [0, 6] (fun v0 v6 wr' => ∃ (n : Nat) (T : ByteArray), n < 18446744073709551616 ∧ v0 = .int .u64 n ∧ v6 = .string T ∧ T.size ≤ 65 ∧ Hid (Wr 10 n0 n T) ∧ Hid (Below w.heap.size w wr')) (fun v0 v6 _ => 2 * (intOf v0).toNat + (if strLen v6 = 0 then 1 else 0))
  case atStart => exact ⟨n0, ⟨#[]⟩, hn0, rfl, rfl, by decide, .inl ⟨rfl, rfl⟩, Below.refl _ _⟩
  case round =>
    obtain ⟨n, T, hn, rfl, rfl, hT, HI, HB⟩ := hrel
    by_cases h0 : T.size = 0
    · have he : T.toList.isEmpty = true := isEmpty_true T h0
      have hgo : T.size = 0 ∨ 0 < n := .inl h0
      obtain ⟨q, hq⟩ : ∃ q, n % 10 = q := ⟨_, rfl⟩
      obtain ⟨m, hm⟩ : ∃ m, n / 10 = m := ⟨_, rfl⟩
      have hq16 : q < 16 := by omega
      have HLT : Hid (2 * m + 0 < 2 * n + (if T.size = 0 then 1 else 0)) := by show _ < _; split <;> omega
      have htm : Int.tmod (n : Int) 10 = (q : Int) := by rw [Int.tmod_eq_emod_of_nonneg (by omega)]; omega
      have htd : Int.tdiv (n : Int) 10 = (m : Int) := by rw [Int.tdiv_eq_ediv_of_nonneg (by omega)]; omega
      have hw1 : IntKind.u64.wrap (q : Int) = (q : Int) := by simp [IntKind.wrap, IntKind.bits, IntKind.signed]; omega
      have hw2 : IntKind.u64.wrap ((q : Int) + 1) = (q : Int) + 1 := by simp [IntKind.wrap, IntKind.bits, IntKind.signed]; omega
      have hw3 : IntKind.u64.wrap (m : Int) = (m : Int) := by simp [IntKind.wrap, IntKind.bits, IntKind.signed]; omega
      have hm64 : m < 18446744073709551616 := by omega
      have hab := HAB.out ⟨q, hq16⟩
      simp only at hab
      have HST : Hid (∀ D : ByteArray, bn D = [dg q] → Wr 10 n0 m (D ++ T)) := fun D hD => by
        rw [← hm]
        exact Wr.step (by decide) (by exact hn) hgo (by rw [hq]; exact hD) HI.out
      obtain ⟨D, hD⟩ : ∃ D : ByteArray, (⟨#[48, 49, 50, 51, 52, 53, 54, 55, 56, 57, 97, 98, 99, 100, 101, 102]⟩ : ByteArray).extract q (q + 1) = D := ⟨_, rfl⟩
      rw [hD] at hab
      have HW2 := hid (HST.out D hab)
      have HDS : Hid (D.size = 1) := by show _ = _; rw [← bn_length, hab]; rfl
      have HSZ := hid (HW2.out.size)
      have HDD := hid hD
      clear hq hm hab HST hD
      go_wp2
      go_quiet (fail)
      go_wp2
      rw [HDD.out]
      refine ⟨⟨m, D ++ T, hm64, rfl, rfl, HSZ.out, HW2, hid (below_drewN HB.out _)⟩, ?_⟩
      have e0 : ¬ (D ++ T).size = 0 := by rw [ByteArray.size_append, HDS.out]; omega
      rw [show (if strLen (Value.string (D ++ T)) = 0 then 1 else 0) = 0 from if_neg e0]
      exact HLT.out
    · have he : T.toList.isEmpty = false := isEmpty_false T (by omega)
      by_cases hp : 0 < n
      · have hpz : (0 : Int) < (n : Int) := by omega
        have hgo : T.size = 0 ∨ 0 < n := .inr hp
        obtain ⟨q, hq⟩ : ∃ q, n % 10 = q := ⟨_, rfl⟩
        obtain ⟨m, hm⟩ : ∃ m, n / 10 = m := ⟨_, rfl⟩
        have hq16 : q < 16 := by omega
        have HLT : Hid (2 * m + 0 < 2 * n + (if T.size = 0 then 1 else 0)) := by show _ < _; split <;> omega
        have htm : Int.tmod (n : Int) 10 = (q : Int) := by rw [Int.tmod_eq_emod_of_nonneg (by omega)]; omega
        have htd : Int.tdiv (n : Int) 10 = (m : Int) := by rw [Int.tdiv_eq_ediv_of_nonneg (by omega)]; omega
        have hw1 : IntKind.u64.wrap (q : Int) = (q : Int) := by simp [IntKind.wrap, IntKind.bits, IntKind.signed]; omega
        have hw2 : IntKind.u64.wrap ((q : Int) + 1) = (q : Int) + 1 := by simp [IntKind.wrap, IntKind.bits, IntKind.signed]; omega
        have hw3 : IntKind.u64.wrap (m : Int) = (m : Int) := by simp [IntKind.wrap, IntKind.bits, IntKind.signed]; omega
        have hm64 : m < 18446744073709551616 := by omega
        have hab := HAB.out ⟨q, hq16⟩
        simp only at hab
        have HST : Hid (∀ D : ByteArray, bn D = [dg q] → Wr 10 n0 m (D ++ T)) := fun D hD => by
          rw [← hm]
          exact Wr.step (by decide) (by exact hn) hgo (by rw [hq]; exact hD) HI.out
        obtain ⟨D, hD⟩ : ∃ D : ByteArray, (⟨#[48, 49, 50, 51, 52, 53, 54, 55, 56, 57, 97, 98, 99, 100, 101, 102]⟩ : ByteArray).extract q (q + 1) = D := ⟨_, rfl⟩
        rw [hD] at hab
        have HW2 := hid (HST.out D hab)
        have HDS : Hid (D.size = 1) := by show _ = _; rw [← bn_length, hab]; rfl
        have HSZ := hid (HW2.out.size)
        have HDD := hid hD
        clear hq hm hab HST hD
        go_wp2
        go_quiet (fail)
        go_wp2
        rw [HDD.out]
        refine ⟨⟨m, D ++ T, hm64, rfl, rfl, HSZ.out, HW2, hid (below_drewN HB.out _)⟩, ?_⟩
        have e0 : ¬ (D ++ T).size = 0 := by rw [ByteArray.size_append, HDS.out]; omega
        rw [show (if strLen (Value.string (D ++ T)) = 0 then 1 else 0) = 0 from if_neg e0]
        exact HLT.out
      · obtain rfl : n = 0 := by omega
        have HE := hid (HFIN.out T (HI.out.fin (by omega)))
        clear HI
        go_wp2
        go_ret
        exact ⟨⟨_, rfl, HE.out⟩, HB.out⟩
theorem written_any (n0 : Nat) (hn0 : n0 < 18446744073709551616) (k : Nat) (hk : k < 3) (w : World) : Calls Tryd.prog 16 #[.int .u64 n0, .int .u8 k] w fun e W' => (∃ t, e = .returned (.string t) ∧ bn t = wrt k n0) ∧ Below w.heap.size w W' := by
  obtain rfl | rfl | rfl : k = 0 ∨ k = 1 ∨ k = 2 := by omega
  · exact written0 n0 hn0 w
  · exact written1 n0 hn0 w
  · exact written2 n0 hn0 w
end Go.Proofs.YtklplalfcpigcaaDoor.F
