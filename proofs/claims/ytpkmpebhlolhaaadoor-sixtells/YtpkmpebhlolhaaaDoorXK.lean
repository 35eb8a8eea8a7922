/- The law's own ten and hex. (Stage 11; written by tools/r11/xk.py.) -/
import Derived.Test.YtpkmpebhlolhaaaDoorXJ
namespace Go.Proofs.YtpkmpebhlolhaaaDoor.X
open Go.RowKit
open Go.Proofs.YtpkmpebhlolhaaaDoor.F (hx hx_bd vl bn bn_length bn_append bn_inj bn_get byte_bd hid bn_extract isEmpty_false isEmpty_true str_eq same_eq)
set_option linter.unusedVariables false

/-- A number is its last digit behind the others. -/
def Dig (b : Nat) (d : Nat → Int) (f : Nat → List Int) (N : Nat) : Prop := ∀ m, m < N → f m = (if m < b then [] else f (m / b)) ++ [d (m % b)]
/-- Where the writing stands. -/
def Wd (f : Nat → List Int) (n0 n : Nat) (T : ByteArray) : Prop := n ≤ n0 ∧ ((T.size = 0 ∧ n = n0) ∨ (0 < T.size ∧ n = 0 ∧ bn T = f n0) ∨ (0 < T.size ∧ 0 < n ∧ f n0 = f n ++ bn T))
theorem Wd.step {b N : Nat} {d : Nat → Int} {f : Nat → List Int} (hf : Dig b d f N) (hb : 2 ≤ b) {n0 n : Nat} (hn : n0 < N) {T D : ByteArray} (hgo : T.size = 0 ∨ 0 < n) (hD : bn D = [d (n % b)]) (h : Wd f n0 n T) : Wd f n0 (n / b) (D ++ T) := by
  obtain ⟨hle, h⟩ := h
  have hs : 0 < (D ++ T).size := by
    have : D.size = 1 := by rw [← bn_length, hD]; rfl
    rw [ByteArray.size_append, this]; omega
  have e := hf n (by omega)
  refine ⟨Nat.le_trans (Nat.div_le_self _ _) hle, ?_⟩
  by_cases hb2 : n < b
  · have h0 : n / b = 0 := Nat.div_eq_of_lt hb2
    rw [if_pos hb2, List.nil_append] at e
    right; left
    refine ⟨hs, h0, ?_⟩
    rw [bn_append, hD, ← e]
    rcases h with ⟨h1, h2⟩ | ⟨h1, h2, _⟩ | ⟨_, _, h3⟩
    · have : bn T = [] := List.length_eq_zero_iff.1 (by rw [bn_length]; exact h1)
      rw [this, h2, List.append_nil]
    · omega
    · exact h3.symm
  · have h0 : 0 < n / b := Nat.div_pos (by omega) (by omega)
    rw [if_neg hb2] at e
    right; right
    refine ⟨hs, h0, ?_⟩
    rw [bn_append, hD, ← List.append_assoc, ← e]
    rcases h with ⟨h1, h2⟩ | ⟨h1, h2, _⟩ | ⟨_, _, h3⟩
    · have : bn T = [] := List.length_eq_zero_iff.1 (by rw [bn_length]; exact h1)
      rw [this, h2, List.append_nil]
    · omega
    · exact h3
theorem Wd.fin {f : Nat → List Int} {n0 : Nat} {T : ByteArray} (hT : 0 < T.size) (h : Wd f n0 0 T) : bn T = f n0 := by
  rcases h.2 with ⟨h1, _⟩ | ⟨_, _, h3⟩ | ⟨_, h2, _⟩
  · omega
  · exact h3
  · omega
theorem dig_ten : Dig 10 (fun q => 48 + (q : Int)) tenT 256 := fun m hm => by
  have : ∀ m : Fin 256, tenT m.val = (if m.val < 10 then [] else tenT (m.val / 10)) ++ [48 + ((m.val % 10 : Nat) : Int)] := by decide +kernel
  exact this ⟨m, hm⟩
theorem dig_hex (cap : Bool) : Dig 16 (dgc cap) (hexT cap false) 65536 := fun m hm => by
  have e : ∀ n, hexT cap false n = (dgs n).map (dgc cap) := fun n => rfl
  rw [e, e]
  unfold dgs
  by_cases h1 : m < 16
  · rw [if_pos h1, if_pos h1, Nat.mod_eq_of_lt h1]; rfl
  · rw [if_neg h1, if_neg h1]
    by_cases h2 : m < 256
    · rw [if_pos h2, if_pos (by omega)]; rfl
    · rw [if_neg h2]
      by_cases h3 : m < 4096
      · rw [if_pos h3, if_neg (by omega : ¬ m / 16 < 16), if_pos (by omega : m / 16 < 256)]
        have e1 : m / 16 / 16 = m / 256 := by omega
        simp [e1]
      · rw [if_neg h3, if_neg (by omega : ¬ m / 16 < 16), if_neg (by omega : ¬ m / 16 < 256), if_pos (by omega : m / 16 < 4096)]
        have e1 : m / 16 / 256 = m / 4096 := by omega
        have e2 : m / 16 / 16 % 16 = m / 256 % 16 := by omega
        simp [e1, e2]
theorem tenT_size {t : ByteArray} {n : Nat} (h : bn t = tenT n) : t.size ≤ 3 := by
  have := (tenT_len n).2
  rw [← h, bn_length] at this
  exact this
theorem hexTs {cap nts : Bool} {t : ByteArray} {n : Nat} (h : bn t = hexT cap nts n) : t.size ≤ 4 := by
  have := (hexT_len cap nts n).2
  rw [← h, bn_length] at this
  exact this
theorem Wd.size {f : Nat → List Int} {n0 n k : Nat} {T : ByteArray} (hk : (f n0).length ≤ k) (h : Wd f n0 n T) : T.size ≤ k := by
  rcases h.2 with ⟨h1, _⟩ | ⟨_, _, h3⟩ | ⟨_, _, h3⟩
  · omega
  · rw [← bn_length, h3]; exact hk
  · rw [h3, List.length_append, bn_length] at hk
    omega
def strLen : Value → Nat
  | .string s => s.size
  | _ => 0
/-! ### ten -/
theorem one_byte (W : World) (q : Nat) (hq : q < 10) : ∃ t : ByteArray, (convert 50 9 (.slice (some ⟨W.heap.size, 0, none⟩) 1 1)).run Tryd.prog (W.alloc (.cells #[.int .u8 (48 + (q : Int))] 5)) = .ok (.string t) (W.alloc (.cells #[.int .u8 (48 + (q : Int))] 5)) ∧ bn t = [48 + (q : Int)] :=
  conv_at _ W.heap.size 0 1 1 [48 + (q : Int)] rfl (fun x hx => by simp at hx; omega) (fun j hj => by
    obtain rfl : j = 0 := by omega
    exact cell_alloc W _ [.int .u8 (48 + (q : Int))] 0 _ rfl)
set_option maxRecDepth 100000 in
set_option maxHeartbeats 4000000 in
theorem ten_any (n0 : Nat) (hn0 : n0 < 256) (w : World) : Calls Tryd.prog 12 #[.int .u16 n0] w fun e W' => (∃ t, e = .returned (.string t) ∧ bn t = tenT n0) ∧ Below w.heap.size w W' := by
  go_enter Tryd.func12, Tryd.ntmps12
  go_wp2_with fail
  go_loopw [0, 3] (fun v0 v3 wr' => ∃ (n : Nat) (T : ByteArray), n < 256 ∧ v0 = .int .u16 n ∧ v3 = .string T ∧ T.size ≤ 3 ∧ Hid (Wd tenT n0 n T) ∧ Hid (Below w.heap.size w wr')) (fun v0 v3 _ => 2 * (intOf v0).toNat + (if strLen v3 = 0 then 1 else 0))
  case atStart => exact ⟨n0, ⟨#[]⟩, hn0, rfl, rfl, by decide, ⟨Nat.le_refl _, .inl ⟨rfl, rfl⟩⟩, Below.refl _ _⟩
  case round =>
    obtain ⟨n, T, hn, rfl, rfl, hT, HI, HB⟩ := hrel
    by_cases h0 : T.size = 0
    · have he : T.toList.isEmpty = true := isEmpty_true T h0
      have hgo : T.size = 0 ∨ 0 < n := .inl h0
      obtain ⟨q, hq⟩ : ∃ q, n % 10 = q := ⟨_, rfl⟩
      obtain ⟨m, hm⟩ : ∃ m, n / 10 = m := ⟨_, rfl⟩
      have hq10 : q < 10 := by omega
      have HLT : Hid (2 * m + 0 < 2 * n + (if T.size = 0 then 1 else 0)) := by show _ < _; split <;> omega
      have htm : Int.tmod (n : Int) 10 = (q : Int) := by rw [Int.tmod_eq_emod_of_nonneg (by omega)]; omega
      have htd : Int.tdiv (n : Int) 10 = (m : Int) := by rw [Int.tdiv_eq_ediv_of_nonneg (by omega)]; omega
      obtain ⟨D, hcv, hab⟩ := one_byte wr q hq10
      have hm256 : m < 256 := by omega
      have HW2 : Hid (Wd tenT n0 m (D ++ T)) := by
        show Wd _ _ _ _
        rw [← hm]
        exact Wd.step dig_ten (by decide) hn0 hgo (by rw [hq]; exact hab) HI.out
      have hDs : D.size = 1 := by rw [← bn_length, hab]; rfl
      have HDS := hid hDs
      have HSZ := hid (HW2.out.size (tenT_len n0).2)
      have HB2 := hid (HB.out.alloc HB.out.size (.cells #[.int .u8 (48 + (q : Int))] 5))
      clear hq hm hab HI
      go_wp2
      go_roundw
      case rel => exact ⟨m, D ++ T, hm256, rfl, rfl, HSZ.out, HW2, HB2⟩
      case measure =>
        have e0 : ¬ (D ++ T).size = 0 := by rw [ByteArray.size_append, HDS.out]; omega
        rw [show (if strLen (Value.string (D ++ T)) = 0 then 1 else 0) = 0 from if_neg e0]
        exact HLT.out
    · have he : T.toList.isEmpty = false := isEmpty_false T (by omega)
      by_cases hp : 0 < n
      · have hpz : (0 : Int) < (n : Int) := by omega
        have hgo : T.size = 0 ∨ 0 < n := .inr hp
        obtain ⟨q, hq⟩ : ∃ q, n % 10 = q := ⟨_, rfl⟩
        obtain ⟨m, hm⟩ : ∃ m, n / 10 = m := ⟨_, rfl⟩
        have hq10 : q < 10 := by omega
        have HLT : Hid (2 * m + 0 < 2 * n + (if T.size = 0 then 1 else 0)) := by show _ < _; split <;> omega
        have htm : Int.tmod (n : Int) 10 = (q : Int) := by rw [Int.tmod_eq_emod_of_nonneg (by omega)]; omega
        have htd : Int.tdiv (n : Int) 10 = (m : Int) := by rw [Int.tdiv_eq_ediv_of_nonneg (by omega)]; omega
        obtain ⟨D, hcv, hab⟩ := one_byte wr q hq10
        have hm256 : m < 256 := by omega
        have HW2 : Hid (Wd tenT n0 m (D ++ T)) := by
          show Wd _ _ _ _
          rw [← hm]
          exact Wd.step dig_ten (by decide) hn0 hgo (by rw [hq]; exact hab) HI.out
        have hDs : D.size = 1 := by rw [← bn_length, hab]; rfl
        have HDS := hid hDs
        have HSZ := hid (HW2.out.size (tenT_len n0).2)
        have HB2 := hid (HB.out.alloc HB.out.size (.cells #[.int .u8 (48 + (q : Int))] 5))
        clear hq hm hab HI
        go_wp2
        go_roundw
        case rel => exact ⟨m, D ++ T, hm256, rfl, rfl, HSZ.out, HW2, HB2⟩
        case measure =>
          have e0 : ¬ (D ++ T).size = 0 := by rw [ByteArray.size_append, HDS.out]; omega
          rw [show (if strLen (Value.string (D ++ T)) = 0 then 1 else 0) = 0 from if_neg e0]
          exact HLT.out
      · obtain rfl : n = 0 := by omega
        have HE := hid (HI.out.fin (by omega))
        clear HI
        go_wp2
        go_ret
        exact ⟨⟨_, rfl, HE.out⟩, HB.out⟩
/-! ### hex -/
def abc (cap : Bool) : ByteArray := if cap = true then ⟨#[48, 49, 50, 51, 52, 53, 54, 55, 56, 57, 65, 66, 67, 68, 69, 70]⟩ else ⟨#[48, 49, 50, 51, 52, 53, 54, 55, 56, 57, 97, 98, 99, 100, 101, 102]⟩
theorem abc_at : ∀ (cap : Bool) (q : Fin 16), bn ((abc cap).extract q.val (q.val + 1)) = [dgc cap q.val] := by decide +kernel
theorem pad_step {n0 i : Nat} (hi : i < 4) {cap : Bool} : ((pad n0).drop (4 - (i + 1))).map (dgc cap) = dgc cap (n0 / 16 ^ i % 16) :: ((pad n0).drop (4 - i)).map (dgc cap) := by
  obtain rfl | rfl | rfl | rfl : i = 0 ∨ i = 1 ∨ i = 2 ∨ i = 3 := by omega
  · simp [pad]
  · simp [pad]
  · simp [pad]
  · simp [pad]
set_option maxRecDepth 100000 in
set_option maxHeartbeats 4000000 in
theorem hexF_true (n0 : Nat) (hn0 : n0 < 65536) (w : World) : Calls Tryd.prog 13 #[.int .u16 n0, .bool true, .bool false] w fun e W' => (∃ t, e = .returned (.string t) ∧ bn t = hexT true false n0) ∧ W' = w := by
  go_enter Tryd.func13, Tryd.ntmps13
  go_wp2_with fail
  go_loop [0, 8, 9] (fun v0 v8 v9 => ∃ (n i : Nat) (T : ByteArray), n < 65536 ∧ T.size = i ∧ v0 = .int .u16 n ∧ v8 = .string T ∧ v9 = .int .i64 i ∧ T.size ≤ 4 ∧ Hid (Wd (hexT true false) n0 n T)) (fun v0 v8 _ => 2 * (intOf v0).toNat + (if strLen v8 = 0 then 1 else 0))
  case atStart => exact ⟨n0, 0, ⟨#[]⟩, hn0, rfl, rfl, rfl, rfl, by decide, ⟨Nat.le_refl _, .inl ⟨rfl, rfl⟩⟩⟩
  case round =>
    obtain ⟨n, i, T, hn, hin, rfl, rfl, rfl, hT, HI⟩ := hrel
    by_cases h0 : T.size = 0
    · have he : T.toList.isEmpty = true := isEmpty_true T h0
      have hgo : T.size = 0 ∨ 0 < n := .inl h0
      have hi9 : i ≤ 4 := by omega
      obtain ⟨q, hq⟩ : ∃ q, n % 16 = q := ⟨_, rfl⟩
      obtain ⟨m, hm⟩ : ∃ m, n / 16 = m := ⟨_, rfl⟩
      have hq16 : q < 16 := by omega
      have htm : Int.tmod (n : Int) 16 = (q : Int) := by rw [Int.tmod_eq_emod_of_nonneg (by omega)]; omega
      have htd : Int.tdiv (n : Int) 16 = (m : Int) := by rw [Int.tdiv_eq_ediv_of_nonneg (by omega)]; omega
      have hm65 : m < 65536 := by omega
      have hab : bn ((⟨#[48, 49, 50, 51, 52, 53, 54, 55, 56, 57, 65, 66, 67, 68, 69, 70]⟩ : ByteArray).extract q (q + 1)) = [dgc true q] := abc_at true ⟨q, hq16⟩
      obtain ⟨D, hD⟩ : ∃ D : ByteArray, (⟨#[48, 49, 50, 51, 52, 53, 54, 55, 56, 57, 65, 66, 67, 68, 69, 70]⟩ : ByteArray).extract q (q + 1) = D := ⟨_, rfl⟩
      rw [hD] at hab
      have hDs : D.size = 1 := by rw [← bn_length, hab]; rfl
      have HDS := hid hDs
      have hls : (⟨#[48, 49, 50, 51, 52, 53, 54, 55, 56, 57, 65, 66, 67, 68, 69, 70]⟩ : ByteArray).size = 16 := rfl
      have HLT : Hid (2 * m + 0 < 2 * n + (if T.size = 0 then 1 else 0)) := by show _ < _; split <;> omega
      have HW2 : Hid (Wd (hexT true false) n0 m (D ++ T)) := by
        show Wd _ _ _ _
        rw [← hm]
        exact Wd.step (dig_hex true) (by decide) hn0 hgo (by rw [hq]; exact hab) HI.out
      have HSZ := hid (HW2.out.size (hexT_len true false n0).2)
      have HDD := hid hD
      clear hq hm hab HI hD
      go_wp2
      rw [HDD.out]
      refine ⟨⟨m, i + 1, D ++ T, hm65, by rw [ByteArray.size_append, HDS.out]; omega, rfl, rfl, by go_num, HSZ.out, HW2⟩, ?_⟩
      have e0 : ¬ (D ++ T).size = 0 := by rw [ByteArray.size_append, HDS.out]; omega
      rw [show (if strLen (Value.string (D ++ T)) = 0 then 1 else 0) = 0 from if_neg e0]
      exact HLT.out
    · have he : T.toList.isEmpty = false := isEmpty_false T (by omega)
      by_cases hp : 0 < n
      · have hpz : (0 : Int) < (n : Int) := by omega
        have hgo : T.size = 0 ∨ 0 < n := .inr hp
        have hi9 : i ≤ 4 := by omega
        obtain ⟨q, hq⟩ : ∃ q, n % 16 = q := ⟨_, rfl⟩
        obtain ⟨m, hm⟩ : ∃ m, n / 16 = m := ⟨_, rfl⟩
        have hq16 : q < 16 := by omega
        have htm : Int.tmod (n : Int) 16 = (q : Int) := by rw [Int.tmod_eq_emod_of_nonneg (by omega)]; omega
        have htd : Int.tdiv (n : Int) 16 = (m : Int) := by rw [Int.tdiv_eq_ediv_of_nonneg (by omega)]; omega
        have hm65 : m < 65536 := by omega
        have hab : bn ((⟨#[48, 49, 50, 51, 52, 53, 54, 55, 56, 57, 65, 66, 67, 68, 69, 70]⟩ : ByteArray).extract q (q + 1)) = [dgc true q] := abc_at true ⟨q, hq16⟩
        obtain ⟨D, hD⟩ : ∃ D : ByteArray, (⟨#[48, 49, 50, 51, 52, 53, 54, 55, 56, 57, 65, 66, 67, 68, 69, 70]⟩ : ByteArray).extract q (q + 1) = D := ⟨_, rfl⟩
        rw [hD] at hab
        have hDs : D.size = 1 := by rw [← bn_length, hab]; rfl
        have HDS := hid hDs
        have hls : (⟨#[48, 49, 50, 51, 52, 53, 54, 55, 56, 57, 65, 66, 67, 68, 69, 70]⟩ : ByteArray).size = 16 := rfl
        have HLT : Hid (2 * m + 0 < 2 * n + (if T.size = 0 then 1 else 0)) := by show _ < _; split <;> omega
        have HW2 : Hid (Wd (hexT true false) n0 m (D ++ T)) := by
          show Wd _ _ _ _
          rw [← hm]
          exact Wd.step (dig_hex true) (by decide) hn0 hgo (by rw [hq]; exact hab) HI.out
        have HSZ := hid (HW2.out.size (hexT_len true false n0).2)
        have HDD := hid hD
        clear hq hm hab HI hD
        go_wp2
        rw [HDD.out]
        refine ⟨⟨m, i + 1, D ++ T, hm65, by rw [ByteArray.size_append, HDS.out]; omega, rfl, rfl, by go_num, HSZ.out, HW2⟩, ?_⟩
        have e0 : ¬ (D ++ T).size = 0 := by rw [ByteArray.size_append, HDS.out]; omega
        rw [show (if strLen (Value.string (D ++ T)) = 0 then 1 else 0) = 0 from if_neg e0]
        exact HLT.out
      · obtain rfl : n = 0 := by omega
        have HE := hid (HI.out.fin (by omega))
        clear HI
        go_wp2
        go_ret
        exact ⟨⟨_, rfl, HE.out⟩, rfl⟩
set_option maxRecDepth 100000 in
set_option maxHeartbeats 4000000 in
theorem hexF_false (n0 : Nat) (hn0 : n0 < 65536) (w : World) : Calls Tryd.prog 13 #[.int .u16 n0, .bool false, .bool false] w fun e W' => (∃ t, e = .returned (.string t) ∧ bn t = hexT false false n0) ∧ W' = w := by
  go_enter Tryd.func13, Tryd.ntmps13
  go_wp2_with fail
  go_loop [0, 8, 9] (fun v0 v8 v9 => ∃ (n i : Nat) (T : ByteArray), n < 65536 ∧ T.size = i ∧ v0 = .int .u16 n ∧ v8 = .string T ∧ v9 = .int .i64 i ∧ T.size ≤ 4 ∧ Hid (Wd (hexT false false) n0 n T)) (fun v0 v8 _ => 2 * (intOf v0).toNat + (if strLen v8 = 0 then 1 else 0))
  case atStart => exact ⟨n0, 0, ⟨#[]⟩, hn0, rfl, rfl, rfl, rfl, by decide, ⟨Nat.le_refl _, .inl ⟨rfl, rfl⟩⟩⟩
  case round =>
    obtain ⟨n, i, T, hn, hin, rfl, rfl, rfl, hT, HI⟩ := hrel
    by_cases h0 : T.size = 0
    · have he : T.toList.isEmpty = true := isEmpty_true T h0
      have hgo : T.size = 0 ∨ 0 < n := .inl h0
      have hi9 : i ≤ 4 := by omega
      obtain ⟨q, hq⟩ : ∃ q, n % 16 = q := ⟨_, rfl⟩
      obtain ⟨m, hm⟩ : ∃ m, n / 16 = m := ⟨_, rfl⟩
      have hq16 : q < 16 := by omega
      have htm : Int.tmod (n : Int) 16 = (q : Int) := by rw [Int.tmod_eq_emod_of_nonneg (by omega)]; omega
      have htd : Int.tdiv (n : Int) 16 = (m : Int) := by rw [Int.tdiv_eq_ediv_of_nonneg (by omega)]; omega
      have hm65 : m < 65536 := by omega
      have hab : bn ((⟨#[48, 49, 50, 51, 52, 53, 54, 55, 56, 57, 97, 98, 99, 100, 101, 102]⟩ : ByteArray).extract q (q + 1)) = [dgc false q] := abc_at false ⟨q, hq16⟩
      obtain ⟨D, hD⟩ : ∃ D : ByteArray, (⟨#[48, 49, 50, 51, 52, 53, 54, 55, 56, 57, 97, 98, 99, 100, 101, 102]⟩ : ByteArray).extract q (q + 1) = D := ⟨_, rfl⟩
      rw [hD] at hab
      have hDs : D.size = 1 := by rw [← bn_length, hab]; rfl
      have HDS := hid hDs
      have hls : (⟨#[48, 49, 50, 51, 52, 53, 54, 55, 56, 57, 97, 98, 99, 100, 101, 102]⟩ : ByteArray).size = 16 := rfl
      have HLT : Hid (2 * m + 0 < 2 * n + (if T.size = 0 then 1 else 0)) := by show _ < _; split <;> omega
      have HW2 : Hid (Wd (hexT false false) n0 m (D ++ T)) := by
        show Wd _ _ _ _
        rw [← hm]
        exact Wd.step (dig_hex false) (by decide) hn0 hgo (by rw [hq]; exact hab) HI.out
      have HSZ := hid (HW2.out.size (hexT_len false false n0).2)
      have HDD := hid hD
      clear hq hm hab HI hD
      go_wp2
      rw [HDD.out]
      refine ⟨⟨m, i + 1, D ++ T, hm65, by rw [ByteArray.size_append, HDS.out]; omega, rfl, rfl, by go_num, HSZ.out, HW2⟩, ?_⟩
      have e0 : ¬ (D ++ T).size = 0 := by rw [ByteArray.size_append, HDS.out]; omega
      rw [show (if strLen (Value.string (D ++ T)) = 0 then 1 else 0) = 0 from if_neg e0]
      exact HLT.out
    · have he : T.toList.isEmpty = false := isEmpty_false T (by omega)
      by_cases hp : 0 < n
      · have hpz : (0 : Int) < (n : Int) := by omega
        have hgo : T.size = 0 ∨ 0 < n := .inr hp
        have hi9 : i ≤ 4 := by omega
        obtain ⟨q, hq⟩ : ∃ q, n % 16 = q := ⟨_, rfl⟩
        obtain ⟨m, hm⟩ : ∃ m, n / 16 = m := ⟨_, rfl⟩
        have hq16 : q < 16 := by omega
        have htm : Int.tmod (n : Int) 16 = (q : Int) := by rw [Int.tmod_eq_emod_of_nonneg (by omega)]; omega
        have htd : Int.tdiv (n : Int) 16 = (m : Int) := by rw [Int.tdiv_eq_ediv_of_nonneg (by omega)]; omega
        have hm65 : m < 65536 := by omega
        have hab : bn ((⟨#[48, 49, 50, 51, 52, 53, 54, 55, 56, 57, 97, 98, 99, 100, 101, 102]⟩ : ByteArray).extract q (q + 1)) = [dgc false q] := abc_at false ⟨q, hq16⟩
        obtain ⟨D, hD⟩ : ∃ D : ByteArray, (⟨#[48, 49, 50, 51, 52, 53, 54, 55, 56, 57, 97, 98, 99, 100, 101, 102]⟩ : ByteArray).extract q (q + 1) = D := ⟨_, rfl⟩
        rw [hD] at hab
        have hDs : D.size = 1 := by rw [← bn_length, hab]; rfl
        have HDS := hid hDs
        have hls : (⟨#[48, 49, 50, 51, 52, 53, 54, 55, 56, 57, 97, 98, 99, 100, 101, 102]⟩ : ByteArray).size = 16 := rfl
        have HLT : Hid (2 * m + 0 < 2 * n + (if T.size = 0 then 1 else 0)) := by show _ < _; split <;> omega
        have HW2 : Hid (Wd (hexT false false) n0 m (D ++ T)) := by
          show Wd _ _ _ _
          rw [← hm]
          exact Wd.step (dig_hex false) (by decide) hn0 hgo (by rw [hq]; exact hab) HI.out
        have HSZ := hid (HW2.out.size (hexT_len false false n0).2)
        have HDD := hid hD
        clear hq hm hab HI hD
        go_wp2
        rw [HDD.out]
        refine ⟨⟨m, i + 1, D ++ T, hm65, by rw [ByteArray.size_append, HDS.out]; omega, rfl, rfl, by go_num, HSZ.out, HW2⟩, ?_⟩
        have e0 : ¬ (D ++ T).size = 0 := by rw [ByteArray.size_append, HDS.out]; omega
        rw [show (if strLen (Value.string (D ++ T)) = 0 then 1 else 0) = 0 from if_neg e0]
        exact HLT.out
      · obtain rfl : n = 0 := by omega
        have HE := hid (HI.out.fin (by omega))
        clear HI
        go_wp2
        go_ret
        exact ⟨⟨_, rfl, HE.out⟩, rfl⟩
set_option maxRecDepth 100000 in
set_option maxHeartbeats 4000000 in
theorem hexN_true (n0 : Nat) (hn0 : n0 < 65536) (w : World) : Calls Tryd.prog 13 #[.int .u16 n0, .bool true, .bool true] w fun e W' => (∃ t, e = .returned (.string t) ∧ bn t = hexT true true n0) ∧ W' = w := by
  have HFIN : Hid (hexT true true n0 = ((pad n0).drop (4 - 4)).map (dgc true)) := rfl
  go_enter Tryd.func13, Tryd.ntmps13
  go_wp2_with fail
  go_loop [0, 8, 9] (fun v0 v8 v9 => ∃ (n i : Nat) (T : ByteArray), n < 65536 ∧ i ≤ 4 ∧ v0 = .int .u16 n ∧ v8 = .string T ∧ v9 = .int .i64 i ∧ T.size = i ∧ Hid (bn T = ((pad n0).drop (4 - i)).map (dgc true)) ∧ Hid (n = n0 / 16 ^ i)) (fun _ _ v9 => 4 - (intOf v9).toNat)
  case atStart => exact ⟨n0, 0, ⟨#[]⟩, hn0, by omega, rfl, rfl, rfl, rfl, rfl, by show _ = _; simp⟩
  case round =>
    obtain ⟨n, i, T, hn, hi4, rfl, rfl, rfl, hT, HTP, HN⟩ := hrel
    by_cases hlt4 : i < 4
    · have hltz : (i : Int) < 4 := by omega
      by_cases h0 : T.size = 0
      · have he : T.toList.isEmpty = true := isEmpty_true T h0
        obtain ⟨q, hq⟩ : ∃ q, n % 16 = q := ⟨_, rfl⟩
        obtain ⟨m, hm⟩ : ∃ m, n / 16 = m := ⟨_, rfl⟩
        have hq16 : q < 16 := by omega
        have htm : Int.tmod (n : Int) 16 = (q : Int) := by rw [Int.tmod_eq_emod_of_nonneg (by omega)]; omega
        have htd : Int.tdiv (n : Int) 16 = (m : Int) := by rw [Int.tdiv_eq_ediv_of_nonneg (by omega)]; omega
        have hm65 : m < 65536 := by omega
        have hab : bn ((⟨#[48, 49, 50, 51, 52, 53, 54, 55, 56, 57, 65, 66, 67, 68, 69, 70]⟩ : ByteArray).extract q (q + 1)) = [dgc true q] := abc_at true ⟨q, hq16⟩
        obtain ⟨D, hD⟩ : ∃ D : ByteArray, (⟨#[48, 49, 50, 51, 52, 53, 54, 55, 56, 57, 65, 66, 67, 68, 69, 70]⟩ : ByteArray).extract q (q + 1) = D := ⟨_, rfl⟩
        rw [hD] at hab
        have hDs : D.size = 1 := by rw [← bn_length, hab]; rfl
        have HDS := hid hDs
        have hls : (⟨#[48, 49, 50, 51, 52, 53, 54, 55, 56, 57, 65, 66, 67, 68, 69, 70]⟩ : ByteArray).size = 16 := rfl
        have HSN : Hid (bn (D ++ T) = ((pad n0).drop (4 - (i + 1))).map (dgc true)) := by
          show _ = _
          rw [bn_append, hab, HTP.out, pad_step hlt4, ← hq, HN.out]; rfl
        have HN2 : Hid (m = n0 / 16 ^ (i + 1)) := by
          show _ = _
          rw [← hm, HN.out, Nat.div_div_eq_div_mul, Nat.pow_succ]
        have HDD := hid hD
        clear hq hm hab hD HTP HN
        go_wp2
        rw [HDD.out]
        exact ⟨⟨m, i + 1, D ++ T, hm65, by omega, rfl, rfl, by go_num, by rw [ByteArray.size_append, HDS.out]; omega, HSN, HN2⟩, by simp [intOf]; omega⟩
      · have he : T.toList.isEmpty = false := isEmpty_false T (by omega)
        by_cases hp : 0 < n
        · have hpz : (0 : Int) < (n : Int) := by omega
          obtain ⟨q, hq⟩ : ∃ q, n % 16 = q := ⟨_, rfl⟩
          obtain ⟨m, hm⟩ : ∃ m, n / 16 = m := ⟨_, rfl⟩
          have hq16 : q < 16 := by omega
          have htm : Int.tmod (n : Int) 16 = (q : Int) := by rw [Int.tmod_eq_emod_of_nonneg (by omega)]; omega
          have htd : Int.tdiv (n : Int) 16 = (m : Int) := by rw [Int.tdiv_eq_ediv_of_nonneg (by omega)]; omega
          have hm65 : m < 65536 := by omega
          have hab : bn ((⟨#[48, 49, 50, 51, 52, 53, 54, 55, 56, 57, 65, 66, 67, 68, 69, 70]⟩ : ByteArray).extract q (q + 1)) = [dgc true q] := abc_at true ⟨q, hq16⟩
          obtain ⟨D, hD⟩ : ∃ D : ByteArray, (⟨#[48, 49, 50, 51, 52, 53, 54, 55, 56, 57, 65, 66, 67, 68, 69, 70]⟩ : ByteArray).extract q (q + 1) = D := ⟨_, rfl⟩
          rw [hD] at hab
          have hDs : D.size = 1 := by rw [← bn_length, hab]; rfl
          have HDS := hid hDs
          have hls : (⟨#[48, 49, 50, 51, 52, 53, 54, 55, 56, 57, 65, 66, 67, 68, 69, 70]⟩ : ByteArray).size = 16 := rfl
          have HSN : Hid (bn (D ++ T) = ((pad n0).drop (4 - (i + 1))).map (dgc true)) := by
            show _ = _
            rw [bn_append, hab, HTP.out, pad_step hlt4, ← hq, HN.out]; rfl
          have HN2 : Hid (m = n0 / 16 ^ (i + 1)) := by
            show _ = _
            rw [← hm, HN.out, Nat.div_div_eq_div_mul, Nat.pow_succ]
          have HDD := hid hD
          clear hq hm hab hD HTP HN
          go_wp2
          rw [HDD.out]
          exact ⟨⟨m, i + 1, D ++ T, hm65, by omega, rfl, rfl, by go_num, by rw [ByteArray.size_append, HDS.out]; omega, HSN, HN2⟩, by simp [intOf]; omega⟩
        · have hpz : ¬ (0 : Int) < (n : Int) := by omega
          obtain ⟨q, hq⟩ : ∃ q, n % 16 = q := ⟨_, rfl⟩
          obtain ⟨m, hm⟩ : ∃ m, n / 16 = m := ⟨_, rfl⟩
          have hq16 : q < 16 := by omega
          have htm : Int.tmod (n : Int) 16 = (q : Int) := by rw [Int.tmod_eq_emod_of_nonneg (by omega)]; omega
          have htd : Int.tdiv (n : Int) 16 = (m : Int) := by rw [Int.tdiv_eq_ediv_of_nonneg (by omega)]; omega
          have hm65 : m < 65536 := by omega
          have hab : bn ((⟨#[48, 49, 50, 51, 52, 53, 54, 55, 56, 57, 65, 66, 67, 68, 69, 70]⟩ : ByteArray).extract q (q + 1)) = [dgc true q] := abc_at true ⟨q, hq16⟩
          obtain ⟨D, hD⟩ : ∃ D : ByteArray, (⟨#[48, 49, 50, 51, 52, 53, 54, 55, 56, 57, 65, 66, 67, 68, 69, 70]⟩ : ByteArray).extract q (q + 1) = D := ⟨_, rfl⟩
          rw [hD] at hab
          have hDs : D.size = 1 := by rw [← bn_length, hab]; rfl
          have HDS := hid hDs
          have hls : (⟨#[48, 49, 50, 51, 52, 53, 54, 55, 56, 57, 65, 66, 67, 68, 69, 70]⟩ : ByteArray).size = 16 := rfl
          have HSN : Hid (bn (D ++ T) = ((pad n0).drop (4 - (i + 1))).map (dgc true)) := by
            show _ = _
            rw [bn_append, hab, HTP.out, pad_step hlt4, ← hq, HN.out]; rfl
          have HN2 : Hid (m = n0 / 16 ^ (i + 1)) := by
            show _ = _
            rw [← hm, HN.out, Nat.div_div_eq_div_mul, Nat.pow_succ]
          have HDD := hid hD
          clear hq hm hab hD HTP HN
          go_wp2
          rw [HDD.out]
          exact ⟨⟨m, i + 1, D ++ T, hm65, by omega, rfl, rfl, by go_num, by rw [ByteArray.size_append, HDS.out]; omega, HSN, HN2⟩, by simp [intOf]; omega⟩
    · obtain rfl : i = 4 := by omega
      have hn0z : n = 0 := by
        have := HN.out
        omega
      subst hn0z
      have he : T.toList.isEmpty = false := isEmpty_false T (by omega)
      have HE : Hid (bn T = hexT true true n0) := HTP.out.trans HFIN.out.symm
      clear HTP HN
      go_wp2
      go_ret
      exact ⟨⟨_, rfl, HE.out⟩, rfl⟩
set_option maxRecDepth 100000 in
set_option maxHeartbeats 4000000 in
theorem hexN_false (n0 : Nat) (hn0 : n0 < 65536) (w : World) : Calls Tryd.prog 13 #[.int .u16 n0, .bool false, .bool true] w fun e W' => (∃ t, e = .returned (.string t) ∧ bn t = hexT false true n0) ∧ W' = w := by
  have HFIN : Hid (hexT false true n0 = ((pad n0).drop (4 - 4)).map (dgc false)) := rfl
  go_enter Tryd.func13, Tryd.ntmps13
  go_wp2_with fail
  go_loop [0, 8, 9] (fun v0 v8 v9 => ∃ (n i : Nat) (T : ByteArray), n < 65536 ∧ i ≤ 4 ∧ v0 = .int .u16 n ∧ v8 = .string T ∧ v9 = .int .i64 i ∧ T.size = i ∧ Hid (bn T = ((pad n0).drop (4 - i)).map (dgc false)) ∧ Hid (n = n0 / 16 ^ i)) (fun _ _ v9 => 4 - (intOf v9).toNat)
  case atStart => exact ⟨n0, 0, ⟨#[]⟩, hn0, by omega, rfl, rfl, rfl, rfl, rfl, by show _ = _; simp⟩
  case round =>
    obtain ⟨n, i, T, hn, hi4, rfl, rfl, rfl, hT, HTP, HN⟩ := hrel
    by_cases hlt4 : i < 4
    · have hltz : (i : Int) < 4 := by omega
      by_cases h0 : T.size = 0
      · have he : T.toList.isEmpty = true := isEmpty_true T h0
        obtain ⟨q, hq⟩ : ∃ q, n % 16 = q := ⟨_, rfl⟩
        obtain ⟨m, hm⟩ : ∃ m, n / 16 = m := ⟨_, rfl⟩
        have hq16 : q < 16 := by omega
        have htm : Int.tmod (n : Int) 16 = (q : Int) := by rw [Int.tmod_eq_emod_of_nonneg (by omega)]; omega
        have htd : Int.tdiv (n : Int) 16 = (m : Int) := by rw [Int.tdiv_eq_ediv_of_nonneg (by omega)]; omega
        have hm65 : m < 65536 := by omega
        have hab : bn ((⟨#[48, 49, 50, 51, 52, 53, 54, 55, 56, 57, 97, 98, 99, 100, 101, 102]⟩ : ByteArray).extract q (q + 1)) = [dgc false q] := abc_at false ⟨q, hq16⟩
        obtain ⟨D, hD⟩ : ∃ D : ByteArray, (⟨#[48, 49, 50, 51, 52, 53, 54, 55, 56, 57, 97, 98, 99, 100, 101, 102]⟩ : ByteArray).extract q (q + 1) = D := ⟨_, rfl⟩
        rw [hD] at hab
        have hDs : D.size = 1 := by rw [← bn_length, hab]; rfl
        have HDS := hid hDs
        have hls : (⟨#[48, 49, 50, 51, 52, 53, 54, 55, 56, 57, 97, 98, 99, 100, 101, 102]⟩ : ByteArray).size = 16 := rfl
        have HSN : Hid (bn (D ++ T) = ((pad n0).drop (4 - (i + 1))).map (dgc false)) := by
          show _ = _
          rw [bn_append, hab, HTP.out, pad_step hlt4, ← hq, HN.out]; rfl
        have HN2 : Hid (m = n0 / 16 ^ (i + 1)) := by
          show _ = _
          rw [← hm, HN.out, Nat.div_div_eq_div_mul, Nat.pow_succ]
        have HDD := hid hD
        clear hq hm hab hD HTP HN
        go_wp2
        rw [HDD.out]
        exact ⟨⟨m, i + 1, D ++ T, hm65, by omega, rfl, rfl, by go_num, by rw [ByteArray.size_append, HDS.out]; omega, HSN, HN2⟩, by simp [intOf]; omega⟩
      · have he : T.toList.isEmpty = false := isEmpty_false T (by omega)
        by_cases hp : 0 < n
        · have hpz : (0 : Int) < (n : Int) := by omega
          obtain ⟨q, hq⟩ : ∃ q, n % 16 = q := ⟨_, rfl⟩
          obtain ⟨m, hm⟩ : ∃ m, n / 16 = m := ⟨_, rfl⟩
          have hq16 : q < 16 := by omega
          have htm : Int.tmod (n : Int) 16 = (q : Int) := by rw [Int.tmod_eq_emod_of_nonneg (by omega)]; omega
          have htd : Int.tdiv (n : Int) 16 = (m : Int) := by rw [Int.tdiv_eq_ediv_of_nonneg (by omega)]; omega
          have hm65 : m < 65536 := by omega
          have hab : bn ((⟨#[48, 49, 50, 51, 52, 53, 54, 55, 56, 57, 97, 98, 99, 100, 101, 102]⟩ : ByteArray).extract q (q + 1)) = [dgc false q] := abc_at false ⟨q, hq16⟩
          obtain ⟨D, hD⟩ : ∃ D : ByteArray, (⟨#[48, 49, 50, 51, 52, 53, 54, 55, 56, 57, 97, 98, 99, 100, 101, 102]⟩ : ByteArray).extract q (q + 1) = D := ⟨_, rfl⟩
          rw [hD] at hab
          have hDs : D.size = 1 := by rw [← bn_length, hab]; rfl
          have HDS := hid hDs
          have hls : (⟨#[48, 49, 50, 51, 52, 53, 54, 55, 56, 57, 97, 98, 99, 100, 101, 102]⟩ : ByteArray).size = 16 := rfl
          have HSN : Hid (bn (D ++ T) = ((pad n0).drop (4 - (i + 1))).map (dgc false)) := by
            show _ = _
            rw [bn_append, hab, HTP.out, pad_step hlt4, ← hq, HN.out]; rfl
          have HN2 : Hid (m = n0 / 16 ^ (i + 1)) := by
            show _ = _
            rw [← hm, HN.out, Nat.div_div_eq_div_mul, Nat.pow_succ]
          have HDD := hid hD
          clear hq hm hab hD HTP HN
          go_wp2
          rw [HDD.out]
          exact ⟨⟨m, i + 1, D ++ T, hm65, by omega, rfl, rfl, by go_num, by rw [ByteArray.size_append, HDS.out]; omega, HSN, HN2⟩, by simp [intOf]; omega⟩
        · have hpz : ¬ (0 : Int) < (n : Int) := by omega
          obtain ⟨q, hq⟩ : ∃ q, n % 16 = q := ⟨_, rfl⟩
          obtain ⟨m, hm⟩ : ∃ m, n / 16 = m := ⟨_, rfl⟩
          have hq16 : q < 16 := by omega
          have htm : Int.tmod (n : Int) 16 = (q : Int) := by rw [Int.tmod_eq_emod_of_nonneg (by omega)]; omega
          have htd : Int.tdiv (n : Int) 16 = (m : Int) := by rw [Int.tdiv_eq_ediv_of_nonneg (by omega)]; omega
          have hm65 : m < 65536 := by omega
          have hab : bn ((⟨#[48, 49, 50, 51, 52, 53, 54, 55, 56, 57, 97, 98, 99, 100, 101, 102]⟩ : ByteArray).extract q (q + 1)) = [dgc false q] := abc_at false ⟨q, hq16⟩
          obtain ⟨D, hD⟩ : ∃ D : ByteArray, (⟨#[48, 49, 50, 51, 52, 53, 54, 55, 56, 57, 97, 98, 99, 100, 101, 102]⟩ : ByteArray).extract q (q + 1) = D := ⟨_, rfl⟩
          rw [hD] at hab
          have hDs : D.size = 1 := by rw [← bn_length, hab]; rfl
          have HDS := hid hDs
          have hls : (⟨#[48, 49, 50, 51, 52, 53, 54, 55, 56, 57, 97, 98, 99, 100, 101, 102]⟩ : ByteArray).size = 16 := rfl
          have HSN : Hid (bn (D ++ T) = ((pad n0).drop (4 - (i + 1))).map (dgc false)) := by
            show _ = _
            rw [bn_append, hab, HTP.out, pad_step hlt4, ← hq, HN.out]; rfl
          have HN2 : Hid (m = n0 / 16 ^ (i + 1)) := by
            show _ = _
            rw [← hm, HN.out, Nat.div_div_eq_div_mul, Nat.pow_succ]
          have HDD := hid hD
          clear hq hm hab hD HTP HN
          go_wp2
          rw [HDD.out]
          exact ⟨⟨m, i + 1, D ++ T, hm65, by omega, rfl, rfl, by go_num, by rw [ByteArray.size_append, HDS.out]; omega, HSN, HN2⟩, by simp [intOf]; omega⟩
    · obtain rfl : i = 4 := by omega
      have hn0z : n = 0 := by
        have := HN.out
        omega
      subst hn0z
      have he : T.toList.isEmpty = false := isEmpty_false T (by omega)
      have HE : Hid (bn T = hexT false true n0) := HTP.out.trans HFIN.out.symm
      clear HTP HN
      go_wp2
      go_ret
      exact ⟨⟨_, rfl, HE.out⟩, rfl⟩
theorem hex_any (n0 : Nat) (hn0 : n0 < 65536) (cap nts : Bool) (w : World) : Calls Tryd.prog 13 #[.int .u16 n0, .bool cap, .bool nts] w fun e W' => (∃ t, e = .returned (.string t) ∧ bn t = hexT cap nts n0) ∧ W' = w := by
  cases nts with
  | false =>
    cases cap with
    | true => exact hexF_true n0 hn0 w
    | false => exact hexF_false n0 hn0 w
  | true =>
    cases cap with
    | true => exact hexN_true n0 hn0 w
    | false => exact hexN_false n0 hn0 w
end Go.Proofs.YtpkmpebhlolhaaaDoor.X
