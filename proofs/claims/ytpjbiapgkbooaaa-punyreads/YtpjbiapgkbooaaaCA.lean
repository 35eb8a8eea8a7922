/- What is read, its parts: whether all bytes are below 128, the last hyphen, the two halves. -/
import Derived.Test.YtpjbiapgkbooaaaPB
import Derived.Test.YtpjbiapgkbooaaaAA
namespace Go.Proofs.Ytpjbiapgkbooaaa
open Go.RowKit U
set_option linter.unusedVariables false

theorem hid' {p : Prop} (h : p) : Hid p := h
def asc (l : List Int) : Bool := l.all fun c => decide (c < 128)
theorem bn_get (s : ByteArray) (k : Nat) (h : k < s.size) : (bn s)[k]?.getD 0 = (s[k].toNat : Int) := by
  have := bn_drop s k h
  rw [← List.head?_drop, this]; rfl
theorem bn_take (s : ByteArray) (k : Nat) (h : k < s.size) : (bn s).take (k + 1) = (bn s).take k ++ [(s[k].toNat : Int)] := by
  rw [take_snoc (bn s) k (by rw [bn_length]; exact h), bn_get s k h]
theorem asc_snoc (s : ByteArray) (k : Nat) (h : k < s.size) : asc ((bn s).take (k + 1)) = (asc ((bn s).take k) && decide ((s[k].toNat : Int) < 128)) := by
  rw [bn_take s k h, asc, List.all_append]; simp [asc]
theorem asc_false (s : ByteArray) (k : Nat) (h : k < s.size) (hb : 128 ≤ (s[k].toNat : Int)) : asc (bn s) = false := by
  unfold asc
  rw [List.all_eq_false]
  exact ⟨(s[k].toNat : Int), by rw [← List.take_append_drop (k + 1) (bn s), bn_take s k h]; simp, by simp; omega⟩

set_option maxHeartbeats 1000000 in
theorem isPlain_any (s : ByteArray) (hs : s.size ≤ 1024) (w : World) :
    Calls Try.prog 21 #[.string s] w fun e w' => e = .returned (.bool (asc (bn s))) ∧ w' = w := by
  go_enter Try.func21, Try.ntmps21
  go_wp2_with fail
  go_loop [6] (fun i => ∃ k : Nat, k ≤ s.size ∧ i = .int .i64 k ∧ Hid (asc ((bn s).take k) = true)) (fun i => s.size - (intOf i).toNat)
  case atStart => exact ⟨0, Nat.zero_le _, rfl, rfl⟩
  case round =>
    obtain ⟨k, hk, rfl, ha⟩ := hrel
    by_cases hlt : k < s.size
    · have HS := hid' (asc_snoc s k hlt)
      by_cases hb : 128 ≤ (s[k].toNat : Int)
      · have HF := hid' (asc_false s k hlt hb)
        go_wp2
        go_ret
        rw [HF.out]
        exact ⟨rfl, rfl⟩
      · go_wp2
        refine ⟨⟨k + 1, by omega, by go_num, ?_⟩, by simp [intOf]; omega⟩
        show asc _ = true
        rw [HS.out, ha.out]; simp; omega
    · have hkk : k = s.size := by omega
      have HA : Hid (asc (bn s) = true) := by
        have := ha.out
        rw [hkk, List.take_of_length_le (by rw [bn_length]; exact Nat.le_refl _)] at this
        exact this
      go_wp2
      go_ret
      rw [HA.out]
      exact ⟨rfl, rfl⟩

/-- The last hyphen among the first k; 0, if there is none but at 0. -/
def cutK (l : List Int) : Nat → Nat
  | 0 => 0
  | k + 1 => if l[k]?.getD 0 = 45 then k else cutK l k
theorem cutK_le (l : List Int) : ∀ k, cutK l k ≤ k
  | 0 => Nat.le_refl _
  | k + 1 => by have := cutK_le l k; rw [cutK]; split <;> omega
def cutAt (l : List Int) : Nat := cutK l l.length
theorem cutK_at (l : List Int) : ∀ k, cutK l k ≠ 0 → l[cutK l k]?.getD 0 = 45 ∧ cutK l k < k
  | 0, h => absurd rfl h
  | k + 1, h => by
    rw [cutK] at h ⊢
    split
    · rename_i hk; exact ⟨hk, by omega⟩
    · rename_i hk
      rw [if_neg hk] at h
      have := cutK_at l k h
      exact ⟨this.1, by omega⟩

set_option maxHeartbeats 1000000 in
theorem last_any (s : ByteArray) (hs : s.size ≤ 1024) (w : World) :
    Calls Try.prog 41 #[.string s, .int .u8 45] w fun e w' => ∃ r : Int, e = .returned (.int .i64 r) ∧ -1 ≤ r ∧ r ≤ 1024 ∧ r.toNat = cutAt (bn s) ∧ w' = w := by
  go_enter Try.func41, Try.ntmps41
  go_wp2_with fail
  go_loop [5] (fun vi => ∃ k : Nat, k ≤ s.size ∧ vi = .int .i64 ((k : Int) - 1) ∧ Hid (cutAt (bn s) = cutK (bn s) k)) (fun vi => ((intOf vi) + 1).toNat)
  case atStart => exact ⟨s.size, Nat.le_refl _, by first | rfl | go_num | (congr 1; omega), by show cutAt (bn s) = _; rw [cutAt, bn_length]⟩
  case round =>
    obtain ⟨k, hk, rfl, hh⟩ := hrel
    by_cases k0 : k = 0
    · subst k0
      go_wp2
      go_ret
      exact ⟨_, rfl, by omega, by omega, by rw [hh.out]; rfl, rfl⟩
    · obtain ⟨j, rfl⟩ : ∃ j, k = j + 1 := ⟨k - 1, by omega⟩
      have hj : j < s.size := by omega
      have HG := hid' (bn_get s j hj)
      have e1 : ((j + 1 : Nat) : Int) - 1 = (j : Int) := by omega
      rw [e1]
      clear e1
      by_cases hc : (s[j].toNat : Int) = 45
      · have HC := hid' hc
        go_wp2
        go_ret
        exact ⟨_, rfl, by omega, by omega, by rw [hh.out, cutK, if_pos (HG.out.trans HC.out)]; try omega, rfl⟩
      · have HC := hid' hc
        go_wp2
        refine ⟨⟨j, by omega, by first | rfl | go_num, ?_⟩, by simp [intOf]; try omega⟩
        show _ = _
        rw [hh.out, cutK, if_neg (by rw [HG.out]; exact HC.out)]

set_option maxHeartbeats 1000000 in
theorem lastIndex_any (s : ByteArray) (hs : s.size ≤ 1024) (w : World) :
    Calls Try.prog 31 #[.string s, .int .u8 45] w fun e w' => ∃ r : Int, e = .returned (.int .i64 r) ∧ -1 ≤ r ∧ r ≤ 1024 ∧ r.toNat = cutAt (bn s) ∧ w' = w := by
  go_enter Try.func31, Try.ntmps31
  go_wp2_with (go_at_call 41; refine (last_any s hs _).mono ?_; rintro e w' ⟨r, rfl, h1, h2, h3, rfl⟩)
  go_ret
  exact ⟨r, rfl, h1, h2, h3, rfl⟩

/-- What stands ahead of the last hyphen, and the digits. -/
def fore (l : List Int) : List Int := l.take (cutAt l)
def aft (l : List Int) : List Int := if cutAt l = 0 then l else l.drop (cutAt l + 1)

theorem bn_extract (s : ByteArray) (i j : Nat) (h : j ≤ s.size) : bn (s.extract i j) = ((bn s).drop i).take (j - i) := by
  unfold bn
  have e : (s.extract i j).data.toList = (s.data.toList.drop i).take (j - i) := by
    rw [ByteArray.data_extract, Array.toList_extract]
    try simp [List.extract]
  rw [e, List.map_take, List.map_drop]
set_option maxHeartbeats 2000000 in
theorem halves_any (s : ByteArray) (hs : s.size ≤ 1024) (w : World) :
    Calls Try.prog 22 #[.string s] w fun e w' => ∃ a b : ByteArray, e = .returned (.tuple #[.string a, .string b]) ∧ bn a = fore (bn s) ∧ bn b = aft (bn s) ∧ a.size ≤ s.size ∧ b.size ≤ s.size ∧ Below w.heap.size w w' := by
  have hle := cutK_le (bn s) (bn s).length
  rw [bn_length] at hle
  have HW := hid' (cutK_at (bn s) (bn s).length)
  go_enter Try.func22, Try.ntmps22
  go_wp2_with fail
  refine (lastIndex_any s hs _).mono ?_
  rintro e w' ⟨r, rfl, h1, h2, h3, rfl⟩
  have H3 := hid' h3
  clear h3
  by_cases hr : r < 1
  · go_wp2
    go_ret2
    have e0 : cutAt (bn s) = 0 := by rw [← H3.out]; omega
    exact ⟨_, _, rfl, by rw [fore, e0]; rfl, by rw [aft, if_pos e0], Nat.zero_le _, Nat.le_refl _, Below.refl _ _⟩
  · have hne : cutAt (bn s) ≠ 0 := by rw [← H3.out]; omega
    have hlt : r < (s.size : Int) := by
      have := (HW.out hne).2
      have h3 := H3.out
      unfold cutAt at h3
      rw [bn_length] at this h3
      omega
    obtain ⟨k, rfl⟩ : ∃ k : Nat, r = (k : Int) := ⟨r.toNat, by omega⟩
    have hk1 : 1 ≤ k := by omega
    have hks : k < s.size := by omega
    have HN := hid' hne
    clear hne
    have b1 : (0 : Int) ≤ (k : Int) + 1 := by omega
    have b2 : (k : Int) + 1 ≤ (s.size : Int) := by omega
    have b3 : (k : Int) ≤ (s.size : Int) := by omega
    have b4 : IntKind.i64.wrap ((k : Int) + 1) = (k : Int) + 1 := by simp [IntKind.wrap, IntKind.bits, IntKind.signed]; omega
    go_wp2_with fail
    go_region
    all_goals (try go_wp2)
    all_goals go_ret2
    all_goals (
      have ek : cutAt (bn s) = k := by have := H3.out; omega
      refine ⟨_, _, rfl, ?_, ?_, ?_, ?_, (Below.refl _ _).drew⟩
      · rw [bn_extract s 0 k (by omega), fore, ek]; simp
      · rw [bn_extract s (k + 1) s.size (Nat.le_refl _), aft, if_neg HN.out, ek, List.take_of_length_le (by rw [List.length_drop, bn_length]; exact Nat.le_refl _)]
      · rw [ByteArray.size_extract]; omega
      · rw [ByteArray.size_extract]; omega)
end Go.Proofs.Ytpjbiapgkbooaaa
