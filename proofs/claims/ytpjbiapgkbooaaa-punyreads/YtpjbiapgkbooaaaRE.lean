/- The document's Decode at every text; PunyReads' walk. -/
import Derived.Test.YtpjbiapgkbooaaaRD
namespace Go.Proofs.Ytpjbiapgkbooaaa
open Go.RowKit U
set_option linter.unusedVariables false

set_option maxRecDepth 100000 in
set_option maxHeartbeats 4000000 in
theorem rdecode_any (s : ByteArray) (w : World) :
    Calls Try.prog 14 #[.string s] w fun e W' => (∃ v r, e = .returned (.tuple #[v, .int .i64 r]) ∧ DecR (bn s) W' w.heap.size v r) ∧ Below w.heap.size w W' := by
  by_cases h : s.size ≤ 63
  · exact rdecode_some s h w
  · have h1 : 63 < s.size := by omega
    go_enter Try.func14, Try.ntmps14
    go_wp2
    go_ret2
    exact ⟨⟨_, _, rfl, .inl ⟨by rw [bn_length]; exact h1, rfl, rfl⟩⟩, Below.refl _ _⟩
/-- What is answered of a text, and by which error. -/
def decA (l : List Int) : List Int × Int :=
  if 63 < l.length then ([], 4) else if asc l = false then ([], 8) else match DecP l with
    | none => ([], 8)
    | some pts => (pts, 0)
theorem DecR.one {l : List Int} {W : World} {base : Nat} {v : Value} {e : Int} (h : DecR l W base v e) (hb : Bytes l) : IntsAt W v (decA l).1 ∧ e = (decA l).2 ∧ (decA l).1.length ≤ 63 := by
  unfold decA
  rcases h with ⟨h1, rfl, rfl⟩ | ⟨h1, h2, rfl, rfl⟩ | ⟨h1, h2, pts, h3, rfl, h4⟩
  · rw [if_pos h1]
    exact ⟨.inl ⟨rfl, _, _, rfl⟩, rfl, Nat.zero_le _⟩
  · rw [if_neg (by omega)]
    split
    · exact ⟨.inl ⟨rfl, _, _, rfl⟩, rfl, Nat.zero_le _⟩
    · rename_i h3
      rcases h2 with h2 | h2
      · exact absurd h2 h3
      · rw [h2]
        exact ⟨.inl ⟨rfl, _, _, rfl⟩, rfl, Nat.zero_le _⟩
  · rw [if_neg (by omega), if_neg (by rw [h2]; exact Bool.noConfusion), h3]
    exact ⟨IntsAt.own rfl h4, rfl, (enc_dec h3 h2 hb h1).2.2⟩
theorem dec_same (l : List Int) : decide (l = l) = true := decide_eq_true rfl
set_option maxRecDepth 100000 in
set_option maxHeartbeats 4000000 in
theorem reads_walk (s : ByteArray) (w : World) (hs : s.size ≤ maxLen) :
    Calls Try.prog 4 #[.string s] w fun e w' => e = .returned (.bool true) ∧ Below w.heap.size w w' := by
  unfold maxLen at hs
  go_enter Try.func4, Try.ntmps4
  by_cases h1 : 1024 < s.size
  · go_wp2_with (go_at_call 8; refine (works_any _).mono ?_; rintro e w1 ⟨rfl, B1⟩)
    go_ret
    exact ⟨rfl, B1⟩
  · go_wp2_with fail
    refine (pdecode_any s w).mono ?_
    rintro e w1 ⟨⟨v1, r1, rfl, hD⟩, B1⟩
    obtain ⟨i1, e1, l1⟩ := hD.one (bn_bytes s)
    have E1 := hid e1
    clear e1
    go_wp2_with fail
    refine (rdecode_any s w1).mono ?_
    rintro e w2 ⟨⟨v2, r2, rfl, hD2⟩, B2⟩
    obtain ⟨i2, e2, l2⟩ := hD2.one (bn_bytes s)
    obtain rfl : r1 = r2 := E1.out.trans e2.symm
    have b2 := hid (B1.trans (B2.mono B1.size))
    have I1 := hid (i1.below B2 (Nat.le_refl _))
    have I2 := hid i2
    obtain ⟨l, hl⟩ : ∃ l, (decA (bn s)).1 = l := ⟨_, rfl⟩
    rw [hl] at I1 I2 l1
    obtain ⟨a1, c1, rfl⟩ := ints_sh I1.out
    obtain ⟨a2, c2, rfl⟩ := ints_sh I2.out
    clear hD hD2 i1 i2 E1 e2 l2 B1 B2 hl
    go_wp2_with (first
      | (go_at_call 15; refine (same_any _ _ l l _ (by omega) I1.out I2.out).mono ?_; rw [dec_same]; rintro e w4 ⟨rfl, B4⟩)
      | (go_at_call 8; refine (works_any _).mono ?_; rintro e w5 ⟨rfl, B5⟩))
    go_ret
    have b4 := b2.out.trans (B4.mono b2.out.size)
    exact ⟨rfl, b4.trans (B5.mono b4.size)⟩
end Go.Proofs.Ytpjbiapgkbooaaa
