/- The walk of UtfJoins: it returns true, whatever two texts. -/
import Derived.Test.YtfjfhfolikgajaaG
namespace Go.Proofs.Ytfjfhfolikgajaa
open Go.RowKit

set_option maxRecDepth 100000 in
set_option maxHeartbeats 2000000 in
theorem joins_walk (a b : ByteArray) (ha : a.size ≤ maxLen) (hb : b.size ≤ maxLen) (w : World) :
    Calls Try.prog 6 #[.string a, .string b] w fun e w' => e = .returned (.bool true) ∧ Below w.heap.size w w' := by
  unfold maxLen at ha hb
  by_cases h1 : 8192 < a.size
  · go_enter Try.func6, Try.ntmps6
    go_wp2_with fail
    refine (works_any _).mono ?_
    rintro e w' ⟨rfl, hB⟩
    go_wp2
    go_ret
    exact ⟨rfl, hB⟩
  by_cases h2 : 8192 < b.size
  · go_enter Try.func6, Try.ntmps6
    go_wp2_with fail
    refine (works_any _).mono ?_
    rintro e w' ⟨rfl, hB⟩
    go_wp2
    go_ret
    exact ⟨rfl, hB⟩
  cases hv : val (bn a) with
  | false =>
    have HV : Hid (val (bn a) = false) := hv
    clear hv
    go_enter Try.func6, Try.ntmps6
    go_wp2_with fail
    refine (valid_any _ (by omega) _).mono ?_
    rw [HV.out]
    rintro e w1 ⟨rfl, hB1⟩
    go_wp2_with fail
    refine (works_any _).mono ?_
    rintro e w' ⟨rfl, hB⟩
    go_wp2
    go_ret
    exact ⟨rfl, hB1.trans (hB.mono hB1.size)⟩
  | true =>
    have HV : Hid (val (bn a) = true) := hv
    have HD : Hid (dec (bn (a ++ b)) = dec (bn a) ++ dec (bn b)) := by
      show _ = _
      rw [bn_append]; exact dec_app _ _ _ (Nat.le_refl _) (bn_bytes a) (bn_bytes b) hv
    clear hv
    have la := dec_len _ _ (Nat.le_refl _) (bn_bytes a)
    have lb := dec_len _ _ (Nat.le_refl _) (bn_bytes b)
    rw [bn_length] at la lb
    go_enter Try.func6, Try.ntmps6
    go_wp2_with fail
    refine (valid_any _ (by omega) _).mono ?_
    rw [HV.out]
    rintro e w1 ⟨rfl, hB1⟩
    go_wp2_with fail
    refine (decode_any _ (by omega) _).mono ?_
    rintro e w2 ⟨v2, rfl, hr2, hB2⟩
    have s2 := SrcInts.own rfl hr2
    have B2 := hB1.trans (hB2.mono hB1.size)
    go_wp2_with (at_builtin; refine wpList_append_ints rfl _ _ rfl w.heap.size _ 0 [] rfl (World.ownsRow_nil _ _ _ _) _ _ rfl s2 (by omega) B2.size ?_; intro v3 w3 hr3 hg3)
    have B3 := below_grow B2 B2.size (World.ownsRow_nil w2 w.heap.size 21 1) hg3
    simp only [Nat.zero_add, List.nil_append] at hr3
    clear s2 hr2 hB1 hB2 B2 hg3
    refine (decode_any _ (by omega) _).mono ?_
    rintro e w4 ⟨v4, rfl, hr4, hB4⟩
    have s4 := SrcInts.own rfl hr4
    have r3' := ownsRow_below hr3 hB4 (Nat.le_refl _)
    have B4 := B3.trans (hB4.mono B3.size)
    clear hr3 hB4 B3 hr4
    go_wp2_with (at_builtin; refine wpList_append_ints rfl _ _ rfl w.heap.size _ _ _ rfl r3' _ _ rfl s4 (by omega) B4.size ?_; intro v5 w5 hr5 hg5)
    have B5 := below_grow B4 B4.size r3' hg5
    clear s4 r3' B4 hg5
    refine (decode_any _ (by simp; omega) _).mono ?_
    rw [HD.out]
    rintro e w6 ⟨v6, rfl, hr6, hB6⟩
    have r5' := ownsRow_below hr5 hB6 (Nat.le_refl _)
    have B6 := B5.trans (hB6.mono B5.size)
    have i6 := IntsAt.own rfl hr6
    have i5 := IntsAt.own (by simp) r5'
    clear hr5 hB6 B5 hr6 r5'
    go_wp2_with fail
    refine (runes_same _ _ _ (by simp; omega) _ i6 i5).mono ?_
    rintro e w7 ⟨rfl, n, rfl⟩
    go_wp2_with fail
    refine (works_any _).mono ?_
    rintro e w8 ⟨rfl, hB8⟩
    go_wp2
    go_ret
    have B7 := B6.trans (below_drewN w.heap.size w6 n)
    exact ⟨rfl, B7.trans (hB8.mono B7.size)⟩
end Go.Proofs.Ytfjfhfolikgajaa
