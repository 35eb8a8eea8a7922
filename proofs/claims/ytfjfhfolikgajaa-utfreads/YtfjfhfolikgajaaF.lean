/- The walk of UtfReads: it returns true, whatever bytes. -/
import Derived.Test.YtfjfhfolikgajaaL
namespace Go.Proofs.Ytfjfhfolikgajaa
open Go.RowKit

set_option maxRecDepth 100000 in
set_option maxHeartbeats 4000000 in
theorem reads_walk (s : ByteArray) (hs : s.size ≤ maxLen) (w : World) :
    Calls Try.prog 3 #[.string s] w fun e w' => e = .returned (.bool true) ∧ Below w.heap.size w w' := by
  unfold maxLen at hs
  by_cases h1 : 8192 < s.size
  · go_enter Try.func3, Try.ntmps3
    go_wp2_with fail
    refine (works_any _).mono ?_
    rintro e w' ⟨rfl, hB⟩
    go_wp2
    go_ret
    exact ⟨rfl, hB⟩
  have ls := dec_len _ _ (Nat.le_refl _) (bn_bytes s)
  rw [bn_length] at ls
  have DS : Hid ((dec (bn s)).all scal = true) := dec_scal _ _ (Nat.le_refl _) (bn_bytes s)
  go_enter Try.func3, Try.ntmps3
  go_wp2_with fail
  refine (next_any _ _ (by omega)).mono ?_
  rintro e w1 ⟨rfl, n, rfl⟩
  have B1 := below_drewN w.heap.size w n
  go_wp2_with fail
  refine (refNext_any _ _ (by omega)).mono ?_
  rintro e w2 ⟨rfl, hB2⟩
  have B2 := B1.trans (hB2.mono B1.size)
  clear B1 hB2
  generalize nx (bn s) = x
  obtain ⟨r, k, b⟩ := x
  simp only
  go_wp2_with fail
  refine (refDecode_any _ (by omega) _).mono ?_
  rintro e w3 ⟨v3, rfl, hr3, hB3⟩
  have B3 := B2.trans (hB3.mono B2.size)
  have i3 := IntsAt.own rfl hr3
  clear B2 hB3 hr3
  go_wp2_with fail
  refine (refEncode_any _ _ (by omega) _ i3).mono ?_
  rintro e w4 ⟨⟨t, q, rfl, hR⟩, hB4⟩
  have B4 := B3.trans (hB4.mono B3.size)
  clear B3 hB4 i3
  rcases hR with ⟨_, rfl, ht⟩ | ⟨hf, _⟩
  · have HT : Hid (bn t = encs (dec (bn s))) := ht
    clear ht
    go_wp2_with fail
    refine (decode_any _ (by omega) _).mono ?_
    rintro e w5 ⟨v5, rfl, hr5, hB5⟩
    have B5 := B4.trans (hB5.mono B4.size)
    clear B4 hB5
    go_wp2_with fail
    refine (refDecode_any _ (by omega) _).mono ?_
    rintro e w6 ⟨v6, rfl, hr6, hB6⟩
    have B6 := B5.trans (hB6.mono B5.size)
    have i5 := IntsAt.own rfl (ownsRow_below hr5 hB6 (Nat.le_refl _))
    have i6 := IntsAt.own rfl hr6
    clear hr5 hB6 B5 hr6
    go_wp2_with fail
    refine (runes_same _ _ _ (by omega) _ i5 i6).mono ?_
    rintro e w7 ⟨rfl, n7, rfl⟩
    have B7 := B6.trans (below_drewN w.heap.size w6 n7)
    clear B6 i5 i6
    go_wp2_with fail
    refine (valid_any _ (by omega) _).mono ?_
    rintro e w8 ⟨rfl, hB8⟩
    have B8 := B7.trans (hB8.mono B7.size)
    clear B7 hB8
    go_wp2_with fail
    refine (refValid_any _ (by omega) _).mono ?_
    rintro e w9 ⟨rfl, hB9⟩
    have B9 := B8.trans (hB9.mono B8.size)
    clear B8 hB9
    go_wp2_with fail
    refine (clean_any _ (by omega) _).mono ?_
    rintro e w10 ⟨⟨t2, rfl, ht2⟩, hB10⟩
    have B10 := B9.trans (hB10.mono B9.size)
    obtain rfl : t2 = t := bn_inj (ht2.trans HT.out.symm)
    clear ht2 hB10 B9 HT
    go_wp2_with fail
    refine (works_any _).mono ?_
    rintro e w11 ⟨rfl, hB11⟩
    go_wp2
    go_ret
    exact ⟨rfl, B10.trans (hB11.mono B10.size)⟩
  · rw [DS.out] at hf; cases hf
end Go.Proofs.Ytfjfhfolikgajaa
