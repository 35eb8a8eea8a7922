/- The walk of UtfWrites: it returns true, whatever list of code points. -/
import Derived.Test.YtfjfhfolikgajaaH
import Derived.Test.YtfjfhfolikgajaaQ
namespace Go.Proofs.Ytfjfhfolikgajaa
open Go.RowKit

set_option maxRecDepth 100000 in
set_option maxHeartbeats 4000000 in
theorem writes_walk (a : Option Addr) (len cap : Nat) (z : List Int) (w : World) (h0 : IsRow .i32 w a len cap z) :
    Calls Try.prog 4 #[.slice a len cap] w fun e w' => e = .returned (.bool true) ∧ Below w.heap.size w w' := by
  have hl := row_max h0
  unfold maxLen at hl
  by_cases h1 : 8192 < len
  · go_enter Try.func4, Try.ntmps4
    go_wp2_with fail
    refine (works_any _).mono ?_
    rintro e w' ⟨rfl, hB⟩
    go_wp2
    go_ret
    exact ⟨rfl, hB⟩
  have src := row_src h0
  have ints := row_ints h0
  have hzl : (z.take len).length ≤ len := Nat.le_of_eq (row_len h0)
  clear h0
  generalize z.take len = zs at src ints hzl
  go_enter Try.func4, Try.ntmps4
  go_wp2_with (at_builtin; refine wpList_append_ints rfl _ _ rfl w.heap.size _ 0 [] rfl (World.ownsRow_nil _ _ _ _) _ _ rfl src (by omega) (Nat.le_refl _) ?_; intro v1 w1 hr1 hg1)
  have B1 := below_grow (Below.refl w.heap.size w) (Nat.le_refl _) (World.ownsRow_nil w w.heap.size 21 1) hg1
  simp only [Nat.zero_add, List.nil_append] at hr1
  have i1 := IntsAt.own rfl hr1
  clear src hg1 hr1
  refine (encode_any _ _ (by omega) _ i1).mono ?_
  rintro e w2 ⟨⟨t, r, rfl, hR⟩, hB2⟩
  have B2 := B1.trans (hB2.mono B1.size)
  have il := ints.below B2 (Nat.le_refl _)
  clear i1 B1 hB2
  go_wp2_with fail
  refine (refEncode_any _ _ (by omega) _ il).mono ?_
  rintro e w3 ⟨⟨t2, r2, rfl, hR2⟩, hB3⟩
  have B3 := B2.trans (hB3.mono B2.size)
  clear il ints B2 hB3
  rcases hR with ⟨hall, rfl, ht⟩ | ⟨hall, rfl, rfl⟩
  · rcases hR2 with ⟨_, rfl, ht2⟩ | ⟨hf, _⟩
    · obtain rfl : t = t2 := bn_inj (ht.trans ht2.symm)
      clear ht ht2 hall
      go_wp2_with fail
      refine (works_any _).mono ?_
      rintro e w4 ⟨rfl, hB4⟩
      go_wp2
      go_ret
      exact ⟨rfl, B3.trans (hB4.mono B3.size)⟩
    · rw [hall] at hf; cases hf
  · rcases hR2 with ⟨hf, _⟩ | ⟨_, rfl, rfl⟩
    · rw [hall] at hf; cases hf
    · clear hall
      go_wp2_with fail
      refine (works_any _).mono ?_
      rintro e w4 ⟨rfl, hB4⟩
      go_wp2
      go_ret
      exact ⟨rfl, B3.trans (hB4.mono B3.size)⟩
end Go.Proofs.Ytfjfhfolikgajaa
