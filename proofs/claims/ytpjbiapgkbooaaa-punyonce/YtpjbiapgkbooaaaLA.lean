/- PunyBack's walk. -/
import Derived.Test.YtpjbiapgkbooaaaWK
namespace Go.Proofs.Ytpjbiapgkbooaaa
open Go.RowKit U
set_option linter.unusedVariables false

theorem dec_self (l : List Int) : decide (l = l) = true := decide_eq_true rfl
set_option maxRecDepth 100000 in
set_option maxHeartbeats 4000000 in
theorem back_walk (a : Option Addr) (len cap : Nat) (z : List Int) (w : World) (h0 : U.IsRow .i32 w a len cap z) :
    Calls Try.prog 5 #[.slice a len cap] w fun e w' => e = .returned (.bool true) ∧ Below w.heap.size w w' := by
  have hm := U.row_max h0
  unfold maxLen at hm
  have HS := hid (U.row_src h0)
  have HI := hid (U.row_ints h0)
  have HL := hid (U.row_len h0)
  clear h0
  obtain ⟨l, hl⟩ : ∃ l, z.take len = l := ⟨_, rfl⟩
  rw [hl] at HS HI HL
  clear hl
  go_enter Try.func5, Try.ntmps5
  by_cases h1 : 1024 < len
  · go_wp2_with (go_at_call 8; refine (works_any _).mono ?_; rintro e w1 ⟨rfl, B1⟩)
    go_ret
    exact ⟨rfl, B1⟩
  · go_wp2_with (at_builtin; refine U.wpList_append_ints rfl _ _ rfl w.heap.size (.slice none 0 0) 0 [] rfl (World.ownsRow_nil _ _ _ _) _ l rfl HS.out (by rw [HL.out]; omega) (Nat.le_refl _) ?_; intro v1 w1 r1 g1)
    have b1 : Below w.heap.size w w1 := (Below.refl _ w).grown g1 (Nat.le_refl _) (fun k e => by simp [Value.ownBlock] at e)
    have I1 : IntsAt w1 v1 l := IntsAt.own (Nat.zero_add _) (by simpa using r1)
    refine (pencode_any v1 l (by rw [HL.out]; omega) w1 I1).mono ?_
    rintro e w2 ⟨⟨s, r, rfl, hE⟩, B2⟩
    have b2 := b1.trans (B2.mono b1.size)
    clear r1 g1 I1 B2
    rcases hE with ⟨_, rfl, rfl⟩ | ⟨_, _, rfl, rfl⟩ | ⟨q1, q2, T, q3, ⟨_, rfl, rfl⟩ | ⟨q4, q5, rfl⟩⟩
    · go_wp2_with (go_at_call 8; refine (works_any _).mono ?_; rintro e w3 ⟨rfl, B3⟩)
      go_ret
      exact ⟨rfl, b2.trans (B3.mono b2.size)⟩
    · go_wp2_with (go_at_call 8; refine (works_any _).mono ?_; rintro e w3 ⟨rfl, B3⟩)
      go_ret
      exact ⟨rfl, b2.trans (B3.mono b2.size)⟩
    · go_wp2_with (go_at_call 8; refine (works_any _).mono ?_; rintro e w3 ⟨rfl, B3⟩)
      go_ret
      exact ⟨rfl, b2.trans (B3.mono b2.size)⟩
    · obtain ⟨d1, d2⟩ := dec_enc q3 q2 q1
      rw [← q5] at d1 d2 q4
      have D1 := hid d1
      have D2 := hid d2
      have Q4 := hid q4
      clear d1 d2 q3 q2 q5 q4
      go_wp2_with fail
      refine (pdecode_any s w2).mono ?_
      rintro e w3 ⟨⟨v3, r3, rfl, hD⟩, B3⟩
      obtain ⟨rfl, R3⟩ := hD.ok Q4.out D2.out D1.out
      obtain ⟨a3, c3, rfl⟩ := own_sh21 R3
      have b3 := b2.trans (B3.mono b2.size)
      have I3 := hid (IntsAt.own rfl R3)
      have J3 := hid (HI.out.below b3 (Nat.le_refl _))
      have hll : l.length ≤ 100000 := by omega
      clear hD B3 R3
      go_wp2_with (first
        | (go_at_call 15; refine (same_any _ _ l l _ hll I3.out J3.out).mono ?_; rw [dec_self]; rintro e w4 ⟨rfl, B4⟩)
        | (go_at_call 8; refine (works_any _).mono ?_; rintro e w5 ⟨rfl, B5⟩))
      go_ret
      have b4 := b3.trans (B4.mono b3.size)
      exact ⟨rfl, b4.trans (B5.mono b4.size)⟩
end Go.Proofs.Ytpjbiapgkbooaaa
