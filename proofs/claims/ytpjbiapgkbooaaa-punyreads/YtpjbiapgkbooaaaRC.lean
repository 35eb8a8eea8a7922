/- The document's Encode at every row; PunyWrites' walk. -/
import Derived.Test.YtpjbiapgkbooaaaRB
import Derived.Test.YtpjbiapgkbooaaaWK
namespace Go.Proofs.Ytpjbiapgkbooaaa
open Go.RowKit U
set_option linter.unusedVariables false

set_option maxRecDepth 100000 in
set_option maxHeartbeats 4000000 in
theorem rencode_none (a : Option Addr) (cap : Nat) (w : World) :
    Calls Try.prog 10 #[.slice a 0 cap] w fun e W' => (∃ t r, e = .returned (.tuple #[.string t, .int .i64 r]) ∧ EncR [] t r) ∧ Below w.heap.size w W' := by
  obtain ⟨t, hcv, ht⟩ := conv_string w w.heap.size (.slice none 0 0) 0 [] rfl (fun b hb => by cases hb) (World.ownsRow_nil _ _ _ _)
  have HT : Hid (bn t = []) := ht
  clear ht
  go_enter Try.func10, Try.ntmps10
  go_wp2_with fail
  refine wp_loop_rounds 1 ?_
  rw [rounds_succ]
  go_wp2_with fail
  refine wp_loop_rounds 1 ?_
  rw [rounds_succ]
  go_wp2
  go_ret2
  exact ⟨⟨_, _, rfl, .inr (.inr ⟨by decide, by decide, [], ⟨[], rfl, rfl⟩, .inr ⟨by decide, HT.out, rfl⟩⟩)⟩, Below.refl _ _⟩
set_option maxRecDepth 100000 in
set_option maxHeartbeats 4000000 in
theorem rencode_big (a : Option Addr) (cap N : Nat) (l : List Int) (hN : l.length = N) (h : 63 < N) (hm : N ≤ 1024) (w : World) :
    Calls Try.prog 10 #[.slice a N cap] w fun e W' => (∃ t r, e = .returned (.tuple #[.string t, .int .i64 r]) ∧ EncR l t r) ∧ Below w.heap.size w W' := by
  have HN := hid hN
  clear hN
  go_enter Try.func10, Try.ntmps10
  go_wp2
  go_ret2
  exact ⟨⟨_, _, rfl, .inl ⟨by rw [HN.out]; exact h, rfl, rfl⟩⟩, Below.refl _ _⟩
theorem rencode_any (v : Value) (l : List Int) (hlen : l.length ≤ 1024) (w : World) (hv : IntsAt w v l) :
    Calls Try.prog 10 #[v] w fun e W' => (∃ t r, e = .returned (.tuple #[.string t, .int .i64 r]) ∧ EncR l t r) ∧ Below w.heap.size w W' := by
  by_cases h : 63 < l.length
  · obtain ⟨a, cap, rfl⟩ := ints_sh hv
    exact rencode_big a cap _ l rfl h hlen w
  · rcases hv with ⟨rfl, a, cap, rfl⟩ | ⟨hp, b, off, cap, rfl, hc⟩
    · exact rencode_none a cap w
    · exact rencode_some b off cap _ l rfl (by omega) w hp hc
theorem EncR.one {l : List Int} {t t' : ByteArray} {r r' : Int} (h : EncR l t r) (h' : EncR l t' r') : t = t' ∧ r = r' := by
  rcases h with ⟨a1, a2, a3⟩ | ⟨a1, a2, a3, a4⟩ | ⟨a1, a2, T, a3, a4⟩ <;> rcases h' with ⟨b1, b2, b3⟩ | ⟨b1, b2, b3, b4⟩ | ⟨b1, b2, T', b3, b4⟩
  · exact ⟨a2.trans b2.symm, a3.trans b3.symm⟩
  · omega
  · omega
  · omega
  · exact ⟨a3.trans b3.symm, a4.trans b4.symm⟩
  · rw [a2] at b2; cases b2
  · omega
  · rw [a2] at b2; cases b2
  · obtain rfl := a3.one b3
    rcases a4 with ⟨c1, c2, c3⟩ | ⟨c1, c2, c3⟩ <;> rcases b4 with ⟨d1, d2, d3⟩ | ⟨d1, d2, d3⟩
    · exact ⟨c2.trans d2.symm, c3.trans d3.symm⟩
    · omega
    · omega
    · exact ⟨bn_inj (c2.trans d2.symm), c3.trans d3.symm⟩
set_option maxHeartbeats 400000 in
theorem adapt_no (d p : Int) (first : Bool) (h : d < 0 ∨ p < 1) (w : World) :
    Calls Try.prog 11 #[.int .i64 d, .int .i64 p, .bool first] w fun e w' => e = .returned (.int .i64 0) ∧ w' = w := by
  by_cases h0 : d < 0
  · go_enter Try.func11, Try.ntmps11
    go_wp2
    go_ret
    exact ⟨rfl, rfl⟩
  · have h1 : p < 1 := by omega
    go_enter Try.func11, Try.ntmps11
    go_wp2
    go_ret
    exact ⟨rfl, rfl⟩
set_option maxHeartbeats 400000 in
theorem radapt_no (d p : Int) (first : Bool) (h : d < 0 ∨ p < 1) (w : World) :
    Calls Try.prog 12 #[.int .i64 d, .int .i64 p, .bool first] w fun e w' => e = .returned (.int .i64 0) ∧ w' = w := by
  by_cases h0 : d < 0
  · go_enter Try.func12, Try.ntmps12
    go_wp2
    go_ret
    exact ⟨rfl, rfl⟩
  · have h1 : p < 1 := by omega
    go_enter Try.func12, Try.ntmps12
    go_wp2
    go_ret
    exact ⟨rfl, rfl⟩
/-- Both adapt alike. -/
theorem adapt_both (d p : Int) (first : Bool) (hd : d < 1099511627776) (hp : p ≤ 9223372036854775807) : ∃ A : Int, ∀ w : World,
    (Calls Try.prog 11 #[.int .i64 d, .int .i64 p, .bool first] w fun e w' => e = .returned (.int .i64 A) ∧ w' = w) ∧ (Calls Try.prog 12 #[.int .i64 d, .int .i64 p, .bool first] w fun e w' => e = .returned (.int .i64 A) ∧ w' = w) := by
  by_cases h : d < 0 ∨ p < 1
  · exact ⟨0, fun w => ⟨adapt_no d p first h w, radapt_no d p first h w⟩⟩
  · obtain ⟨D, rfl⟩ : ∃ D : Nat, d = (D : Int) := ⟨d.toNat, by omega⟩
    obtain ⟨P, rfl⟩ : ∃ P : Nat, p = (P : Int) := ⟨p.toNat, by omega⟩
    exact ⟨_, fun w => ⟨adapt_any D P first (by omega) (by omega) (by omega) w, radapt_any D P first (by omega) (by omega) (by omega) w⟩⟩

set_option maxRecDepth 100000 in
set_option maxHeartbeats 4000000 in
theorem writes_walk (a : Option Addr) (len cap : Nat) (z : List Int) (d p : Int) (f : Bool) (w : World) (h0 : U.IsRow .i32 w a len cap z) (hd : (Lit.int .i64 d).wf = true) (hpw : (Lit.int .i64 p).wf = true) :
    Calls Try.prog 3 #[.slice a len cap, .int .i64 d, .int .i64 p, .bool f] w fun e w' => e = .returned (.bool true) ∧ Below w.heap.size w w' := by
  have hm := U.row_max h0
  unfold maxLen at hm
  have HS := hid (U.row_src h0)
  have HI := hid (U.row_ints h0)
  have HL := hid (U.row_len h0)
  clear h0
  obtain ⟨l, hl⟩ : ∃ l, z.take len = l := ⟨_, rfl⟩
  rw [hl] at HS HI HL
  clear hl
  have hp2 : p ≤ 9223372036854775807 := by
    simp [Lit.wf] at hpw; omega
  clear hd hpw
  go_enter Try.func3, Try.ntmps3
  by_cases h1 : 1024 < len
  · go_wp2_with (go_at_call 8; refine (works_any _).mono ?_; rintro e w1 ⟨rfl, B1⟩)
    go_ret
    exact ⟨rfl, B1⟩
  · go_wp2_with (at_builtin; refine U.wpList_append_ints rfl _ _ rfl w.heap.size (.slice none 0 0) 0 [] rfl (World.ownsRow_nil _ _ _ _) _ l rfl HS.out (by rw [HL.out]; omega) (Nat.le_refl _) ?_; intro v1 w1 r1 g1)
    have b1 : Below w.heap.size w w1 := (Below.refl _ w).grown g1 (Nat.le_refl _) (fun k e => by simp [Value.ownBlock] at e)
    have I1 : IntsAt w1 v1 l := IntsAt.own (Nat.zero_add _) (by simpa using r1)
    refine (pencode_any v1 l (by rw [HL.out]; omega) w1 I1).mono ?_
    rintro e w2 ⟨⟨s, r, rfl, hE⟩, B2⟩
    have b2 := b1.trans (B2.mono b1.size)
    have J2 := hid (HI.out.below b2 (Nat.le_refl _))
    clear r1 g1 I1 B2
    go_wp2_with fail
    refine (rencode_any _ l (by rw [HL.out]; omega) w2 J2.out).mono ?_
    rintro e w3 ⟨⟨s', r', rfl, hE'⟩, B3⟩
    obtain ⟨rfl, rfl⟩ := hE.one hE'
    have b3 := b2.trans (B3.mono b2.size)
    clear hE hE' B3
    by_cases hd : d < 1099511627776
    · obtain ⟨A, hA⟩ := adapt_both d p f hd hp2
      have HA := hid hA
      clear hA
      go_wp2_with (first
        | (go_at_call 11; refine (HA.out _).1.mono ?_; rintro e w' ⟨rfl, hw'⟩; obtain rfl := hw'.symm)
        | (go_at_call 12; refine (HA.out _).2.mono ?_; rintro e w' ⟨rfl, hw'⟩; obtain rfl := hw'.symm)
        | (go_at_call 8; refine (works_any _).mono ?_; rintro e w5 ⟨rfl, B5⟩))
      go_ret
      exact ⟨rfl, b3.trans (B5.mono b3.size)⟩
    · go_wp2_with (go_at_call 8; refine (works_any _).mono ?_; rintro e w5 ⟨rfl, B5⟩)
      go_ret
      exact ⟨rfl, b3.trans (B5.mono b3.size)⟩
end Go.Proofs.Ytpjbiapgkbooaaa
