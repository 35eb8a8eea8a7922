/- The contract of puny.Encode. -/
import Derived.Test.YtpjbiapgkbooaaaBC
namespace Go.Proofs.Ytpjbiapgkbooaaa
open Go.RowKit U
set_option linter.unusedVariables false

set_option maxRecDepth 100000 in
set_option maxHeartbeats 2000000 in
theorem written_none (a : Option Addr) (cap : Nat) (w : World) :
    Calls Try.prog 17 #[.slice a 0 cap] w fun e W' => ∃ T, e = .returned (.string T) ∧ Enc [] (bn T) ∧ Below w.heap.size w W' := by
  have HP := hid (plainOf_any (.slice a 0 cap) [] (by simp) (by simp) w (.inl ⟨rfl, a, cap, rfl⟩))
  go_enter Try.func17, Try.ntmps17
  go_wp2_with fail
  refine HP.out.mono ?_
  rintro e w1 ⟨v1, rfl, r1, B1⟩
  obtain ⟨a1, c1, rfl⟩ := own_sh5 r1
  have bo := Boxed.new w1 34 (.slice a1 0 c1)
  have R1 := hid (r1.alloc (.cells #[.slice a1 0 c1] 34))
  have s1 := B1.size
  have e0 : (plain []).length = 0 := rfl
  go_wp2_with (go_at_call 29; refine (writer_any w.heap.size w1.heap.size (.slice a1 0 c1) 0 0 [] _ bo R1.out s1 (by simp; omega)).mono ?_; rintro e w4 ⟨Bb, Bp, Bn, Bf, rfl, PN, B4⟩)
  refine wp_loop_rounds 1 ?_
  rw [rounds_succ]
  obtain ⟨T, hcv, hT⟩ := conv_string w4 w.heap.size (.slice a1 0 c1) 0 [] rfl (fun b hb => by cases hb) PN.row
  have HT := hid hT
  have cc := PN.o.cell
  clear hT
  go_wp2
  go_ret
  exact ⟨T, rfl, ⟨[], by rw [HT.out]; rfl, rfl⟩, (B1.alloc B1.size _).trans B4⟩

theorem written_any (v : Value) (l : List Int) (hlen : l.length ≤ 63) (hall : l.all scal = true) (w : World) (hv : IntsAt w v l) :
    Calls Try.prog 17 #[v] w fun e W' => ∃ T, e = .returned (.string T) ∧ Enc l (bn T) ∧ Below w.heap.size w W' := by
  rcases hv with ⟨rfl, a, cap, rfl⟩ | ⟨hp, b, off, cap, rfl, hc⟩
  · exact written_none a cap w
  · exact written_some b off cap l hlen hall w hp hc

/-- What puny.Encode answers. -/
def EncR (l : List Int) (t : ByteArray) (e : Int) : Prop :=
  (63 < l.length ∧ t = ⟨#[]⟩ ∧ e = 4) ∨ (l.length ≤ 63 ∧ l.all scal = false ∧ t = ⟨#[]⟩ ∧ e = 2) ∨
    (l.length ≤ 63 ∧ l.all scal = true ∧ ∃ T, Enc l T ∧ ((63 < T.length ∧ t = ⟨#[]⟩ ∧ e = 4) ∨ (T.length ≤ 63 ∧ bn t = T ∧ e = 0)))

theorem ints_sh {w : World} {v : Value} {l : List Int} (h : IntsAt w v l) : ∃ a cap, v = .slice a l.length cap := by
  rcases h with ⟨rfl, a, cap, rfl⟩ | ⟨hp, b, off, cap, rfl, hc⟩
  · exact ⟨a, cap, rfl⟩
  · exact ⟨_, cap, rfl⟩

set_option maxRecDepth 100000 in
set_option maxHeartbeats 2000000 in
theorem pencode_any (v : Value) (l : List Int) (hlen : l.length ≤ 17179869184) (w : World) (hv : IntsAt w v l) :
    Calls Try.prog 9 #[v] w fun e W' => (∃ t r, e = .returned (.tuple #[.string t, .int .i64 r]) ∧ EncR l t r) ∧ Below w.heap.size w W' := by
  obtain ⟨a, cap, rfl⟩ := ints_sh hv
  have HU := hid (encode_any _ l hlen w hv)
  have HV := hid hv
  have HW := hid (fun (h1 : l.length ≤ 63) (h2 : l.all scal = true) (w : World) (hv : IntsAt w (.slice a l.length cap) l) => written_any _ l h1 h2 w hv)
  clear hv
  obtain ⟨N, hN⟩ : ∃ N, l.length = N := ⟨_, rfl⟩
  have HN := hid hN
  rw [hN] at HU HV HW hlen ⊢
  clear hN
  go_enter Try.func9, Try.ntmps9
  by_cases h1 : 63 < N
  · go_wp2
    go_ret2
    exact ⟨⟨_, _, rfl, .inl ⟨by rw [HN.out]; exact h1, rfl, rfl⟩⟩, Below.refl _ _⟩
  · go_wp2_with fail
    refine HU.out.mono ?_
    rintro e w1 ⟨⟨t, r, rfl, hr⟩, B1⟩
    rcases hr with ⟨q1, rfl, q3⟩ | ⟨q1, rfl, q3⟩
    · have HQ := hid q1
      have HQ3 := hid q3
      clear q1 q3
      have HI := hid (HV.out.below B1 (Nat.le_refl _))
      go_wp2_with fail
      refine (HW.out (by omega) HQ.out w1 HI.out).mono ?_
      rintro e w2 ⟨T, rfl, HT, B2⟩
      have HT' := hid HT
      clear HT
      have B12 := B1.trans (B2.mono B1.size)
      by_cases h2 : 63 < T.size
      · go_wp2
        go_ret2
        exact ⟨⟨_, _, rfl, .inr (.inr ⟨by rw [HN.out]; omega, HQ.out, _, HT'.out, .inl ⟨by rw [bn_length]; exact h2, rfl, rfl⟩⟩)⟩, B12⟩
      · go_wp2
        go_ret2
        exact ⟨⟨_, _, rfl, .inr (.inr ⟨by rw [HN.out]; omega, HQ.out, _, HT'.out, .inr ⟨by rw [bn_length]; omega, rfl, rfl⟩⟩)⟩, B12⟩
    · have HQ := hid q1
      clear q1
      go_wp2
      go_ret2
      exact ⟨⟨_, _, rfl, .inr (.inl ⟨by rw [HN.out]; omega, HQ.out, rfl, rfl⟩)⟩, B1⟩
end Go.Proofs.Ytpjbiapgkbooaaa
