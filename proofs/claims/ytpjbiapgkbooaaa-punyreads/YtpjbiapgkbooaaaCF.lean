/- The contract of puny.Decode. -/
import Derived.Test.YtpjbiapgkbooaaaCE
import Derived.Test.YtpjbiapgkbooaaaUT
namespace Go.Proofs.Ytpjbiapgkbooaaa
open Go.RowKit U
set_option linter.unusedVariables false

theorem dec_asc : ∀ (l : List Int), Bytes l → asc l = true → dec l = l
  | [], _, _ => rfl
  | a :: t, hb, ha => by
    simp only [asc, List.all_cons, Bool.and_eq_true] at ha
    have h1 : a < 128 := by simpa using ha.1
    rw [dec_cons (a :: t) (by simp) hb, nx_w1 a t h1]
    show a :: dec ((a :: t).drop 1) = _
    rw [List.drop_one, List.tail_cons, dec_asc t (fun b hb' => hb b (by simp [hb'])) ha.2]
theorem asc_take (l : List Int) (k : Nat) (h : asc l = true) : asc (l.take k) = true := by
  unfold asc at *
  rw [List.all_eq_true] at *
  exact fun x hx => h x (List.mem_of_mem_take hx)

theorem own_base {base b : Nat} {v : Value} {n : Nat} {X : List Value} {W : World} (h : W.ownsRow base 21 1 v n X) (hb : b ≤ base) : W.ownsRow b 21 1 v n X := by
  rcases h with ⟨h1, h2 | ⟨g, cap, cur, rfl, hbg, h3⟩⟩
  · exact ⟨h1, .inl h2⟩
  · exact ⟨h1, .inr ⟨g, cap, cur, rfl, Nat.le_trans hb hbg, h3⟩⟩
/-- What an ASCII text is read as. -/
def DecP (l : List Int) : Option (List Int) := RD (run (fore l) []) 72 (aft l)
/-- What puny.Decode answers. -/
def DecR (l : List Int) (w' : World) (base : Nat) (v : Value) (e : Int) : Prop :=
  (63 < l.length ∧ v = .slice none 0 0 ∧ e = 4) ∨ (l.length ≤ 63 ∧ (asc l = false ∨ DecP l = none) ∧ v = .slice none 0 0 ∧ e = 8) ∨
    (l.length ≤ 63 ∧ asc l = true ∧ ∃ pts, DecP l = some pts ∧ e = 0 ∧ w'.ownsRow base 21 1 v pts.length (pts.map (Value.int .i32)))

set_option maxRecDepth 100000 in
set_option maxHeartbeats 4000000 in
theorem pdecode_any (s : ByteArray) (w : World) :
    Calls Try.prog 13 #[.string s] w fun e W' => (∃ v r, e = .returned (.tuple #[v, .int .i64 r]) ∧ DecR (bn s) W' w.heap.size v r) ∧ Below w.heap.size w W' := by
  go_enter Try.func13, Try.ntmps13
  by_cases h1 : 63 < s.size
  · go_wp2
    go_ret2
    exact ⟨⟨_, _, rfl, .inl ⟨by rw [bn_length]; exact h1, rfl, rfl⟩⟩, Below.refl _ _⟩
  · have HL : Hid ((bn s).length ≤ 63) := by show _ ≤ _; rw [bn_length]; omega
    cases ha : asc (bn s) with
    | false =>
      have HA := hid' ha
      clear ha
      go_wp2_with (go_at_call 21; refine (isPlain_any s (by omega) _).mono ?_; rw [HA.out]; rintro e w' ⟨rfl, rfl⟩)
      go_ret2
      exact ⟨⟨_, _, rfl, .inr (.inl ⟨HL.out, .inl HA.out, rfl, rfl⟩)⟩, Below.refl _ _⟩
    | true =>
      have HA := hid' ha
      clear ha
      go_wp2_with (first
        | (go_at_call 21; refine (isPlain_any s (by omega) _).mono ?_; rw [HA.out]; rintro e w' ⟨rfl, hw'⟩; obtain rfl := hw'.symm)
        | (go_at_call 22; refine (halves_any s (by omega) _).mono ?_; rintro e w1 ⟨x, y, rfl, e1, e2, s1, s2, B1⟩))
      have HD : Hid (dec (bn x) = fore (bn s)) := by
        show _ = _
        rw [dec_asc (bn x) (bn_bytes x) (by rw [e1]; exact asc_take _ _ HA.out), e1]
      have HE2 := hid' e2
      clear e1 e2
      refine (decode_any x (by omega) _).mono ?_
      rintro e w2 ⟨v2, rfl, r2, B2⟩
      rw [HD.out] at r2
      obtain ⟨a2, c2, rfl⟩ := own_sh21 r2
      have hfl : (fore (bn s)).length ≤ s.size := by unfold fore; rw [List.length_take, bn_length]; omega
      obtain ⟨p, hp⟩ : ∃ p, (fore (bn s)).length = p := ⟨_, rfl⟩
      rw [hp] at r2 hfl ⊢
      have HP := hid' hp
      have R2 := hid' r2
      have s12 := B1.size
      clear hp r2
      go_wp2_with fail
      refine (read_any w1.heap.size a2 c2 p (fore (bn s)) y w2 HP.out (by omega) (by omega) R2.out B2.size).mono ?_
      rw [HE2.out]
      rintro e w3 ⟨hr, B3⟩
      have BB : Below w.heap.size w w3 := (B1.trans (B2.mono B1.size)).trans (B3.mono s12)
      cases ho : RD (run (fore (bn s)) []) 72 (aft (bn s)) with
      | none =>
        rw [ho] at hr
        obtain rfl := hr
        have HO := hid' ho
        clear ho
        go_wp2
        go_ret2
        exact ⟨⟨_, _, rfl, .inr (.inl ⟨HL.out, .inr HO.out, rfl, rfl⟩)⟩, BB⟩
      | some pts =>
        rw [ho] at hr
        obtain ⟨v3, rfl, r3⟩ := hr
        obtain ⟨a3, c3, rfl⟩ := own_sh21 r3
        have HO := hid' ho
        have R3 := hid' r3
        clear ho r3
        go_wp2
        go_ret2
        exact ⟨⟨_, _, rfl, .inr (.inr ⟨HL.out, HA.out, pts, HO.out, rfl, own_base R3.out s12⟩)⟩, BB⟩
end Go.Proofs.Ytpjbiapgkbooaaa
