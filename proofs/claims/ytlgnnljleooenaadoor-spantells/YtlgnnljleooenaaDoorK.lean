/- The contracts of readSpan and Parse. -/
import Derived.Test.YtlgnnljleooenaaDoorJ
namespace Go.Proofs.YtlgnnljleooenaaDoor
open Go.RowKit
set_option linter.unusedVariables false

theorem numl_bd : ∀ (f : Nat) (l : List Int) (k : Nat) (n : Int), 0 ≤ n → 0 ≤ (numl f l k n).1 ∧ k ≤ (numl f l k n).2 ∧ (numl f l k n).2 ≤ k + l.length := by
  intro f
  induction f with
  | zero => intro l k n h; exact ⟨h, Nat.le_refl _, Nat.le_add_right _ _⟩
  | succ f ih =>
    intro l k n h
    rcases l with _ | ⟨c, t⟩
    · exact ⟨h, Nat.le_refl _, Nat.le_add_right _ _⟩
    · rw [numl]
      have hd := dig_bd c
      cases hc : dig c with
      | none => exact ⟨h, Nat.le_refl _, Nat.le_add_right _ _⟩
      | some d =>
        rw [hc] at hd
        simp only [Option.getD_some] at hd
        dsimp only
        split
        · exact ⟨h, Nat.le_refl _, Nat.le_add_right _ _⟩
        · have := ih t (k + 1) (n * 16 + d) (by omega)
          simp only [List.length_cons]
          omega
theorem rd_true {l : List Int} {least : Int} (h : rB l least = true) : rdN l least = some (rN l least, rK l least) ∧ 0 ≤ rN l least ∧ rN l least ≤ 1114111 ∧ least ≤ rN l least ∧ 1 ≤ rK l least ∧ rK l least ≤ l.length := by
  have hb := numl_bd 6 l 0 0 (Int.le_refl _)
  unfold rB at h
  unfold rN rK
  unfold rdN at h ⊢
  by_cases hc : (numl 6 l 0 0).2 = 0 ∨ (numl 6 l 0 0).1 < least ∨ 1114111 < (numl 6 l 0 0).1
  · rw [if_pos hc] at h; cases h
  · rw [if_neg hc]
    refine ⟨rfl, hb.1, ?_, ?_, ?_, ?_⟩ <;> simp only [Option.getD_some] <;> omega
theorem rd_false {l : List Int} {least : Int} (h : rB l least = false) : rdN l least = none ∧ rN l least = 0 ∧ rK l least = 0 := by
  unfold rB at h
  have : rdN l least = none := by simpa using h
  unfold rN rK
  rw [this]; exact ⟨rfl, rfl, rfl⟩
theorem rdS_no {l : List Int} {least : Int} (h : rB l least = false) : rdS l least = ((0, 0), 0, false) := by
  unfold rdS; rw [(rd_false h).1]
theorem rdS_end {l : List Int} {least : Int} (h : rB l least = true) (hd : l.drop (rK l least) = []) : rdS l least = ((rN l least, rN l least), rK l least, true) := by
  unfold rdS; rw [(rd_true h).1]; dsimp only; rw [hd]
theorem rdS_other {l : List Int} {least c : Int} {t : List Int} (h : rB l least = true) (hd : l.drop (rK l least) = c :: t) (hc : c ≠ 45) : rdS l least = ((rN l least, rN l least), rK l least, true) := by
  unfold rdS; rw [(rd_true h).1]; dsimp only; rw [hd]; exact if_neg hc
theorem rdS_bad {l : List Int} {least : Int} {t : List Int} (h : rB l least = true) (hd : l.drop (rK l least) = 45 :: t) (h2 : rB t (rN l least + 1) = false) : rdS l least = ((rN l least, 0), rK l least + 1, false) := by
  unfold rdS; rw [(rd_true h).1]; dsimp only; rw [hd]; dsimp only; rw [if_pos rfl, (rd_false h2).1]
theorem rdS_good {l : List Int} {least : Int} {t : List Int} (h : rB l least = true) (hd : l.drop (rK l least) = 45 :: t) (h2 : rB t (rN l least + 1) = true) : rdS l least = ((rN l least, rN t (rN l least + 1)), rK l least + 1 + rK t (rN l least + 1), true) := by
  unfold rdS; rw [(rd_true h).1]; dsimp only; rw [hd]; dsimp only; rw [if_pos rfl, (rd_true h2).1]

def SpanR (l : List Int) (least : Int) (st : Nat) (e : Ending) : Prop := e = .returned (.tuple #[.agg #[.int .i32 (rdS l least).1.1, .int .i32 (rdS l least).1.2], .int .i64 ((st + (rdS l least).2.1 : Nat) : Int), .bool (rdS l least).2.2])
theorem SpanR.mk {l : List Int} {least : Int} {st E : Nat} {x y : Int} {k : Nat} {b : Bool} (h : rdS l least = ((x, y), k, b)) (hE : E = st + k) : SpanR l least st (.returned (.tuple #[.agg #[.int .i32 x, .int .i32 y], .int .i64 (E : Int), .bool b])) := by
  unfold SpanR; rw [h, hE]

theorem results_cell3 {fn : Func} {p u v : Tmp} {ty : TypeId} (h : fn.results = #[.cell p ty, .tmp u, .tmp v]) (tmps : Array Value) (P : Program) (w : World) :
    (results fn tmps).run P w =
      ((asAddr (tmps.getD p undef)).run P w).andThen fun a w₁ => ((loadVar ty a).run P w₁).andThen fun x w₂ => .ok (.tuple #[x, tmps.getD u undef, tmps.getD v undef]) w₂ := by
  simp only [results, h]
  simp [Sem.run_bind, Result.andThen]
set_option maxRecDepth 100000 in
theorem load44 (b : Nat) (x y : Int) (w : World) (c0 : w.cell? ⟨b, 0, none⟩ = some (.int .i32 x)) (c1 : w.cell? ⟨b, 1, none⟩ = some (.int .i32 y)) : (loadVar 44 ⟨b, 0, none⟩).run Tryd.prog w = .ok (.agg #[.int .i32 x, .int .i32 y]) w := by
  go_simp
theorem ret39 {tmps : Array Value} {w : World} {b : Nat} {x y : Int} (h6 : tmps.getD 6 undef = .pointer (some ⟨b, 0, none⟩)) (c0 : w.cell? ⟨b, 0, none⟩ = some (.int .i32 x)) (c1 : w.cell? ⟨b, 1, none⟩ = some (.int .i32 y)) :
    (results Tryd.f39 tmps).run Tryd.prog w = .ok (.tuple #[.agg #[.int .i32 x, .int .i32 y], tmps.getD 7 undef, tmps.getD 8 undef]) w := by
  rw [results_cell3 rfl, h6]
  have := load44 b x y w c0 c1
  simp [asAddr, Result.andThen, this]

set_option maxRecDepth 100000 in
set_option maxHeartbeats 1600000 in
theorem rspan_any (s : ByteArray) (st : Nat) (least : Int) (hs : s.size ≤ 1099511627776) (hst : st ≤ s.size) (w : World) :
    Calls Tryd.prog 39 #[.string s, .int .i64 st, .int .i32 least] w fun e W' => SpanR ((bn s).drop st) least st e ∧ Below w.heap.size w W' := by
  have hlen : ((bn s).drop st).length = s.size - st := by rw [List.length_drop, bn_length]
  have hal : ∀ o, Below w.heap.size w (w.alloc o) := fun o => (Below.refl _ w).alloc (Nat.le_refl _) o
  cases hB : rB ((bn s).drop st) least with
  | false =>
    have HB := hid' hB
    have HF := hid' (rd_false hB).2
    clear hB hlen
    go_enter Tryd.func39, Tryd.ntmps39
    go_wp2_with fail
    refine (number_any s st least hs hst _).mono ?_
    rw [HB.out, HF.out.1, HF.out.2, Nat.add_zero]
    rintro e w1 ⟨rfl, rfl⟩
    go_wp2
    refine bodyPost_ret (ret39 rfl (x := 0) (y := 0) (by simp) (by simp)) rfl ?_
    exact ⟨SpanR.mk (rdS_no HB.out) rfl, hal _⟩
  | true =>
    have HB := hid' hB
    obtain ⟨-, h0, h1, h2, h3, h4⟩ := rd_true hB
    obtain ⟨x, hx⟩ : ∃ x, x = rN ((bn s).drop st) least := ⟨_, rfl⟩
    obtain ⟨k, hk⟩ : ∃ k, k = rK ((bn s).drop st) least := ⟨_, rfl⟩
    obtain ⟨E, hE⟩ : ∃ E, E = st + k := ⟨_, rfl⟩
    rw [← hx] at h0 h1 h2
    rw [← hk] at h3 h4
    have HX := hid' hx
    have HK := hid' hk
    have HE := hid' hE
    have HH : Hid (st + rK ((bn s).drop st) least = E) := by show _ = _; rw [← hk]; exact hE.symm
    have hEl : E ≤ s.size := by omega
    have hE0 : st ≤ E := by omega
    have HDR : Hid (((bn s).drop st).drop k = (bn s).drop E) := by show _ = _; rw [List.drop_drop, hE]
    clear hB hx hk hE hlen h4
    by_cases hend : E = s.size
    · have hend' : ((E : Int) == (s.size : Int)) = true := by simp; omega
      have HS := hid' (rdS_end HB.out (by rw [← HK.out, HDR.out]; exact bn_drop_nil s E (by omega)))
      rw [← HX.out, ← HK.out] at HS
      clear hend
      go_enter Tryd.func39, Tryd.ntmps39
      go_wp2_with fail
      refine (number_any s st least hs hst _).mono ?_
      rw [HB.out, ← HX.out, HH.out]
      rintro e w1 ⟨rfl, rfl⟩
      go_wp2
      refine bodyPost_ret (ret39 rfl (x := x) (y := x) (by simp) (by simp)) rfl ?_
      exact ⟨SpanR.mk HS.out HE.out, hal _⟩
    · have hend' : ((E : Int) == (s.size : Int)) = false := by simp; omega
      have hlt : E < s.size := by omega
      have hlt' : (E : Int) < (s.size : Int) := by omega
      have HC := hid' (bn_drop s E hlt)
      have hE9 : E ≤ 1099511627776 := by omega
      by_cases hc : (s[E].toNat : Int) = 45
      · have HC45 : Hid ((bn s).drop E = 45 :: (bn s).drop (E + 1)) := by show _ = _; rw [HC.out, hc]
        have hcb : ((s[E].toNat : Int) == 45) = true := by simpa using hc
        clear HC hend
        cases hB2 : rB ((bn s).drop (E + 1)) (x + 1) with
        | false =>
          have HB2 := hid' hB2
          have HF2 := hid' (rd_false hB2).2
          have HS := hid' (rdS_bad HB.out (by rw [← HK.out, HDR.out]; exact HC45.out) (by rw [← HX.out]; exact hB2))
          rw [← HX.out, ← HK.out] at HS
          clear hB2
          go_enter Tryd.func39, Tryd.ntmps39
          go_wp2_with fail
          refine (number_any s st least hs hst _).mono ?_
          rw [HB.out, ← HX.out, HH.out]
          rintro e w1 ⟨rfl, rfl⟩
          go_wp2_with fail
          refine (number_any s (E + 1) (x + 1) hs (by omega) _).mono ?_
          rw [HB2.out, HF2.out.1, HF2.out.2, Nat.add_zero]
          rintro e w1 ⟨rfl, rfl⟩
          go_wp2
          refine bodyPost_ret (ret39 rfl (x := x) (y := 0) (by simp) (by simp)) rfl ?_
          exact ⟨SpanR.mk (E := E + 1) HS.out (by have := HE.out; omega), hal _⟩
        | true =>
          have HB2 := hid' hB2
          obtain ⟨y, hy⟩ : ∃ y, y = rN ((bn s).drop (E + 1)) (x + 1) := ⟨_, rfl⟩
          obtain ⟨E2, hE2⟩ : ∃ E2, E2 = E + 1 + rK ((bn s).drop (E + 1)) (x + 1) := ⟨_, rfl⟩
          have HY := hid' hy
          have HE2 := hid' hE2
          have HS := hid' (rdS_good HB.out (by rw [← HK.out, HDR.out]; exact HC45.out) (by rw [← HX.out]; exact hB2))
          rw [← HX.out, ← HK.out, ← HY.out] at HS
          clear hB2 hy hE2
          go_enter Tryd.func39, Tryd.ntmps39
          go_wp2_with fail
          refine (number_any s st least hs hst _).mono ?_
          rw [HB.out, ← HX.out, HH.out]
          rintro e w1 ⟨rfl, rfl⟩
          go_wp2_with fail
          refine (number_any s (E + 1) (x + 1) hs (by omega) _).mono ?_
          rw [HB2.out, ← HY.out, ← HE2.out]
          rintro e w1 ⟨rfl, rfl⟩
          go_wp2
          refine bodyPost_ret (ret39 rfl (x := x) (y := y) (by simp) (by simp)) rfl ?_
          exact ⟨SpanR.mk (E := E2) HS.out (by have := HE.out; have := HE2.out; omega), hal _⟩
      · have hcb : ((s[E].toNat : Int) == 45) = false := by simpa using hc
        have HS := hid' (rdS_other HB.out (by rw [← HK.out, HDR.out]; exact HC.out) hc)
        rw [← HX.out, ← HK.out] at HS
        clear HC hend
        go_enter Tryd.func39, Tryd.ntmps39
        go_wp2_with fail
        refine (number_any s st least hs hst _).mono ?_
        rw [HB.out, ← HX.out, HH.out]
        rintro e w1 ⟨rfl, rfl⟩
        go_wp2
        refine bodyPost_ret (ret39 rfl (x := x) (y := x) (by simp) (by simp)) rfl ?_
        exact ⟨SpanR.mk HS.out HE.out, hal _⟩
end Go.Proofs.YtlgnnljleooenaaDoor
