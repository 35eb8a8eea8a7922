/- The walk of SpanTells. -/
import Derived.Test.YtlgnnljleooenaaDoorAd
import Derived.Test.YtlgnnljleooenaaDoorAf
import Derived.Test.YtlgnnljleooenaaDoorW
namespace Go.Proofs.YtlgnnljleooenaaDoor
open Go.RowKit
set_option linter.unusedVariables false

theorem many_each (v : Value) (l : List Sp) (w : World) (hv : SpansAt w v l) :
    Calls Tryd.prog 8 #[v] w fun e W' => e = .returned (.bool (decide (1084 < l.length))) ∧ W' = w := by
  obtain ⟨a, cap, rfl, -, -⟩ := hv
  go_enter Tryd.func8, Tryd.ntmps8
  go_wp2
  go_ret
  refine ⟨?_, rfl⟩
  apply ret_bool
  by_cases h : 1084 < l.length <;> simp [h] <;> omega
theorem text_eq {a m2 : List Sp} {t t2 : ByteArray} {r r2 : Int} (h : TextR a t r) (g : RMade 0 a [] m2 r2) (hb : bn t2 = txt m2) : t2 = t ∧ r2 = r := by
  rcases h with ⟨hc, rfl, rfl⟩ | ⟨hc, rfl, m, hn, hl, ht⟩
  · obtain ⟨rfl, rfl⟩ := rnorm_eq (a := a) (m := []) (e := chk a) (.inl ⟨hc, rfl, rfl⟩) g
    exact ⟨bn_inj (by rw [hb]; rfl), rfl⟩
  · obtain ⟨rfl, rfl⟩ := rnorm_eq (a := a) (m := m) (e := 0) (.inr ⟨hc, hn, hl, rfl⟩) g
    exact ⟨bn_inj (by rw [hb, ht]), rfl⟩

set_option maxRecDepth 100000 in
set_option maxHeartbeats 3200000 in
theorem tells_walk (v : Value) (a : List Sp) (s : ByteArray) (w : World) (hT : Tab w) (hv : SpansAt w v a) :
    Calls Tryd.prog 4 #[v, .string s] w fun e W' => e = .returned (.bool true) ∧ Below w.heap.size w W' := by
  by_cases hlong : 1084 < a.length
  · have HL := hid' hlong
    clear hlong
    go_enter Tryd.func4, Tryd.ntmps4
    go_wp2_with fail
    refine (many_each v a w hv).mono ?_
    rw [decide_eq_true HL.out]
    rintro e w1 ⟨rfl, rfl⟩
    go_wp2_with fail
    refine (works_any w1 hT).mono ?_
    rintro e w2 ⟨rfl, h1⟩
    go_wp2
    go_ret
    exact ⟨rfl, h1⟩
  have hla : a.length ≤ 1084 := by omega
  by_cases hs : 16384 < s.size
  · have hs' : (16384 : Int) < (s.size : Int) := by omega
    have HL := hid' hlong
    clear hlong
    go_enter Tryd.func4, Tryd.ntmps4
    go_wp2_with fail
    refine (many_each v a w hv).mono ?_
    rw [decide_eq_false HL.out]
    rintro e w1 ⟨rfl, rfl⟩
    go_wp2_with fail
    refine (works_any w1 hT).mono ?_
    rintro e w2 ⟨rfl, h1⟩
    go_wp2
    go_ret
    exact ⟨rfl, h1⟩
  have hs' : ¬ (16384 : Int) < (s.size : Int) := by omega
  have hsz : s.size ≤ 16384 := by omega
  have HL := hid' hlong
  clear hlong hs
  go_enter Tryd.func4, Tryd.ntmps4
  go_wp2_with fail
  refine (many_each v a w hv).mono ?_
  rw [decide_eq_false HL.out]
  rintro e w0 ⟨rfl, rfl⟩
  go_wp2_with fail
  refine (copied_any _ a (by omega) _ hv).mono ?_
  rintro e w1 ⟨v1, rfl, how1, hB1⟩
  have hS1 := SpansAt.own rfl how1
  clear how1
  go_wp2_with fail
  refine (text_any _ a (by omega) _ (hT.below hB1 (Nat.le_refl _)) hS1).mono ?_
  rintro e w2 ⟨⟨t, r, rfl, hR⟩, hb2⟩
  have hB2 := hB1.trans (hb2.mono hB1.size)
  clear hb2 hB1 hS1
  go_wp2_with fail
  refine (rtext_any _ a (by omega) _ (hv.below hB2 (Nat.le_refl _))).mono ?_
  rintro e w3 ⟨⟨t2, m2, r2, rfl, hR2, hbn⟩, hb3⟩
  have hB3 := hB2.trans (hb3.mono hB2.size)
  obtain ⟨rfl, rfl⟩ := text_eq hR hR2 hbn
  clear hb3 hB2 hR hR2 hbn
  obtain ⟨⟨q, pl, er⟩, hq⟩ : ∃ x, x = parse (bn s) := ⟨_, rfl⟩
  have HQ := hid' hq
  have hql : q.length ≤ 1024 := by have := parse_told (bn s); rw [← hq] at this; dsimp only at this; rcases this with ⟨_, _, _, _, h⟩ | ⟨_, h, _⟩ <;> first | omega | (rw [h]; simp)
  clear hq
  go_wp2_with fail
  refine (parse_any s (by omega) _).mono ?_
  rw [← HQ.out]
  rintro e w4 ⟨⟨p4, k4, rfl, hS4⟩, hb4⟩
  dsimp only at hS4 ⊢
  have hB4 := hB3.trans (hb4.mono hB3.size)
  clear hb4 hB3
  go_wp2_with fail
  refine (rparse_any s (by omega) _).mono ?_
  rw [← HQ.out]
  rintro e w5 ⟨⟨p5, k5, rfl, hS5⟩, hb5⟩
  dsimp only at hS5 ⊢
  have hB5 := hB4.trans (hb5.mono hB4.size)
  have hP5 := hS4.below hb5 (Nat.le_refl _)
  clear hb5 hB4 hS4
  go_wp2_with fail
  refine (same_any _ _ q q (by omega) (by omega) _ hP5 hS5).mono ?_
  rw [decide_eq_true rfl]
  rintro e w6 ⟨rfl, n6, hq6⟩
  obtain ⟨w7, hw7⟩ : ∃ w7, w7 = w6 := ⟨_, rfl⟩
  rw [← hw7]
  have hB7 : Below w0.heap.size w0 w7 := by rw [hw7, hq6]; exact below_drewN hB5 n6
  clear hw7 hq6 hB5 hP5 hS5
  go_wp2_with fail
  refine (works_any w7 (hT.below hB7 (Nat.le_refl _))).mono ?_
  rintro e w8 ⟨rfl, h8⟩
  go_wp2
  go_ret
  exact ⟨rfl, hB7.trans (h8.mono hB7.size)⟩
end Go.Proofs.YtlgnnljleooenaaDoor
