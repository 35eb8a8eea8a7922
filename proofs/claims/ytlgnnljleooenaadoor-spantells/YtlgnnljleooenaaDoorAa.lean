/- The document's Norm and Count, and the walk of SpanMakes. -/
import Derived.Test.YtlgnnljleooenaaDoorD
import Derived.Test.YtlgnnljleooenaaDoorT
namespace Go.Proofs.YtlgnnljleooenaaDoor
open Go.RowKit
set_option linter.unusedVariables false

theorem rmade_len {h : Int} {a b m : List Sp} {e : Int} (g : RMade h a b m e) : m.length ≤ 1024 := by
  rcases g with ⟨_, rfl, _⟩ | ⟨_, _, rfl, _⟩ | ⟨_, _, m', _, ⟨_, rfl, _⟩ | ⟨h, rfl, _⟩⟩
  · simp
  · simp
  · simp
  · exact h
theorem made_len {c : Bool → Bool → Bool} {a b m : List Sp} {e : Int} (g : MadeR c a b m e) : m.length ≤ 1024 := by
  rcases g with ⟨_, rfl, _⟩ | ⟨_, _, rfl, _⟩ | ⟨_, _, m', _, _, ⟨_, rfl, _⟩ | ⟨h, rfl, _⟩⟩
  · simp
  · simp
  · simp
  · exact h
theorem inside {f : Int → Bool} (hf : Fits f) (x : Int) : (decide (0 ≤ x ∧ x ≤ 1114111) && f x) = f x := by
  cases h : f x with
  | false => simp
  | true => rw [decide_eq_true (hf x h)]; rfl
theorem both_same {m m1 m2 : List Sp} {e e2 : Int} (h3 : (1024 < m1.length ∧ m = [] ∧ e = 4) ∨ (m1.length ≤ 1024 ∧ m = m1 ∧ e = 0)) (g3 : (1024 < m1.length ∧ m2 = [] ∧ e2 = 4) ∨ (m1.length ≤ 1024 ∧ m2 = m1 ∧ e2 = 0)) : m = m2 ∧ e = e2 := by
  rcases h3 with ⟨p, rfl, rfl⟩ | ⟨p, rfl, rfl⟩ <;> rcases g3 with ⟨q, rfl, rfl⟩ | ⟨q, rfl, rfl⟩
  · exact ⟨rfl, rfl⟩
  · omega
  · omega
  · exact ⟨rfl, rfl⟩
theorem rmade_eq {c : Bool → Bool → Bool} {h : Int} (hc : ∀ x y, how h x y = c x y) (h0 : c false false = false) {a b m m2 : List Sp} {e e2 : Int} (g : MadeR c a b m e) (r : RMade h a b m2 e2) : m = m2 ∧ e = e2 := by
  rcases g with ⟨g1, rfl, rfl⟩ | ⟨g1, g2, rfl, rfl⟩ | ⟨g1, g2, m1, hm1, _, g3⟩
  · rcases r with ⟨r1, rfl, rfl⟩ | ⟨r1, _⟩ | ⟨r1, _⟩
    · exact ⟨rfl, rfl⟩
    · exact absurd r1 g1
    · exact absurd r1 g1
  · rcases r with ⟨r1, _⟩ | ⟨r1, r2, rfl, rfl⟩ | ⟨r1, r2, _⟩
    · exact absurd g1 r1
    · exact ⟨rfl, rfl⟩
    · exact absurd r2 g2
  · rcases r with ⟨r1, _⟩ | ⟨r1, r2, _⟩ | ⟨r1, r2, m3, hm3, r3⟩
    · exact absurd g1 r1
    · exact absurd g2 r2
    · have hf := fits_two h0 (chk_zero g1).2 (chk_zero g2).2
      have e1 : m1 = m3 := hm1.unique (hm3.congr fun x => by
        have : fOf h a b x = c (hasP a x) (hasP b x) := hc _ _
        rw [this]; exact inside hf x)
      subst e1
      exact both_same g3 r3
theorem rnot_eq {a m m2 : List Sp} {e e2 : Int} (g : MadeR cLess [(0, 1114111)] a m e) (r : RMade 3 a [] m2 e2) : m = m2 ∧ e = e2 := by
  have ha : chk [(0, 1114111)] = 0 := by decide
  have hn : chk [] = 0 := by decide
  rcases g with ⟨g1, _⟩ | ⟨_, g2, rfl, rfl⟩ | ⟨_, g2, m1, hm1, _, g3⟩
  · exact absurd ha g1
  · rcases r with ⟨r1, rfl, rfl⟩ | ⟨r1, _⟩ | ⟨r1, _⟩
    · exact ⟨rfl, rfl⟩
    · exact absurd r1 g2
    · exact absurd r1 g2
  · rcases r with ⟨r1, _⟩ | ⟨_, r2, _⟩ | ⟨_, _, m3, hm3, r3⟩
    · exact absurd g2 r1
    · exact absurd hn r2
    · have e1 : m1 = m3 := hm1.unique (hm3.congr fun x => by
        have : hasP [(0, 1114111)] x = decide (0 ≤ x ∧ x ≤ 1114111) := by simp [hasP]
        rw [this]; rfl)
      subst e1
      exact both_same g3 r3
theorem rnorm_has {a : List Sp} (hf : Fits (hasP a)) (x : Int) : (decide (0 ≤ x ∧ x ≤ 1114111) && fOf 0 a [] x) = hasP a x := by
  have : fOf 0 a [] x = hasP a x := by
    unfold fOf how; rw [if_pos rfl]; simp [hasP]
  rw [this]; exact inside hf x
theorem rnorm_eq {a m m2 : List Sp} {e e2 : Int} (g : NormR a m e) (r : RMade 0 a [] m2 e2) : m = m2 ∧ e = e2 := by
  have hn : chk [] = 0 := by decide
  rcases g with ⟨g1, rfl, rfl⟩ | ⟨g1, hm1, hl, rfl⟩
  · rcases r with ⟨r1, rfl, rfl⟩ | ⟨r1, _⟩ | ⟨r1, _⟩
    · exact ⟨rfl, rfl⟩
    · exact absurd r1 g1
    · exact absurd r1 g1
  · rcases r with ⟨r1, _⟩ | ⟨_, r2, _⟩ | ⟨_, _, m3, hm3, r3⟩
    · exact absurd g1 r1
    · exact absurd hn r2
    · have hz := chk_zero g1
      have e1 : m = m3 := hm1.unique (hm3.congr (rnorm_has (fits_has hz.2)))
      subst e1
      rcases r3 with ⟨p, _⟩ | ⟨_, rfl, rfl⟩
      · omega
      · exact ⟨rfl, rfl⟩
theorem nf_len {a m : List Sp} (hc : chk a = 0) (h : Nf (hasP a) m) : m.length ≤ a.length := by
  have hp : (a.mergeSort fun s t => decide (s.1 ≤ t.1)).Perm a := List.mergeSort_perm a _
  have hs : (a.mergeSort fun s t => decide (s.1 ≤ t.1)).Pairwise (fun s t => decide (s.1 ≤ t.1) = true) := by
    first
      | exact List.pairwise_mergeSort (fun x y z h1 h2 => by simp at *; omega) (fun x y => by simp; omega) a
      | exact List.sorted_mergeSort (fun x y z h1 h2 => by simp at *; omega) (fun x y => by simp; omega) a
  generalize (a.mergeSort fun s t => decide (s.1 ≤ t.1)) = l at hp hs
  have hok : l.all ok1 = true := List.all_eq_true.2 fun s hs => List.all_eq_true.1 (chk_zero hc).2 s (hp.mem_iff.1 hs)
  obtain ⟨h1, h2⟩ := fold_edges l hok (hs.imp fun h => of_decide_eq_true h)
  obtain ⟨E, n, g1, g2, rfl⟩ := h
  have e : E = fold l := g1.unique ⟨h1.1, fun x => (h1.2 x).trans (hasP_perm hp x)⟩
  rw [btw_length n E g2]
  rw [← e, hp.length_eq] at h2
  omega
theorem CountR.unique {a : List Sp} {n k : Int} (h : CountR a n) (g : CountR a k) : n = k := by
  rcases h with ⟨h1, rfl⟩ | ⟨h1, m, hm, rfl⟩ <;> rcases g with ⟨g1, rfl⟩ | ⟨g1, m2, hm2, rfl⟩
  · rfl
  · exact absurd g1 h1
  · exact absurd h1 g1
  · rw [hm.unique hm2]

set_option maxRecDepth 100000 in
theorem rnorm_any (v : Value) (a : List Sp) (hA : a.length ≤ 17179869184) (w : World) (hv : SpansAt w v a) :
    Calls Tryd.prog 17 #[v] w fun e W' => (∃ p k m r, e = .returned (.tuple #[.slice p m.length k, .int .i64 r]) ∧ RMade 0 a [] m r ∧ SpansAt W' (.slice p m.length k) m) ∧ Below w.heap.size w W' := by
  go_enter Tryd.func17, Tryd.ntmps17
  go_wp2_with fail
  refine (made_any 0 (.inl rfl) _ _ a [] hA (by simp) _ hv (SpansAt.nil _)).mono ?_
  rintro e w1 ⟨⟨p, k, m, r, rfl, h1, h2⟩, h3⟩
  go_wp2
  go_ret2
  exact ⟨⟨p, k, m, r, rfl, h1, h2⟩, h3⟩
set_option maxRecDepth 100000 in
set_option maxHeartbeats 1600000 in
theorem rcount_any (v : Value) (a : List Sp) (hA : a.length ≤ 17179869184) (w : World) (hv : SpansAt w v a) :
    Calls Tryd.prog 24 #[v] w fun e W' => (∃ n, e = .returned (.int .i64 n) ∧ CountR a n) ∧ Below w.heap.size w W' := by
  go_enter Tryd.func24, Tryd.ntmps24
  go_wp2_with fail
  refine (rnorm_any v a hA w hv).mono ?_
  rintro e w1 ⟨⟨p, cap, m, r, rfl, hN, hS⟩, hB1⟩
  have hm9 := rmade_len hN
  have HN : Hid (((chk a ≠ 0 ∧ m = []) ∨ (chk a = 0 ∧ Nf (hasP a) m)) ∧ m.all ok1 = true) := by
    rcases hN with ⟨hc, rfl, _⟩ | ⟨_, h2, _⟩ | ⟨hc, _, m', hm', h3⟩
    · exact ⟨.inl ⟨hc, rfl⟩, rfl⟩
    · exact absurd (by decide) h2
    · have hf := fits_has (chk_zero hc).2
      have hm2 := hm'.congr (rnorm_has hf)
      rcases h3 with ⟨p, _⟩ | ⟨_, rfl, _⟩
      · have := nf_len hc hm2; have := (chk_zero hc).1; omega
      · exact ⟨.inr ⟨hc, hm2⟩, hm2.ok hf⟩
  have HOK := hid' HN.out.2
  clear hN
  obtain ⟨a', cap', e', -, hs⟩ := hS
  simp only [Value.slice.injEq] at e'
  obtain ⟨rfl, -, rfl⟩ := e'
  go_wp2_with fail
  go_loopw [5, 6] (fun n i wr => ∃ (k : Nat) (N : Int), k ≤ m.length ∧ n = .int .i64 N ∧ i = .int .i64 k ∧ Hid (N = cnt (m.take k)) ∧ 0 ≤ N ∧ N ≤ 1114112 * k ∧ ∃ q, wr = w1.drewN q)
    (fun _ i _ => m.length - (intOf i).toNat)
  case atStart => exact ⟨0, 0, Nat.zero_le _, rfl, rfl, rfl, by omega, by omega, 0, rfl⟩
  case round =>
    obtain ⟨k, N, hk, rfl, rfl, HNk, hN0, hN1, q, rfl⟩ := hrel
    by_cases hlt : k < m.length
    · obtain ⟨b, off, rfl, hc⟩ := hs (by omega)
      obtain ⟨x, y, HX, c1, c2, hb⟩ := SpansAt.elem (cap := cap) hlt (Below.refl _ w1) hc
      have hxy := ok1_true_of (x, y) (by rw [← HX.out, List.getElem?_eq_getElem hlt]; exact List.all_eq_true.1 HOK.out _ (List.getElem_mem hlt))
      obtain ⟨h1, h2, h3⟩ := hxy
      dsimp only at h1 h2 h3
      have HS : Hid (N + (y - x) + 1 = cnt (m.take (k + 1))) := by
        show _ = _
        rw [take_snoc m (0, 0) k hlt, cnt_append, HX.out, ← HNk.out]; simp [cnt]; omega
      have w1' : IntKind.i32.wrap (y - x) = y - x := by simp [IntKind.wrap, IntKind.bits, IntKind.signed]; omega
      have w2' : IntKind.i64.wrap (y - x) = y - x := by simp [IntKind.wrap, IntKind.bits, IntKind.signed]; omega
      have w3' : IntKind.i64.wrap (N + (y - x)) = N + (y - x) := by simp [IntKind.wrap, IntKind.bits, IntKind.signed]; omega
      have w4' : IntKind.i64.wrap (N + (y - x) + 1) = N + (y - x) + 1 := by simp [IntKind.wrap, IntKind.bits, IntKind.signed]; omega
      have b0 : (0 : Int) ≤ (k : Int) := by omega
      have b1 : (k : Int) < (m.length : Int) := by omega
      clear hc hs HNk
      go_wp2_with fail
      go_quiet (fail)
      go_wp2
      go_roundw
      case rel => exact ⟨k + 1, N + (y - x) + 1, by omega, by go_num, by go_num, HS, by omega, by omega, _, rfl⟩
      case measure => simp [intOf]; omega
    · have hkk : k = m.length := by omega
      have HF : Hid (N = cnt m) := by have := HNk.out; rwa [hkk, List.take_length] at this
      clear hkk hs HNk
      go_wp2
      go_ret
      refine ⟨⟨N, rfl, ?_⟩, below_drewN hB1 q⟩
      rcases HN.out.1 with ⟨hc, hm⟩ | ⟨hc, hm⟩
      · exact .inl ⟨hc, by rw [HF.out, hm]; rfl⟩
      · exact .inr ⟨hc, m, hm, HF.out⟩
end Go.Proofs.YtlgnnljleooenaaDoor
