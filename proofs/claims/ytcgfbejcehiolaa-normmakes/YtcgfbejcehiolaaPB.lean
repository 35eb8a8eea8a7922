/- Plain facts: two rows are put together each by itself, if the second one begins with one of class 0. -/
import Derived.Test.YtcgfbejcehiolaaPA
namespace Go.Proofs.Ytcgfbejcehiolaa
open Go.RowKit
set_option linter.unusedVariables false

theorem nfd_begins (b : List Int) (h : b = [] ∨ ∃ r b', b = r :: b' ∧ cl r = 0) : (b.flatMap fd).map pt = [] ∨ ∃ p y', (b.flatMap fd).map pt = p :: y' ∧ p.2 = 0 := by
  rcases h with rfl | ⟨r, b', rfl, hr⟩
  · exact .inl rfl
  · have h1 := (fd_len r).1
    have h2 := fd_head hr
    cases hf : fd r with
    | nil => rw [hf] at h1; simp at h1
    | cons c l =>
      rw [hf] at h2
      exact .inr ⟨pt c, (l ++ b'.flatMap fd).map pt, by simp [hf], h2⟩
theorem nfd_join (a b : List Int) (h : b = [] ∨ ∃ r b', b = r :: b' ∧ cl r = 0) : nfdI (a ++ b) = nfdI a ++ nfdI b := by
  unfold nfdI
  rw [List.flatMap_append, List.map_append, ord_join _ _ (nfd_begins b h), List.map_append]
/-- What stands ahead stays ahead. -/
def pre (X : List Pt) : TS → TS
  | (some (A, s), B) => (some (X ++ A, s), B)
  | (none, B) => (none, X ++ B)
theorem tstep_pre (X A B : List Pt) (s c : Pt) : tstep (some (X ++ A, s), B) c = pre X (tstep (some (A, s), B) c) ∧ ∃ A' s' B', tstep (some (A, s), B) c = (some (A', s'), B') := by
  unfold tstep
  dsimp only
  split
  · exact ⟨rfl, _, _, _, rfl⟩
  · split
    · exact ⟨by simp [pre], _, _, _, rfl⟩
    · exact ⟨rfl, _, _, _, rfl⟩
theorem tout_pre (X A B : List Pt) (s : Pt) : tout (pre X (some (A, s), B)) = X ++ tout (some (A, s), B) := by simp [pre, tout]
theorem tfold_pre (y : List Pt) : ∀ (X A B : List Pt) (s : Pt), tout (y.foldl tstep (some (X ++ A, s), B)) = X ++ tout (y.foldl tstep (some (A, s), B)) := by
  induction y with
  | nil => intro X A B s; simp [tout]
  | cons c y ih =>
    intro X A B s
    rw [List.foldl_cons, List.foldl_cons]
    obtain ⟨h1, A', s', B', h2⟩ := tstep_pre X A B s c
    rw [h1, h2]
    exact ih X A' B' s'
theorem tstep_zero (t : TS) (p : Pt) (hp : p = pt p.1) (h0 : p.2 = 0) : tstep t p = (some (tout t, p), []) := by
  rcases tstep_cases t p with h | ⟨A, s, B, q, ht, hr, hq, h⟩
  · rw [h]; unfold app; rw [if_pos h0]
  · have := (pr_cases hq).2.1
    have h2 : p.2 = cl p.1 := by rw [hp]; rfl
    omega
theorem comp_join (x y : List Pt) (h : y = [] ∨ ∃ p y', y = p :: y' ∧ p.2 = 0 ∧ p = pt p.1) : comp (x ++ y) = comp x ++ comp y := by
  rcases h with rfl | ⟨p, y', rfl, h0, hp⟩
  · simp [comp, tst, tout]
  · unfold comp tst
    rw [List.foldl_append, List.foldl_cons, List.foldl_cons, tstep_zero _ p hp h0, tstep_zero _ p hp h0]
    have := tfold_pre y' (tout (x.foldl tstep (none, []))) [] [] p
    rw [List.append_nil] at this
    exact this
theorem nfc_join (a b : List Int) (h : b = [] ∨ ∃ r b', b = r :: b' ∧ cl r = 0) : nfcI (a ++ b) = nfcI a ++ nfcI b := by
  unfold nfcI
  have hb := nfd_begins b h
  rw [List.flatMap_append, List.map_append, ord_join _ _ hb, comp_join, List.map_append]
  rcases hb with hb | ⟨p, y', hb, h0⟩
  · rw [hb]; exact .inl rfl
  · have hp : p = pt p.1 := pure_map _ p (by rw [hb]; simp)
    rw [hb]
    obtain ⟨z, hz⟩ := ord_cons p y' h0
    exact .inr ⟨p, z, hz, h0, hp⟩
end Go.Proofs.Ytcgfbejcehiolaa
