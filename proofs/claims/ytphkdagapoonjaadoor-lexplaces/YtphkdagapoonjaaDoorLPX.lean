/- What the laws see of Lex's and Write's answers. (Stage 15.) -/
import Derived.Test.YtphkdagapoonjaaDoorLPW
import Derived.Test.YtphkdagapoonjaaDoorLPU
import Derived.Test.YtphkdagapoonjaaDoorLXG
namespace Go.Proofs.YtphkdagapoonjaaDoor.Lx
open Go.RowKit
open Go.Proofs.YtphkdagapoonjaaDoor.F (bn bn_length bn_append bn_inj bn_get byte_bd hid bn_extract isEmpty_false isEmpty_true str_eq same_eq)
open Go.Proofs.YtphkdagapoonjaaDoor.U (nx enc encs scal val Bytes)
set_option linter.unusedVariables false

theorem lexP_none : ∀ (r : List (Nat × List Int)) (o : List Tk), (lexP r o).2.1 ≠ 0 → (lexP r o).1 = []
  | [], o, h => absurd rfl h
  | x :: r, o, h => by
    rw [lexP] at h ⊢
    by_cases h0 : (line x.2 x.1).2.1 ≠ 0
    · rw [if_pos h0]
    · rw [if_neg h0] at h ⊢
      exact lexP_none r _ h
theorem lex_none {s : List Int} (h : (lex s).2.1 ≠ 0) : (lex s).1 = [] := by
  unfold lex at h ⊢
  by_cases hl : 65536 < s.length
  · rw [if_pos hl]
  · rw [if_neg hl] at h ⊢
    have e := lexF_P s.length s [] 1 (Nat.le_refl _)
    rw [e] at h ⊢
    exact lexP_none _ _ h
theorem sm_kx : ∀ {ts us : List Tb}, (ts.map Tb.tk).map kx = (us.map Tb.tk).map kx → sm true ts us = true
  | [], [], _ => rfl
  | [], _ :: _, h => by simp at h
  | _ :: _, [], h => by simp at h
  | ⟨k, x, n, a⟩ :: ts, ⟨k', x', n', a'⟩ :: us, h => by
    rw [List.map_cons, List.map_cons, List.map_cons, List.map_cons, List.cons.injEq] at h
    obtain ⟨e, e2⟩ := h
    unfold kx Tb.tk at e
    simp only [Prod.mk.injEq] at e
    obtain ⟨rfl, e1⟩ := e
    obtain rfl := bn_inj e1
    rw [sm, sm_kx e2]
    unfold sj
    simp
theorem kx_len {ts us : List Tb} (h : (ts.map Tb.tk).map kx = (us.map Tb.tk).map kx) : ts.length = us.length := by
  have := congrArg List.length h
  simpa using this
theorem ok_small : ∀ {last : Nat} {r : List Tk}, ok last r → r.length ≤ (wr last r).length ∧ ∀ t ∈ r, t.k ≤ 5 ∧ t.x.length ≤ (wr last r).length
  | last, [], _ => ⟨Nat.zero_le _, fun t ht => (by cases ht)⟩
  | last, t :: r, h => by
    rw [ok] at h
    obtain ⟨h1, h2⟩ := h
    obtain ⟨a, b⟩ := ok_small h2
    have key : t.k ≤ 5 ∧ t.x.length ≤ (tw t).length ∧ 1 ≤ (tw t).length := by
      unfold tw
      rcases h1 with ⟨hk, hw⟩ | ⟨hk, hv⟩ | ⟨hk, hx⟩
      · rw [if_pos hk]
        have := List.length_pos_iff.2 hw.1
        exact ⟨by omega, Nat.le_refl _, this⟩
      · rw [if_neg (by omega), if_pos hk]
        have := flat_ge t.x
        unfold qt
        simp only [List.length_cons, List.length_append, List.length_nil]
        omega
      · rw [hx, if_neg (by omega), if_neg (by omega)]
        refine ⟨by omega, Nat.zero_le _, ?_⟩
        (repeat' split) <;> simp
    have e : (wr last (t :: r)).length = (sep last t.k).length + (tw t).length + (wr t.k r).length := by rw [wr, List.length_append, List.length_append]
    refine ⟨by rw [List.length_cons]; omega, fun u hu => ?_⟩
    rcases List.mem_cons.1 hu with rfl | hu
    · exact ⟨key.1, by omega⟩
    · exact ⟨(b u hu).1, Nat.le_trans (b u hu).2 (by omega)⟩
theorem read_sml {ts : List Tb} {M : Nat} (h : ∀ t ∈ ts.map Tb.tk, t.k ≤ 5 ∧ t.x.length ≤ M) (hM : M ≤ 1000000) : Sml ts := by
  intro t ht
  have := h _ (List.mem_map_of_mem ht)
  unfold Tb.tk at this
  simp only [bn_length] at this
  exact ⟨by omega, by omega⟩
theorem bt (l : List Tb) : BT (l.map Tb.tk) := by
  intro t ht
  obtain ⟨u, _, rfl⟩ := List.mem_map.1 ht
  exact U.bn_bytes u.x
theorem ln_bad {s : ByteArray} {B : Nat} {e : Ending} {W : World} (h : LnR (lex (bn s)) B e W) (h0 : (lex (bn s)).2.1 ≠ 0) : ∃ (a : Option Addr) (c : Nat) (f0 f1 f2 : Int), f0 ≠ 0 ∧ e = .returned (.tuple #[.slice a 0 c, .agg #[.int .i64 f0, .int .i64 f1, .int .i64 f2]]) := by
  obtain ⟨v, ts, hown, hts, hnn, rfl⟩ := h
  rw [lex_none h0] at hts
  obtain rfl := List.map_eq_nil_iff.1 hts
  obtain ⟨a, c, rfl⟩ := hown.form
  exact ⟨a, c, _, _, _, by omega, rfl⟩
theorem ln_good {s : ByteArray} {B : Nat} {e : Ending} {W : World} (h : LnR (lex (bn s)) B e W) (h0 : (lex (bn s)).2.1 = 0) (hs : s.size ≤ 65536) : ∃ (a : Option Addr) (c : Nat) (ts : List Tb), e = .returned (.tuple #[.slice a ts.length c, .agg #[.int .i64 0, .int .i64 0, .int .i64 0]]) ∧ TokAt W (.slice a ts.length c) ts ∧ ok 5 (ts.map Tb.tk) ∧ (wr 5 (ts.map Tb.tk)).length ≤ 10 * s.size ∧ Sml ts ∧ ts.length ≤ 10 * s.size ∧ lex (bn s) = (ts.map Tb.tk, 0, 0, 0) ∧ ∀ t ∈ ts, 0 ≤ t.n ∧ 0 ≤ t.a := by
  obtain ⟨v, ts, hown, hts, hnn, rfl⟩ := h
  obtain ⟨r, e1, hb, hok, hl⟩ := lex_inv (s := bn s) (U.bn_bytes s) h0
  rw [e1] at hts ⊢
  simp only at hts
  subst hts
  rw [bn_length] at hl
  obtain ⟨p, q⟩ := ok_small hok
  rw [List.length_map] at p
  obtain ⟨a, c, rfl⟩ := hown.form
  exact ⟨a, c, ts, rfl, hown.at, hok, hl, read_sml q (by omega), by omega, rfl, hnn⟩
theorem wrt_two {l : List Tk} {e : Ending} (h : WrtR l e) : (∃ (v : Value) (ev : Int), ev ≠ 0 ∧ e = .returned (.tuple #[.string ⟨#[]⟩, .int .i64 ev])) ∨ (ok 5 l ∧ (wr 5 l).length ≤ 65536 ∧ ∃ u : ByteArray, bn u = wr 5 l ∧ e = .returned (.tuple #[.string u, .int .i64 0])) := by
  rcases h with ⟨_, rfl⟩ | ⟨_, _, rfl⟩ | h
  · exact .inl ⟨.int .i64 0, 2, by decide, rfl⟩
  · exact .inl ⟨.int .i64 0, 4, by decide, rfl⟩
  · exact .inr h
theorem wrt_read {l : List Tk} {e : Ending} (h : WrtR l e) (hok : ok 5 l) (hl : (wr 5 l).length ≤ 65536) : ∃ u : ByteArray, bn u = wr 5 l ∧ e = .returned (.tuple #[.string u, .int .i64 0]) := by
  rcases h with ⟨h, _⟩ | ⟨_, h, _⟩ | ⟨_, _, h⟩
  · exact absurd hok h
  · omega
  · exact h
theorem ln_back {u : ByteArray} {l : List Tb} {B : Nat} {e : Ending} {W : World} (hu : bn u = wr 5 (l.map Tb.tk)) (hok : ok 5 (l.map Tb.tk)) (hl : (wr 5 (l.map Tb.tk)).length ≤ 65536) (h : LnR (lex (bn u)) B e W) : ∃ (a : Option Addr) (c : Nat) (ts : List Tb), e = .returned (.tuple #[.slice a ts.length c, .agg #[.int .i64 0, .int .i64 0, .int .i64 0]]) ∧ TokAt W (.slice a ts.length c) ts ∧ sm true ts l = true ∧ ts.length = l.length := by
  obtain ⟨v, ts, hown, hts, hnn, rfl⟩ := h
  obtain ⟨l', e1, hk⟩ := lex_wr (bt l) hok hl
  rw [hu, e1] at hts ⊢
  simp only at hts
  subst hts
  obtain ⟨a, c, rfl⟩ := hown.form
  exact ⟨a, c, ts, rfl, hown.at, sm_kx hk, kx_len hk⟩
theorem u_size {u : ByteArray} {l : List Int} (h : bn u = l) (hl : l.length ≤ 65536) : u.size ≤ 65536 := by
  rw [← bn_length, h]; exact hl
end Go.Proofs.YtphkdagapoonjaaDoor.Lx
