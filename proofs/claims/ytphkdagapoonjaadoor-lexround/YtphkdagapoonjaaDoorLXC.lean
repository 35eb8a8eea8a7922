/- Plain: tokens that are written are read as themselves. (Stage 15.) -/
import Derived.Test.YtphkdagapoonjaaDoorLXB
namespace Go.Proofs.YtphkdagapoonjaaDoor.Lx
open Go.Proofs.YtphkdagapoonjaaDoor.U (nx enc encs scal Bytes)
set_option linter.unusedVariables false

/-- A token that may stand in a line. -/
def good (t : Tk) : Prop := Bytes t.x ∧ (t.k = 1 ∧ wd t.x ∨ t.k = 2 ∧ U.val t.x = true ∨ (t.k = 3 ∨ t.k = 4) ∧ t.x = [])
def kx (t : Tk) : Nat × List Int := (t.k, t.x)
theorem en_no {c : Int} (h : en c = false) : c ≠ 32 ∧ c ≠ 9 ∧ c ≠ 44 ∧ c ≠ 33 ∧ c ≠ 34 ∧ c ≠ 35 := by
  unfold en at h
  have := of_decide_eq_false h
  omega
/-- What stands behind a word ends it. -/
theorem wr_head (r : List Tk) (h : ∀ t ∈ r, good t) : wr 1 r = [] ∨ ∃ c q, wr 1 r = c :: q ∧ en c = true := by
  cases r with
  | nil => exact .inl rfl
  | cons t r =>
    right
    have ht := (h t (by simp)).2
    have hk : t.k = 1 ∨ t.k = 2 ∨ t.k = 3 ∨ t.k = 4 := by rcases ht with h | h | h <;> omega
    rw [wr]
    by_cases h3 : t.k = 3
    · refine ⟨44, wr t.k r, ?_, by decide⟩
      unfold sep tw
      simp [h3]
    · refine ⟨32, tw t ++ wr t.k r, ?_, by decide⟩
      unfold sep
      rw [if_pos (by omega)]
      simp
theorem tw_word {x : List Int} (hx : ∀ c ∈ x, en c = false) {R : List Int} (hR : R = [] ∨ ∃ c q, R = c :: q ∧ en c = true) : (x ++ R).takeWhile nen = x ∧ (x ++ R).dropWhile nen = R := by
  induction x with
  | nil =>
    rcases hR with rfl | ⟨c, q, rfl, hc⟩
    · simp
    · rw [List.nil_append, List.takeWhile_cons_of_neg (by unfold nen; simp [hc]), List.dropWhile_cons_of_neg (by unfold nen; simp [hc])]
      exact ⟨rfl, rfl⟩
  | cons c x ih =>
    have hc : nen c = true := by unfold nen; rw [hx c (by simp)]; rfl
    obtain ⟨a, b⟩ := ih (fun d hd => hx d (by simp [hd]))
    rw [List.cons_append, List.takeWhile_cons_of_pos hc, List.dropWhile_cons_of_pos hc, a, b]
    exact ⟨rfl, rfl⟩
theorem lnF_nil (f : Nat) (o : List Tk) (i n : Nat) : lnF f o [] i n = (o, none) := by cases f <;> rfl
/-- One token. -/
theorem ln_tok {t : Tk} (g : good t) (R : List Int) (hR : t.k = 1 → R = [] ∨ ∃ c q, R = c :: q ∧ en c = true) (f : Nat) (o : List Tk) (i n : Nat) :
    lnF (f + 1) o (tw t ++ R) i n = lnF f (o ++ [⟨t.k, t.x, n, i⟩]) R (i + (tw t).length) n := by
  obtain ⟨hb, h | h | h⟩ := g
  · obtain ⟨hk, hne, _, hw⟩ := h
    have e : tw t = t.x := by unfold tw; rw [if_pos hk]
    obtain ⟨a, b⟩ := tw_word (fun c hc => (hw c hc).1) (hR hk)
    rw [e, hk]
    cases hx : t.x with
    | nil => exact absurd hx hne
    | cons c x =>
      have hc := en_no (hw c (by rw [hx]; simp)).1
      rw [hx] at a b
      rw [List.cons_append] at a b ⊢
      rw [lnF, if_neg hc.2.2.2.2.2, if_neg (by omega), if_neg hc.2.2.1, if_neg hc.2.2.2.1, if_neg hc.2.2.2.2.1, a, b]
  · obtain ⟨hk, _⟩ := h
    have e : tw t = 34 :: (t.x.flatMap qb ++ [34]) := by unfold tw; rw [if_neg (by omega), if_pos hk]; rfl
    have e2 : (t.x.flatMap qb ++ [34]) ++ R = t.x.flatMap qb ++ 34 :: R := by simp
    have hl : t.x.length ≤ (t.x.flatMap qb).length := by
      generalize t.x = x
      induction x with
      | nil => simp
      | cons c x ih => rw [List.flatMap_cons, List.length_append, List.length_cons]; have := qb_pos c; omega
    have q := tx_qt t.x ((t.x.flatMap qb ++ 34 :: R).length + 1) [] R 1 hb (by rw [List.length_append]; omega)
    rw [e, List.cons_append, e2, lnF, if_neg (by decide), if_neg (by decide), if_neg (by decide), if_neg (by decide), if_pos rfl, q]
    simp only [List.nil_append]
    rw [if_neg (by omega), hk, show 1 + (t.x.flatMap qb).length + 1 - 1 = (t.x.flatMap qb).length + 1 by omega]
    have e3 : (t.x.flatMap qb ++ 34 :: R).drop ((t.x.flatMap qb).length + 1) = R := by
      rw [show t.x.flatMap qb ++ 34 :: R = (t.x.flatMap qb ++ [34]) ++ R by simp]
      exact List.drop_left' (by simp)
    rw [e3]
    congr 1
    simp; omega
  · obtain ⟨h, hx⟩ := h
    rw [hx]
    rcases h with h | h
    · have e : tw t = [44] := by unfold tw; rw [if_neg (by omega), if_neg (by omega), if_pos h]
      rw [e, h]
      show lnF (f + 1) o (44 :: R) i n = _
      rw [lnF, if_neg (by decide), if_neg (by decide), if_pos rfl]; rfl
    · have e : tw t = [33] := by unfold tw; rw [if_neg (by omega), if_neg (by omega), if_neg (by omega), if_pos h]
      rw [e, h]
      show lnF (f + 1) o (33 :: R) i n = _
      rw [lnF, if_neg (by decide), if_neg (by decide), if_neg (by decide), if_pos rfl]; rfl
theorem tw3 {t : Tk} (h : t.k = 3) : tw t = [44] := by unfold tw; rw [if_neg (by omega), if_neg (by omega), if_pos h]
theorem tw4 {t : Tk} (h : t.k = 4) : tw t = [33] := by unfold tw; rw [if_neg (by omega), if_neg (by omega), if_neg (by omega), if_pos h]
theorem tw_pos {t : Tk} (g : good t) : 1 ≤ (tw t).length := by
  obtain ⟨_, h | h | ⟨h | h, _⟩⟩ := g
  · unfold tw
    rw [if_pos h.1]
    have := h.2.1
    exact List.length_pos_iff.2 this
  · unfold tw
    rw [if_neg (by omega), if_pos h.1]; unfold qt; simp
  · rw [tw3 h]; simp
  · rw [tw4 h]; simp
theorem ln_wr : ∀ (ts : List Tk) (last f : Nat) (o : List Tk) (i n : Nat), (∀ t ∈ ts, good t) → (wr last ts).length ≤ f → ∃ ts', lnF f o (wr last ts) i n = (o ++ ts', none) ∧ ts'.map kx = ts.map kx
  | [], last, f, o, i, n, _, _ => ⟨[], by rw [wr, lnF_nil]; simp, rfl⟩
  | t :: r, last, f, o, i, n, hg, hf => by
    have g := hg t (by simp)
    have gr : ∀ t ∈ r, good t := fun x hx => hg x (by simp [hx])
    have hp := tw_pos g
    rw [wr] at hf ⊢
    have hR : t.k = 1 → wr t.k r = [] ∨ ∃ c q, wr t.k r = c :: q ∧ en c = true := fun h => by rw [h]; exact wr_head r gr
    unfold sep at hf ⊢
    split
    · rename_i hs
      rw [if_pos hs, List.append_assoc, List.length_append, List.length_append] at hf
      simp only [List.length_cons, List.length_nil] at hf
      obtain ⟨f, rfl⟩ : ∃ g, f = g + 2 := ⟨f - 2, by omega⟩
      rw [List.append_assoc]
      show ∃ ts', lnF (f + 1 + 1) o (32 :: (tw t ++ wr t.k r)) i n = _ ∧ _
      rw [lnF, if_neg (by decide), if_pos (.inl rfl), ln_tok g _ hR]
      obtain ⟨ts', h1, h2⟩ := ln_wr r t.k f (o ++ [⟨t.k, t.x, n, i + 1⟩]) (i + 1 + (tw t).length) n gr (by omega)
      exact ⟨⟨t.k, t.x, n, i + 1⟩ :: ts', by rw [h1]; simp, by rw [List.map_cons, List.map_cons, h2]; rfl⟩
    · rename_i hs
      rw [if_neg hs, List.nil_append, List.length_append] at hf
      obtain ⟨f, rfl⟩ : ∃ g, f = g + 1 := ⟨f - 1, by omega⟩
      rw [List.nil_append, ln_tok g _ hR]
      obtain ⟨ts', h1, h2⟩ := ln_wr r t.k f (o ++ [⟨t.k, t.x, n, i⟩]) (i + (tw t).length) n gr (by omega)
      exact ⟨⟨t.k, t.x, n, i⟩ :: ts', by rw [h1]; simp, by rw [List.map_cons, List.map_cons, h2]; rfl⟩
/-! ### What stands in a line that is written -/
theorem flat_vis : ∀ {x : List Int}, Bytes x → ∀ d ∈ x.flatMap qb, 32 ≤ d ∧ d ≤ 255 ∧ d ≠ 127
  | [], _, d, hd => by cases hd
  | c :: x, hb, d, hd => by
    rw [List.flatMap_cons] at hd
    have hc := hb c (by simp)
    rcases List.mem_append.1 hd with hd | hd
    · by_cases h : c < 128
      · have := qb_low hc.1 h d hd; omega
      · rw [qb_high (by omega)] at hd
        rw [List.mem_singleton.1 hd]; omega
    · exact flat_vis (fun b hb' => hb b (by simp [hb'])) d hd
theorem tw_vis {t : Tk} (g : good t) : ∀ d ∈ tw t, 32 ≤ d ∧ d ≤ 255 ∧ d ≠ 127 := by
  obtain ⟨hb, h | h | h⟩ := g
  · intro d hd
    unfold tw at hd
    rw [if_pos h.1] at hd
    have h1 := h.2.2.2 d hd
    have h2 := hb d hd
    omega
  · intro d hd
    unfold tw at hd
    rw [if_neg (by omega), if_pos h.1] at hd
    unfold qt at hd
    rcases List.mem_cons.1 hd with rfl | hd
    · omega
    · rcases List.mem_append.1 hd with hd | hd
      · exact flat_vis hb d hd
      · rw [List.mem_singleton.1 hd]; omega
  · intro d hd
    rcases h.1 with h | h
    · rw [tw3 h] at hd; simp at hd; omega
    · rw [tw4 h] at hd; simp at hd; omega
theorem tw_ev {t : Tk} (g : good t) : EV (tw t) := by
  obtain ⟨hb, h | h | h⟩ := g
  · unfold tw; rw [if_pos h.1]; exact EV.of hb h.2.2.1
  · unfold tw; rw [if_neg (by omega), if_pos h.1]; exact (EV.of hb h.2).qt
  · rcases h.1 with h | h
    · rw [tw3 h]; exact EV.low (by simp)
    · rw [tw4 h]; exact EV.low (by simp)
theorem wr_vis : ∀ (ts : List Tk) (last : Nat), (∀ t ∈ ts, good t) → (∀ d ∈ wr last ts, 32 ≤ d ∧ d ≤ 255 ∧ d ≠ 127) ∧ EV (wr last ts)
  | [], _, _ => ⟨fun d hd => (by cases hd), EV.nil⟩
  | t :: r, last, hg => by
    obtain ⟨a, b⟩ := wr_vis r t.k (fun x hx => hg x (by simp [hx]))
    have g := hg t (by simp)
    have hs : (∀ d ∈ sep last t.k, 32 ≤ d ∧ d ≤ 255 ∧ d ≠ 127) ∧ EV (sep last t.k) := by
      unfold sep
      split
      · exact ⟨fun d hd => by rw [List.mem_singleton.1 hd]; omega, EV.low (by simp)⟩
      · exact ⟨fun d hd => (by cases hd), EV.nil⟩
    rw [wr]
    refine ⟨fun d hd => ?_, (hs.2.app (tw_ev g)).app b⟩
    rcases List.mem_append.1 hd with hd | hd
    · rcases List.mem_append.1 hd with hd | hd
      · exact hs.1 d hd
      · exact tw_vis g d hd
    · exact a d hd
theorem line_wr {ts : List Tk} (hg : ∀ t ∈ ts, good t) (hne : ts ≠ []) (n : Nat) : ∃ o, line (wr 5 ts) n = (o, 0, 0, 0) ∧ o.map kx = ts.map kx ++ [(5, [])] := by
  obtain ⟨hv, he⟩ := wr_vis ts 5 hg
  have hb : Bytes (wr 5 ts) := fun d hd => by have := hv d hd; omega
  have h1 : bd (wr 5 ts) = none := (bd_none hb).2 he.val
  have h2 : pb (wr 5 ts) = none := by
    unfold pb
    rw [List.findIdx?_eq_none_iff]
    intro d hd
    have := hv d hd
    simp; omega
  obtain ⟨ts', h3, h4⟩ := ln_wr ts 5 (wr 5 ts).length [] 0 n hg (Nat.le_refl _)
  have hl : ts'.length ≠ 0 := by
    have := congrArg List.length h4
    rw [List.length_map, List.length_map] at this
    rw [this]
    exact fun h => hne (List.length_eq_zero_iff.1 h)
  refine ⟨ts' ++ [⟨5, [], n, (wr 5 ts).length⟩], ?_, by rw [List.map_append, h4]; rfl⟩
  unfold line
  rw [h1, h2]
  simp only
  rw [h3]
  simp only [List.nil_append]
  rw [if_neg hl]
/-! ### Lines -/
def lk : Nat → List Tk → Nat
  | last, [] => last
  | _, t :: r => lk t.k r
theorem wr_app : ∀ (a b : List Tk) (last : Nat), wr last (a ++ b) = wr last a ++ wr (lk last a) b
  | [], b, last => rfl
  | t :: a, b, last => by rw [List.cons_append, wr, wr_app a b t.k, wr, lk]; simp
/-- All that is written is bytes. -/
def BT (l : List Tk) : Prop := ∀ t ∈ l, Bytes t.x
theorem ok_cut : ∀ (l : List Tk) (last : Nat), BT l → ok last l → (last = 5 → l ≠ []) → ∃ ts e r, l = ts ++ e :: r ∧ (∀ t ∈ ts, good t) ∧ e.k = 5 ∧ e.x = [] ∧ ok 5 r ∧ (last = 5 → ts ≠ [])
  | [], last, _, h, hl => absurd rfl (hl h)
  | t :: l, last, hb, h, hl => by
    obtain ⟨h1, h2⟩ := h
    by_cases h5 : t.k = 5
    · have hx : t.x = [] ∧ last ≠ 5 := by rcases h1 with h1 | h1 | ⟨h1, hx⟩ <;> first | omega | exact ⟨hx, by omega⟩
      rw [h5] at h2
      exact ⟨[], t, l, rfl, fun x hx => (by cases hx), h5, hx.1, h2, fun h => absurd h hx.2⟩
    · have g : good t := ⟨hb t (by simp), by
        rcases h1 with h1 | h1 | ⟨h1, hx⟩
        · exact .inl h1
        · exact .inr (.inl h1)
        · exact .inr (.inr ⟨by omega, hx⟩)⟩
      obtain ⟨ts, e, r, rfl, a, b, c, d, _⟩ := ok_cut l t.k (fun x hx => hb x (by simp [hx])) h2 (fun h => absurd h h5)
      exact ⟨t :: ts, e, r, rfl, fun x hx => (List.mem_cons.1 hx).elim (fun h => h ▸ g) (a x), b, c, d, fun _ => by simp⟩
theorem take_no10 {a b : List Int} (h : ∀ d ∈ a, d ≠ 10) : (a ++ 10 :: b).takeWhile no10 = a ∧ (a ++ 10 :: b).dropWhile no10 = 10 :: b := by
  induction a with
  | nil => exact ⟨by rw [List.nil_append, List.takeWhile_cons_of_neg (by decide)], by rw [List.nil_append, List.dropWhile_cons_of_neg (by decide)]⟩
  | cons c a ih =>
    have hc : no10 c = true := by unfold no10; simp; exact h c (by simp)
    obtain ⟨x, y⟩ := ih (fun d hd => h d (by simp [hd]))
    rw [List.cons_append, List.takeWhile_cons_of_pos hc, List.dropWhile_cons_of_pos hc, x, y]
    exact ⟨rfl, rfl⟩
theorem strip_vis {a : List Int} (h : ∀ d ∈ a, d ≠ 13) : strip a = a := by
  unfold strip
  rw [if_neg]
  intro e
  exact h 13 (List.mem_of_getLast? e) rfl
theorem lexF_nil (f : Nat) (o : List Tk) (n : Nat) : lexF f o [] n = (o, 0, 0, 0) := by
  cases f with
  | zero => rfl
  | succ f => rw [lexF, if_pos rfl]
theorem lex_wrF : ∀ (m : Nat) (l : List Tk) (f : Nat) (o : List Tk) (n : Nat), l.length ≤ m → BT l → ok 5 l → (wr 5 l).length ≤ f → ∃ l', lexF f o (wr 5 l) n = (o ++ l', 0, 0, 0) ∧ l'.map kx = l.map kx
  | m, [], f, o, n, _, _, _, _ => ⟨[], by rw [wr, lexF_nil]; simp, rfl⟩
  | 0, t :: l, f, o, n, hm, _, _, _ => by simp at hm
  | m + 1, t :: l, f, o, n, hm, hb, h, hf => by
    obtain ⟨ts, e, r, hl, hg, he, hx, hr, hts⟩ := ok_cut (t :: l) 5 hb h (fun _ => by simp)
    have hw : wr 5 (t :: l) = wr 5 ts ++ 10 :: wr 5 r := by
      rw [hl, wr_app, wr, he]
      have e1 : sep (lk 5 ts) 5 = [] := by unfold sep; rw [if_neg (by omega)]
      have e2 : tw e = [10] := by unfold tw; rw [if_neg (by omega), if_neg (by omega), if_neg (by omega), if_neg (by omega)]
      rw [e1, e2]; rfl
    have hv := (wr_vis ts 5 hg).1
    obtain ⟨t1, t2⟩ := take_no10 (a := wr 5 ts) (b := wr 5 r) (fun d hd => by have := hv d hd; omega)
    rw [hw] at hf ⊢
    rw [List.length_append, List.length_cons] at hf
    obtain ⟨f, rfl⟩ : ∃ g, f = g + 1 := ⟨f - 1, by omega⟩
    obtain ⟨o1, a1, a2⟩ := line_wr hg (hts rfl) n
    have hlr : r.length ≤ m := by
      have := congrArg List.length hl
      simp only [List.length_append, List.length_cons] at this hm
      omega
    obtain ⟨l', b1, b2⟩ := lex_wrF m r f (o ++ o1) (n + 1) hlr (fun x hx => hb x (by rw [hl]; simp [hx])) hr (by omega)
    refine ⟨o1 ++ l', ?_, ?_⟩
    · have hfl : fl (wr 5 ts ++ 10 :: wr 5 r) = wr 5 ts := by
        unfold fl
        rw [t1, t2, if_neg (by simp), strip_vis (fun d hd => by have := hv d hd; omega)]
      rw [lexF, if_neg (by simp), hfl, t2, a1]
      simp only [ne_eq, not_true_eq_false, if_false, List.drop_succ_cons, List.drop_zero]
      rw [b1]; simp
    · rw [List.map_append, a2, b2, hl]
      simp [kx, he, hx]
/-- Tokens that are written are read as themselves, but for where they stand. -/
theorem lex_wr {l : List Tk} (hb : BT l) (h : ok 5 l) (hl : (wr 5 l).length ≤ 65536) : ∃ l', lex (wr 5 l) = (l', 0, 0, 0) ∧ l'.map kx = l.map kx := by
  obtain ⟨l', a, b⟩ := lex_wrF l.length l (wr 5 l).length [] 1 (Nat.le_refl _) hb h (Nat.le_refl _)
  exact ⟨l', by unfold lex; rw [if_neg (by omega), a]; rfl, b⟩
end Go.Proofs.YtphkdagapoonjaaDoor.Lx
