/- Plain: tokens that are written are read as themselves; Plain: what is read may be written. -/
import Derived.Test.YtphkdagapoonjaaGreatDoorZUT
namespace Go.Proofs.YtphkdagapoonjaaGreatDoor.Lx
open Go.Proofs.YtphkdagapoonjaaGreatDoor.U (nx enc encs scal Bytes)
set_option linter.unusedVariables false

/-- A token that may stand in a line. -/
def good (t : Tk) : Prop := Bytes t.x ∧ (t.k = 1 ∧ wd t.x ∨ t.k = 2 ∧ U.val t.x = true ∨ (t.k = 3 ∨ t.k = 4) ∧ t.x = [])
def kx (t : Tk) : Nat × List Int := (t.k, t.x)
theorem en_no {c : Int} (h : en c = false) : c ≠ 32 ∧ c ≠ 9 ∧ c ≠ 44 ∧ c ≠ 33 ∧ c ≠ 34 ∧ c ≠ 35 := by
  unfold en at h
  have := of_decide_eq_false h
  omega
/-- What stands behind a word ends it. -/
theorem wr_head (r : List Tk) (h : ∀ t ∈ r, good t) : wr 1 r = [] ∨ ∃ c q, wr 1 r = c :: q ∧ en c = true := by
  cases r with
  | nil => exact .inl rfl
  | cons t r =>
    right
    have ht := (h t (by simp)).2
    have hk : t.k = 1 ∨ t.k = 2 ∨ t.k = 3 ∨ t.k = 4 := by rcases ht with h | h | h <;> omega
    rw [wr]
    by_cases h3 : t.k = 3
    · refine ⟨44, wr t.k r, ?_, by decide⟩
      unfold sep tw
      simp [h3]
    · refine ⟨32, tw t ++ wr t.k r, ?_, by decide⟩
      unfold sep
      rw [if_pos (by omega)]
      simp
theorem tw_word {x : List Int} (hx : ∀ c ∈ x, en c = false) {R : List Int} (hR : R = [] ∨ ∃ c q, R = c :: q ∧ en c = true) : (x ++ R).takeWhile nen = x ∧ (x ++ R).dropWhile nen = R := by
  induction x with
  | nil =>
    rcases hR with rfl | ⟨c, q, rfl, hc⟩
    · simp
    · rw [List.nil_append, List.takeWhile_cons_of_neg (by unfold nen; simp [hc]), List.dropWhile_cons_of_neg (by unfold nen; simp [hc])]
      exact ⟨rfl, rfl⟩
  | cons c x ih =>
    have hc : nen c = true := by unfold nen; rw [hx c (by simp)]; rfl
    obtain ⟨a, b⟩ := ih (fun d hd => hx d (by simp [hd]))
    rw [List.cons_append, List.takeWhile_cons_of_pos hc, List.dropWhile_cons_of_pos hc, a, b]
    exact ⟨rfl, rfl⟩
theorem lnF_nil (f : Nat) (o : List Tk) (i n : Nat) : lnF f o [] i n = (o, none) := by cases f <;> rfl
/-- One token. -/
theorem ln_tok {t : Tk} (g : good t) (R : List Int) (hR : t.k = 1 → R = [] ∨ ∃ c q, R = c :: q ∧ en c = true) (f : Nat) (o : List Tk) (i n : Nat) :
    lnF (f + 1) o (tw t ++ R) i n = lnF f (o ++ [⟨t.k, t.x, n, i⟩]) R (i + (tw t).length) n := by
  obtain ⟨hb, h | h | h⟩ := g
  · obtain ⟨hk, hne, _, hw⟩ := h
    have e : tw t = t.x := by unfold tw; rw [if_pos hk]
    obtain ⟨a, b⟩ := tw_word (fun c hc => (hw c hc).1) (hR hk)
    rw [e, hk]
    cases hx : t.x with
    | nil => exact absurd hx hne
    | cons c x =>
      have hc := en_no (hw c (by rw [hx]; simp)).1
      rw [hx] at a b
      rw [List.cons_append] at a b ⊢
      rw [lnF, if_neg hc.2.2.2.2.2, if_neg (by omega), if_neg hc.2.2.1, if_neg hc.2.2.2.1, if_neg hc.2.2.2.2.1, a, b]
  · obtain ⟨hk, _⟩ := h
    have e : tw t = 34 :: (t.x.flatMap qb ++ [34]) := by unfold tw; rw [if_neg (by omega), if_pos hk]; rfl
    have e2 : (t.x.flatMap qb ++ [34]) ++ R = t.x.flatMap qb ++ 34 :: R := by simp
    have hl : t.x.length ≤ (t.x.flatMap qb).length := by
      generalize t.x = x
      induction x with
      | nil => simp
      | cons c x ih => rw [List.flatMap_cons, List.length_append, List.length_cons]; have := qb_pos c; omega
    have q := tx_qt t.x ((t.x.flatMap qb ++ 34 :: R).length + 1) [] R 1 hb (by rw [List.length_append]; omega)
    rw [e, List.cons_append, e2, lnF, if_neg (by decide), if_neg (by decide), if_neg (by decide), if_neg (by decide), if_pos rfl, q]
    simp only [List.nil_append]
    rw [if_neg (by omega), hk, show 1 + (t.x.flatMap qb).length + 1 - 1 = (t.x.flatMap qb).length + 1 by omega]
    have e3 : (t.x.flatMap qb ++ 34 :: R).drop ((t.x.flatMap qb).length + 1) = R := by
      rw [show t.x.flatMap qb ++ 34 :: R = (t.x.flatMap qb ++ [34]) ++ R by simp]
      exact List.drop_left' (by simp)
    rw [e3]
    congr 1
    simp; omega
  · obtain ⟨h, hx⟩ := h
    rw [hx]
    rcases h with h | h
    · have e : tw t = [44] := by unfold tw; rw [if_neg (by omega), if_neg (by omega), if_pos h]
      rw [e, h]
      show lnF (f + 1) o (44 :: R) i n = _
      rw [lnF, if_neg (by decide), if_neg (by decide), if_pos rfl]; rfl
    · have e : tw t = [33] := by unfold tw; rw [if_neg (by omega), if_neg (by omega), if_neg (by omega), if_pos h]
      rw [e, h]
      show lnF (f + 1) o (33 :: R) i n = _
      rw [lnF, if_neg (by decide), if_neg (by decide), if_neg (by decide), if_pos rfl]; rfl
theorem tw3 {t : Tk} (h : t.k = 3) : tw t = [44] := by unfold tw; rw [if_neg (by omega), if_neg (by omega), if_pos h]
theorem tw4 {t : Tk} (h : t.k = 4) : tw t = [33] := by unfold tw; rw [if_neg (by omega), if_neg (by omega), if_neg (by omega), if_pos h]
theorem tw_pos {t : Tk} (g : good t) : 1 ≤ (tw t).length := by
  obtain ⟨_, h | h | ⟨h | h, _⟩⟩ := g
  · unfold tw
    rw [if_pos h.1]
    have := h.2.1
    exact List.length_pos_iff.2 this
  · unfold tw
    rw [if_neg (by omega), if_pos h.1]; unfold qt; simp
  · rw [tw3 h]; simp
  · rw [tw4 h]; simp
theorem ln_wr : ∀ (ts : List Tk) (last f : Nat) (o : List Tk) (i n : Nat), (∀ t ∈ ts, good t) → (wr last ts).length ≤ f → ∃ ts', lnF f o (wr last ts) i n = (o ++ ts', none) ∧ ts'.map kx = ts.map kx
  | [], last, f, o, i, n, _, _ => ⟨[], by rw [wr, lnF_nil]; simp, rfl⟩
  | t :: r, last, f, o, i, n, hg, hf => by
    have g := hg t (by simp)
    have gr : ∀ t ∈ r, good t := fun x hx => hg x (by simp [hx])
    have hp := tw_pos g
    rw [wr] at hf ⊢
    have hR : t.k = 1 → wr t.k r = [] ∨ ∃ c q, wr t.k r = c :: q ∧ en c = true := fun h => by rw [h]; exact wr_head r gr
    unfold sep at hf ⊢
    split
    · rename_i hs
      rw [if_pos hs, List.append_assoc, List.length_append, List.length_append] at hf
      simp only [List.length_cons, List.length_nil] at hf
      obtain ⟨f, rfl⟩ : ∃ g, f = g + 2 := ⟨f - 2, by omega⟩
      rw [List.append_assoc]
      show ∃ ts', lnF (f + 1 + 1) o (32 :: (tw t ++ wr t.k r)) i n = _ ∧ _
      rw [lnF, if_neg (by decide), if_pos (.inl rfl), ln_tok g _ hR]
      obtain ⟨ts', h1, h2⟩ := ln_wr r t.k f (o ++ [⟨t.k, t.x, n, i + 1⟩]) (i + 1 + (tw t).length) n gr (by omega)
      exact ⟨⟨t.k, t.x, n, i + 1⟩ :: ts', by rw [h1]; simp, by rw [List.map_cons, List.map_cons, h2]; rfl⟩
    · rename_i hs
      rw [if_neg hs, List.nil_append, List.length_append] at hf
      obtain ⟨f, rfl⟩ : ∃ g, f = g + 1 := ⟨f - 1, by omega⟩
      rw [List.nil_append, ln_tok g _ hR]
      obtain ⟨ts', h1, h2⟩ := ln_wr r t.k f (o ++ [⟨t.k, t.x, n, i⟩]) (i + (tw t).length) n gr (by omega)
      exact ⟨⟨t.k, t.x, n, i⟩ :: ts', by rw [h1]; simp, by rw [List.map_cons, List.map_cons, h2]; rfl⟩
/-! ### What stands in a line that is written -/
theorem flat_vis : ∀ {x : List Int}, Bytes x → ∀ d ∈ x.flatMap qb, 32 ≤ d ∧ d ≤ 255 ∧ d ≠ 127
  | [], _, d, hd => by cases hd
  | c :: x, hb, d, hd => by
    rw [List.flatMap_cons] at hd
    have hc := hb c (by simp)
    rcases List.mem_append.1 hd with hd | hd
    · by_cases h : c < 128
      · have := qb_low hc.1 h d hd; omega
      · rw [qb_high (by omega)] at hd
        rw [List.mem_singleton.1 hd]; omega
    · exact flat_vis (fun b hb' => hb b (by simp [hb'])) d hd
theorem tw_vis {t : Tk} (g : good t) : ∀ d ∈ tw t, 32 ≤ d ∧ d ≤ 255 ∧ d ≠ 127 := by
  obtain ⟨hb, h | h | h⟩ := g
  · intro d hd
    unfold tw at hd
    rw [if_pos h.1] at hd
    have h1 := h.2.2.2 d hd
    have h2 := hb d hd
    omega
  · intro d hd
    unfold tw at hd
    rw [if_neg (by omega), if_pos h.1] at hd
    unfold qt at hd
    rcases List.mem_cons.1 hd with rfl | hd
    · omega
    · rcases List.mem_append.1 hd with hd | hd
      · exact flat_vis hb d hd
      · rw [List.mem_singleton.1 hd]; omega
  · intro d hd
    rcases h.1 with h | h
    · rw [tw3 h] at hd; simp at hd; omega
    · rw [tw4 h] at hd; simp at hd; omega
theorem tw_ev {t : Tk} (g : good t) : EV (tw t) := by
  obtain ⟨hb, h | h | h⟩ := g
  · unfold tw; rw [if_pos h.1]; exact EV.of hb h.2.2.1
  · unfold tw; rw [if_neg (by omega), if_pos h.1]; exact (EV.of hb h.2).qt
  · rcases h.1 with h | h
    · rw [tw3 h]; exact EV.low (by simp)
    · rw [tw4 h]; exact EV.low (by simp)
theorem wr_vis : ∀ (ts : List Tk) (last : Nat), (∀ t ∈ ts, good t) → (∀ d ∈ wr last ts, 32 ≤ d ∧ d ≤ 255 ∧ d ≠ 127) ∧ EV (wr last ts)
  | [], _, _ => ⟨fun d hd => (by cases hd), EV.nil⟩
  | t :: r, last, hg => by
    obtain ⟨a, b⟩ := wr_vis r t.k (fun x hx => hg x (by simp [hx]))
    have g := hg t (by simp)
    have hs : (∀ d ∈ sep last t.k, 32 ≤ d ∧ d ≤ 255 ∧ d ≠ 127) ∧ EV (sep last t.k) := by
      unfold sep
      split
      · exact ⟨fun d hd => by rw [List.mem_singleton.1 hd]; omega, EV.low (by simp)⟩
      · exact ⟨fun d hd => (by cases hd), EV.nil⟩
    rw [wr]
    refine ⟨fun d hd => ?_, (hs.2.app (tw_ev g)).app b⟩
    rcases List.mem_append.1 hd with hd | hd
    · rcases List.mem_append.1 hd with hd | hd
      · exact hs.1 d hd
      · exact tw_vis g d hd
    · exact a d hd
theorem line_wr {ts : List Tk} (hg : ∀ t ∈ ts, good t) (hne : ts ≠ []) (n : Nat) : ∃ o, line (wr 5 ts) n = (o, 0, 0, 0) ∧ o.map kx = ts.map kx ++ [(5, [])] := by
  obtain ⟨hv, he⟩ := wr_vis ts 5 hg
  have hb : Bytes (wr 5 ts) := fun d hd => by have := hv d hd; omega
  have h1 : bd (wr 5 ts) = none := (bd_none hb).2 he.val
  have h2 : pb (wr 5 ts) = none := by
    unfold pb
    rw [List.findIdx?_eq_none_iff]
    intro d hd
    have := hv d hd
    simp; omega
  obtain ⟨ts', h3, h4⟩ := ln_wr ts 5 (wr 5 ts).length [] 0 n hg (Nat.le_refl _)
  have hl : ts'.length ≠ 0 := by
    have := congrArg List.length h4
    rw [List.length_map, List.length_map] at this
    rw [this]
    exact fun h => hne (List.length_eq_zero_iff.1 h)
  refine ⟨ts' ++ [⟨5, [], n, (wr 5 ts).length⟩], ?_, by rw [List.map_append, h4]; rfl⟩
  unfold line
  rw [h1, h2]
  simp only
  rw [h3]
  simp only [List.nil_append]
  rw [if_neg hl]
/-! ### Lines -/
def lk : Nat → List Tk → Nat
  | last, [] => last
  | _, t :: r => lk t.k r
theorem wr_app : ∀ (a b : List Tk) (last : Nat), wr last (a ++ b) = wr last a ++ wr (lk last a) b
  | [], b, last => rfl
  | t :: a, b, last => by rw [List.cons_append, wr, wr_app a b t.k, wr, lk]; simp
/-- All that is written is bytes. -/
def BT (l : List Tk) : Prop := ∀ t ∈ l, Bytes t.x
theorem ok_cut : ∀ (l : List Tk) (last : Nat), BT l → ok last l → (last = 5 → l ≠ []) → ∃ ts e r, l = ts ++ e :: r ∧ (∀ t ∈ ts, good t) ∧ e.k = 5 ∧ e.x = [] ∧ ok 5 r ∧ (last = 5 → ts ≠ [])
  | [], last, _, h, hl => absurd rfl (hl h)
  | t :: l, last, hb, h, hl => by
    obtain ⟨h1, h2⟩ := h
    by_cases h5 : t.k = 5
    · have hx : t.x = [] ∧ last ≠ 5 := by rcases h1 with h1 | h1 | ⟨h1, hx⟩ <;> first | omega | exact ⟨hx, by omega⟩
      rw [h5] at h2
      exact ⟨[], t, l, rfl, fun x hx => (by cases hx), h5, hx.1, h2, fun h => absurd h hx.2⟩
    · have g : good t := ⟨hb t (by simp), by
        rcases h1 with h1 | h1 | ⟨h1, hx⟩
        · exact .inl h1
        · exact .inr (.inl h1)
        · exact .inr (.inr ⟨by omega, hx⟩)⟩
      obtain ⟨ts, e, r, rfl, a, b, c, d, _⟩ := ok_cut l t.k (fun x hx => hb x (by simp [hx])) h2 (fun h => absurd h h5)
      exact ⟨t :: ts, e, r, rfl, fun x hx => (List.mem_cons.1 hx).elim (fun h => h ▸ g) (a x), b, c, d, fun _ => by simp⟩
theorem take_no10 {a b : List Int} (h : ∀ d ∈ a, d ≠ 10) : (a ++ 10 :: b).takeWhile no10 = a ∧ (a ++ 10 :: b).dropWhile no10 = 10 :: b := by
  induction a with
  | nil => exact ⟨by rw [List.nil_append, List.takeWhile_cons_of_neg (by decide)], by rw [List.nil_append, List.dropWhile_cons_of_neg (by decide)]⟩
  | cons c a ih =>
    have hc : no10 c = true := by unfold no10; simp; exact h c (by simp)
    obtain ⟨x, y⟩ := ih (fun d hd => h d (by simp [hd]))
    rw [List.cons_append, List.takeWhile_cons_of_pos hc, List.dropWhile_cons_of_pos hc, x, y]
    exact ⟨rfl, rfl⟩
theorem strip_vis {a : List Int} (h : ∀ d ∈ a, d ≠ 13) : strip a = a := by
  unfold strip
  rw [if_neg]
  intro e
  exact h 13 (List.mem_of_getLast? e) rfl
theorem lexF_nil (f : Nat) (o : List Tk) (n : Nat) : lexF f o [] n = (o, 0, 0, 0) := by
  cases f with
  | zero => rfl
  | succ f => rw [lexF, if_pos rfl]
theorem lex_wrF : ∀ (m : Nat) (l : List Tk) (f : Nat) (o : List Tk) (n : Nat), l.length ≤ m → BT l → ok 5 l → (wr 5 l).length ≤ f → ∃ l', lexF f o (wr 5 l) n = (o ++ l', 0, 0, 0) ∧ l'.map kx = l.map kx
  | m, [], f, o, n, _, _, _, _ => ⟨[], by rw [wr, lexF_nil]; simp, rfl⟩
  | 0, t :: l, f, o, n, hm, _, _, _ => by simp at hm
  | m + 1, t :: l, f, o, n, hm, hb, h, hf => by
    obtain ⟨ts, e, r, hl, hg, he, hx, hr, hts⟩ := ok_cut (t :: l) 5 hb h (fun _ => by simp)
    have hw : wr 5 (t :: l) = wr 5 ts ++ 10 :: wr 5 r := by
      rw [hl, wr_app, wr, he]
      have e1 : sep (lk 5 ts) 5 = [] := by unfold sep; rw [if_neg (by omega)]
      have e2 : tw e = [10] := by unfold tw; rw [if_neg (by omega), if_neg (by omega), if_neg (by omega), if_neg (by omega)]
      rw [e1, e2]; rfl
    have hv := (wr_vis ts 5 hg).1
    obtain ⟨t1, t2⟩ := take_no10 (a := wr 5 ts) (b := wr 5 r) (fun d hd => by have := hv d hd; omega)
    rw [hw] at hf ⊢
    rw [List.length_append, List.length_cons] at hf
    obtain ⟨f, rfl⟩ : ∃ g, f = g + 1 := ⟨f - 1, by omega⟩
    obtain ⟨o1, a1, a2⟩ := line_wr hg (hts rfl) n
    have hlr : r.length ≤ m := by
      have := congrArg List.length hl
      simp only [List.length_append, List.length_cons] at this hm
      omega
    obtain ⟨l', b1, b2⟩ := lex_wrF m r f (o ++ o1) (n + 1) hlr (fun x hx => hb x (by rw [hl]; simp [hx])) hr (by omega)
    refine ⟨o1 ++ l', ?_, ?_⟩
    · have hfl : fl (wr 5 ts ++ 10 :: wr 5 r) = wr 5 ts := by
        unfold fl
        rw [t1, t2, if_neg (by simp), strip_vis (fun d hd => by have := hv d hd; omega)]
      rw [lexF, if_neg (by simp), hfl, t2, a1]
      simp only [ne_eq, not_true_eq_false, if_false, List.drop_succ_cons, List.drop_zero]
      rw [b1]; simp
    · rw [List.map_append, a2, b2, hl]
      simp [kx, he, hx]
/-- Tokens that are written are read as themselves, but for where they stand. -/
theorem lex_wr {l : List Tk} (hb : BT l) (h : ok 5 l) (hl : (wr 5 l).length ≤ 65536) : ∃ l', lex (wr 5 l) = (l', 0, 0, 0) ∧ l'.map kx = l.map kx := by
  obtain ⟨l', a, b⟩ := lex_wrF l.length l (wr 5 l).length [] 1 (Nat.le_refl _) hb h (Nat.le_refl _)
  exact ⟨l', by unfold lex; rw [if_neg (by omega), a]; rfl, b⟩
end Go.Proofs.YtphkdagapoonjaaGreatDoor.Lx
namespace Go.Proofs.YtphkdagapoonjaaGreatDoor.Lx
open Go.Proofs.YtphkdagapoonjaaGreatDoor.U (nx enc encs scal Bytes)
set_option linter.unusedVariables false

def Sc (zs : List Int) : Prop := ∀ c ∈ zs, scal c = true
theorem Sc.all {zs : List Int} (h : Sc zs) : zs.all scal = true := List.all_eq_true.2 h
theorem Sc.tail {c : Int} {zs : List Int} (h : Sc (c :: zs)) : Sc zs := fun x hx => h x (by simp [hx])
theorem Sc.drop {zs : List Int} (h : Sc zs) (k : Nat) : Sc (zs.drop k) := fun x hx => h x (List.mem_of_mem_drop hx)
theorem scal_bd {c : Int} (h : scal c = true) : 0 ≤ c ∧ c ≤ 1114111 := by unfold scal at h; simp at h; omega
theorem encs_cons (c : Int) (zs : List Int) : encs (c :: zs) = enc c ++ encs zs := by unfold encs; rw [List.flatMap_cons]
theorem enc_low {c : Int} (h : c < 128) : enc c = [c] := by unfold enc; rw [if_pos h]
theorem encs_bytes {zs : List Int} (h : Sc zs) : Bytes (encs zs) := U.encs_bytes zs (fun c hc => scal_bd (h c hc))
/-- Where the front is ASCII it is the code points themselves. -/
theorem encs_front : ∀ (k : Nat) (zs : List Int), (∀ d ∈ (encs zs).take k, d < 128) → k ≤ (encs zs).length → (encs zs).take k = zs.take k ∧ (encs zs).drop k = encs (zs.drop k)
  | 0, zs, _, _ => by simp
  | k + 1, [], _, h => by simp [encs] at h
  | k + 1, c :: zs, hd, hl => by
    have hc : c < 128 := by
      by_cases hc : c < 128
      · exact hc
      · exfalso
        have hne := (U.enc_len c).1
        cases he : enc c with
        | nil => rw [he] at hne; simp at hne
        | cons a g =>
          have h1 := enc_high (c := c) (by omega) a (by rw [he]; simp)
          have h2 := hd a (by rw [encs_cons, he]; simp)
          omega
    rw [encs_cons, enc_low hc] at hd hl ⊢
    simp only [List.cons_append, List.nil_append, List.take_succ_cons, List.drop_succ_cons, List.length_cons] at hd hl ⊢
    obtain ⟨a, b⟩ := encs_front k zs (fun d hd' => hd d (by simp [hd'])) (by omega)
    exact ⟨by rw [a], b⟩
theorem tx_run : ∀ (g : List Int) (f : Nat) (t r : List Int) (i : Nat), (∀ d ∈ g, d ≠ 34 ∧ d ≠ 92) → tx (f + g.length) t (g ++ r) i = tx f (t ++ g) r (i + g.length)
  | [], f, t, r, i, _ => by simp
  | c :: g, f, t, r, i, h => by
    have hc := h c (by simp)
    show tx (f + g.length + 1) t (c :: (g ++ r)) i = _
    rw [tx, if_neg hc.1, if_pos hc.2, tx_run g f (t ++ [c]) r (i + 1) (fun d hd => h d (by simp [hd]))]
    congr 1
    · simp
    · simp; omega
theorem dg_low {c : Int} (h : isd c = true) : 48 ≤ c ∧ c < 128 := by
  unfold isd dg at h
  simp at h
  (repeat' split at h) <;> omega
theorem takeW_mem {p : Int → Bool} : ∀ {l : List Int} {c : Int}, c ∈ l.takeWhile p → p c = true ∧ c ∈ l
  | [], c, h => by cases h
  | a :: l, c, h => by
    rw [List.takeWhile_cons] at h
    split at h
    · rename_i hp
      rcases List.mem_cons.1 h with rfl | h
      · exact ⟨hp, by simp⟩
      · obtain ⟨x, y⟩ := takeW_mem h
        exact ⟨x, by simp [y]⟩
    · cases h
theorem ds_front (l : List Int) : ds l = (l.drop 3).take (ds l).length ∧ (∀ c ∈ ds l, 48 ≤ c ∧ c < 128) ∧ (ds l).length ≤ 6 := by
  have hp : ds l <+: (l.drop 3).take 6 := by unfold ds; exact List.takeWhile_prefix isd
  have h1 : ds l <+: l.drop 3 := hp.trans (List.take_prefix 6 _)
  refine ⟨List.prefix_iff_eq_take.1 h1, fun c hc => dg_low (takeW_mem (by unfold ds at hc; exact hc)).1, ?_⟩
  have := hp.length_le
  rw [List.length_take] at this
  omega
theorem getD_take {l : List Int} {k j : Nat} (h : j < k) : (l.take k).getD j 0 = l.getD j 0 := by
  rw [List.getD_eq_getElem?_getD, List.getD_eq_getElem?_getD, List.getElem?_take_of_lt h]
/-- What a backslash says, where it stands as it must. -/
theorem es_inv {l : List Int} (h0 : l.getD 0 0 = 92) (h : (es l).2 ≠ 0) : EV (es l).1 ∧ 2 ≤ (es l).2 ∧ (es l).1.length + 1 ≤ (es l).2 ∧ (es l).2 ≤ l.length ∧ ∀ d ∈ l.take (es l).2, d < 128 := by
  unfold es at h ⊢
  by_cases h1 : l.getD 1 0 = 34 ∨ l.getD 1 0 = 92
  · rw [if_pos h1]
    have hl : 2 ≤ l.length := by
      rcases Nat.lt_or_ge l.length 2 with hh | hh
      · rw [List.getD_eq_getElem?_getD, List.getElem?_eq_none (by omega)] at h1
        simp at h1
      · exact hh
    refine ⟨EV.low (fun c hc => by rw [List.mem_singleton.1 hc]; omega), Nat.le_refl _, Nat.le_refl _, hl, fun d hd => ?_⟩
    obtain ⟨j, hj, rfl⟩ := List.mem_take_iff_getElem.1 hd
    have : j = 0 ∨ j = 1 := by omega
    rcases this with rfl | rfl
    · rw [List.getD_eq_getElem?_getD, List.getElem?_eq_getElem (by omega)] at h0
      simp at h0; omega
    · rw [List.getD_eq_getElem?_getD, List.getElem?_eq_getElem (by omega)] at h1
      simp at h1; omega
  · rw [if_neg h1] at h ⊢
    by_cases h2 : l.getD 1 0 = 117 ∧ l.getD 2 0 = 123 ∧ ds l ≠ [] ∧ l.getD (3 + (ds l).length) 0 = 125 ∧ scal (hv (ds l)) = true
    · rw [if_pos h2]
      obtain ⟨a, b, c, d, e⟩ := h2
      have hl : 3 + (ds l).length < l.length := by
        rcases Nat.lt_or_ge (3 + (ds l).length) l.length with hh | hh
        · exact hh
        · rw [List.getD_eq_getElem?_getD, List.getElem?_eq_none (by omega)] at d
          simp at d
      obtain ⟨f1, f2, f3⟩ := ds_front l
      have hlen := (U.enc_len (hv (ds l))).2
      have hpos := List.length_pos_iff.2 c
      refine ⟨EV.enc e, by omega, by simp only; omega, by simp only; omega, fun x hx => ?_⟩
      simp only at hx
      obtain ⟨j, hj, rfl⟩ := List.mem_take_iff_getElem.1 hx
      have hcs : j = 0 ∨ j = 1 ∨ j = 2 ∨ (3 ≤ j ∧ j < 3 + (ds l).length) ∨ j = 3 + (ds l).length := by omega
      have hg : l.getD j 0 = l[j] := by rw [List.getD_eq_getElem?_getD, List.getElem?_eq_getElem (by omega)]; rfl
      rw [← hg]
      rcases hcs with rfl | rfl | rfl | hm | rfl
      · omega
      · omega
      · omega
      · have hm2 : (ds l)[j - 3]? = some l[j] := by
          rw [f1, List.getElem?_take_of_lt (by omega), List.getElem?_drop, show 3 + (j - 3) = j by omega, List.getElem?_eq_getElem (by omega)]
        have := f2 _ (List.mem_of_getElem? hm2)
        rw [hg]; omega
      · omega
    · rw [if_neg h2] at h
      exact absurd rfl h
/-- What a text in quotes says. -/
theorem tx_inv : ∀ (m : Nat) (zs : List Int) (f : Nat) (t : List Int) (i : Nat), zs.length ≤ m → Sc zs → (encs zs).length ≤ f → (tx f t (encs zs) i).2.1 ≠ 0 →
    ∃ y k zs', (tx f t (encs zs) i).1 = t ++ y ∧ EV y ∧ (tx f t (encs zs) i).2.1 = i + k ∧ y.length + 1 ≤ k ∧ k ≤ (encs zs).length ∧ (encs zs).drop k = encs zs' ∧ Sc zs' ∧ zs'.length < zs.length
  | m, [], f, t, i, _, _, _, h => by
    exfalso
    apply h
    cases f <;> rfl
  | 0, c :: zs, f, t, i, hm, _, _, _ => by simp at hm
  | m + 1, c :: zs, f, t, i, hm, hs, hf, h => by
    have hm' : zs.length ≤ m := by simpa using hm
    have hc := scal_bd (hs c (by simp))
    by_cases hlow : c < 128
    · have he : encs (c :: zs) = c :: encs zs := by rw [encs_cons, enc_low hlow]; rfl
      rw [he] at hf h ⊢
      rw [List.length_cons] at hf ⊢
      obtain ⟨f, rfl⟩ : ∃ g, f = g + 1 := ⟨f - 1, by omega⟩
      rw [tx] at h ⊢
      by_cases h34 : c = 34
      · rw [if_pos h34]
        exact ⟨[], 1, zs, by simp, EV.nil, rfl, Nat.le_refl _, by omega, rfl, hs.tail, by simp⟩
      rw [if_neg h34] at h ⊢
      by_cases h92 : c ≠ 92
      · rw [if_pos h92] at h ⊢
        obtain ⟨y, k, zs', a1, a2, a3, a4, a5, a6, a7, a8⟩ := tx_inv m zs f (t ++ [c]) (i + 1) hm' hs.tail (by omega) h
        refine ⟨c :: y, k + 1, zs', by rw [a1]; simp, ?_, by rw [a3]; omega, by simp; omega, by omega, by rw [List.drop_succ_cons, a6], a7, by simp; omega⟩
        exact (EV.low (l := [c]) (fun d hd => by rw [List.mem_singleton.1 hd]; omega)).app a2
      · rw [if_neg h92] at h ⊢
        have h92' : c = 92 := by omega
        by_cases hn : (es (c :: encs zs)).2 = 0
        · rw [if_pos hn] at h; exact absurd rfl h
        · rw [if_neg hn] at h ⊢
          obtain ⟨b1, b2, b3, b4, b5⟩ := es_inv (l := c :: encs zs) (by rw [h92']; rfl) hn
          rw [List.length_cons] at b4
          obtain ⟨q, hq⟩ : ∃ q, (es (c :: encs zs)).2 = q + 1 := ⟨(es (c :: encs zs)).2 - 1, by omega⟩
          rw [hq] at b2 b3 b4 b5 h ⊢
          rw [Nat.add_sub_cancel] at h ⊢
          obtain ⟨_, hdr⟩ := encs_front q zs (fun d hd => b5 d (by rw [List.take_succ_cons]; simp [hd])) (by omega)
          rw [hdr] at h ⊢
          obtain ⟨y, k, zs', a1, a2, a3, a4, a5, a6, a7, a8⟩ := tx_inv m (zs.drop q) f (t ++ (es (c :: encs zs)).1) (i + (q + 1)) (by rw [List.length_drop]; omega) (hs.tail.drop q) (by rw [← hdr, List.length_drop]; omega) h
          have a5' : k ≤ (encs zs).length - q := by rw [← List.length_drop, hdr]; exact a5
          refine ⟨(es (c :: encs zs)).1 ++ y, k + q + 1, zs', by rw [a1]; simp, b1.app a2, by rw [a3]; omega, by rw [List.length_append]; omega, by omega, ?_, a7, by rw [List.length_drop] at a8; simp; omega⟩
          rw [List.drop_succ_cons, Nat.add_comm, ← List.drop_drop, hdr, a6]
    · have hrun : ∀ d ∈ enc c, d ≠ 34 ∧ d ≠ 92 := fun d hd => by have := enc_high (c := c) (by omega) d hd; omega
      rw [encs_cons] at hf h ⊢
      rw [List.length_append] at hf ⊢
      obtain ⟨g, rfl⟩ : ∃ g, f = g + (enc c).length := ⟨f - (enc c).length, by omega⟩
      rw [tx_run _ _ _ _ _ hrun] at h ⊢
      obtain ⟨y, k, zs', a1, a2, a3, a4, a5, a6, a7, a8⟩ := tx_inv m zs g (t ++ enc c) (i + (enc c).length) hm' hs.tail (by omega) h
      refine ⟨enc c ++ y, (enc c).length + k, zs', by rw [a1]; simp, (EV.enc (hs c (by simp))).app a2, by rw [a3]; omega, by rw [List.length_append]; omega, by omega, ?_, a7, by simp; omega⟩
      rw [← List.drop_drop, List.drop_left, a6]
end Go.Proofs.YtphkdagapoonjaaGreatDoor.Lx
