/- Plain: one step of a text in quotes, and of a line. (Stage 15.) -/
import Derived.Test.YtphkdagapoonjaaDoorLXG
namespace Go.Proofs.YtphkdagapoonjaaDoor.Lx
open Go.Proofs.YtphkdagapoonjaaDoor.U (nx enc encs scal Bytes)
set_option linter.unusedVariables false

theorem tx_nil (f : Nat) (t : List Int) (i : Nat) : tx f t [] i = ([], 0, 0) := by cases f <;> rfl
theorem tx_fuel : ∀ (f g : Nat) (t l : List Int) (i : Nat), l.length ≤ f → l.length ≤ g → tx f t l i = tx g t l i
  | f, g, t, [], i, _, _ => by rw [tx_nil, tx_nil]
  | 0, g, t, c :: l, i, h, _ => by simp at h
  | f + 1, 0, t, c :: l, i, _, h => by simp at h
  | f + 1, g + 1, t, c :: l, i, hf, hg => by
    have h1 : l.length ≤ f := by simpa using hf
    have h2 : l.length ≤ g := by simpa using hg
    have hd : ∀ k, (l.drop k).length ≤ l.length := fun k => by rw [List.length_drop]; omega
    rw [tx, tx]
    split
    · rfl
    split
    · exact tx_fuel f g _ _ _ h1 h2
    split
    · rfl
    · exact tx_fuel f g _ _ _ (Nat.le_trans (hd _) h1) (Nat.le_trans (hd _) h2)
/-- One byte, or one escape. -/
theorem tx_at {l : List Int} {i : Nat} {y : Int} (hi : i < l.length) (hy : l[i]?.getD 0 = y) (t : List Int) : tx (l.length - i) t (l.drop i) i =
    if y = 34 then (t, i + 1, 0) else if y ≠ 92 then tx (l.length - (i + 1)) (t ++ [y]) (l.drop (i + 1)) (i + 1)
    else if (es (l.drop i)).2 = 0 then ([], 0, i) else tx (l.length - (i + (es (l.drop i)).2)) (t ++ (es (l.drop i)).1) (l.drop (i + (es (l.drop i)).2)) (i + (es (l.drop i)).2) := by
  have hd : l.drop i = y :: l.drop (i + 1) := by
    rw [List.drop_eq_getElem_cons hi, ← hy, List.getElem?_eq_getElem hi]; rfl
  obtain ⟨f, hf⟩ : ∃ f, l.length - i = f + 1 := ⟨l.length - i - 1, by omega⟩
  have hfe : f = l.length - (i + 1) := by omega
  rw [hf, hd, tx]
  by_cases h34 : y = 34
  · rw [if_pos h34, if_pos h34]
  rw [if_neg h34, if_neg h34]
  by_cases h92 : y ≠ 92
  · rw [if_pos h92, if_pos h92, hfe]
  rw [if_neg h92, if_neg h92]
  by_cases h0 : (es (y :: l.drop (i + 1))).2 = 0
  · rw [if_pos h0, if_pos h0]
  rw [if_neg h0, if_neg h0]
  obtain ⟨q, hq⟩ : ∃ q, (es (y :: l.drop (i + 1))).2 = q + 1 := ⟨(es (y :: l.drop (i + 1))).2 - 1, by omega⟩
  rw [hq, Nat.add_sub_cancel, List.drop_drop, show i + 1 + q = i + (q + 1) by omega]
  exact tx_fuel _ _ _ _ _ (by rw [List.length_drop]; omega) (by rw [List.length_drop]; omega)
/-- What a text in quotes at the front says. -/
def txl (l : List Int) : List Int × Nat × Nat := tx (l.length - 1) [] (l.drop 1) 1
/-- A line's rest, from i on. -/
def lni (l : List Int) (n : Nat) (o : List Tk) (i : Nat) : List Tk × Option Nat := lnF (l.length - i) o (l.drop i) i n
theorem lni_end {l : List Int} {n i : Nat} (h : l.length ≤ i) (o : List Tk) : lni l n o i = (o, none) := by
  unfold lni
  rw [List.drop_eq_nil_of_le h, lnF_nil]
theorem lni_zero (l : List Int) (n : Nat) : lni l n [] 0 = lnF l.length [] l 0 n := by unfold lni; rw [List.drop_zero, Nat.sub_zero]
/-- The word at i. -/
def wrd (l : List Int) (i : Nat) : List Int := (l.drop i).takeWhile nen
theorem lni_at {l : List Int} {n i : Nat} {y : Int} (hi : i < l.length) (hy : l[i]?.getD 0 = y) (o : List Tk) :
    (y = 35 → lni l n o i = (o, none)) ∧ (y = 32 ∨ y = 9 → lni l n o i = lni l n o (i + 1)) ∧ (y = 44 → lni l n o i = lni l n (o ++ [⟨3, [], n, i⟩]) (i + 1)) ∧ (y = 33 → lni l n o i = lni l n (o ++ [⟨4, [], n, i⟩]) (i + 1)) ∧
    (y = 34 → (txl (l.drop i)).2.1 = 0 → lni l n o i = ([], some (i + (txl (l.drop i)).2.2))) ∧ (y = 34 → (txl (l.drop i)).2.1 ≠ 0 → lni l n o i = lni l n (o ++ [⟨2, (txl (l.drop i)).1, n, i⟩]) (i + (txl (l.drop i)).2.1)) ∧
    (en y = false → lni l n o i = lni l n (o ++ [⟨1, wrd l i, n, i⟩]) (i + (wrd l i).length) ∧ 1 ≤ (wrd l i).length) := by
  have hd : l.drop i = y :: l.drop (i + 1) := by
    rw [List.drop_eq_getElem_cons hi, ← hy, List.getElem?_eq_getElem hi]; rfl
  obtain ⟨f, hf⟩ : ∃ f, l.length - i = f + 1 := ⟨l.length - i - 1, by omega⟩
  have hfe : f = l.length - (i + 1) := by omega
  have hlen : (l.drop (i + 1)).length = f := by rw [List.length_drop]; omega
  have htx : txl (l.drop i) = tx ((l.drop (i + 1)).length + 1) [] (l.drop (i + 1)) 1 := by
    unfold txl
    rw [hd]
    exact tx_fuel _ _ _ _ _ (by show (l.drop (i + 1)).length ≤ _; simp) (by show (l.drop (i + 1)).length ≤ _; omega)
  refine ⟨fun h => ?_, fun h => ?_, fun h => ?_, fun h => ?_, fun h h0 => ?_, fun h h0 => ?_, fun h => ?_⟩
  · unfold lni; rw [hf, hd, lnF, if_pos h]
  · unfold lni; rw [hf, hd, lnF, if_neg (by omega), if_pos h, hfe]
  · unfold lni; rw [hf, hd, lnF, if_neg (by omega), if_neg (by omega), if_pos h, hfe]
  · unfold lni; rw [hf, hd, lnF, if_neg (by omega), if_neg (by omega), if_neg (by omega), if_pos h, hfe]
  · rw [htx] at h0 ⊢
    unfold lni
    rw [hf, hd, lnF, if_neg (by omega), if_neg (by omega), if_neg (by omega), if_neg (by omega), if_pos h, if_pos h0]
  · rw [htx] at h0 ⊢
    unfold lni
    rw [hf, hd, lnF, if_neg (by omega), if_neg (by omega), if_neg (by omega), if_neg (by omega), if_pos h, if_neg h0]
    obtain ⟨q, hq⟩ : ∃ q, (tx ((l.drop (i + 1)).length + 1) [] (l.drop (i + 1)) 1).2.1 = q + 1 := ⟨(tx ((l.drop (i + 1)).length + 1) [] (l.drop (i + 1)) 1).2.1 - 1, by omega⟩
    rw [hq, Nat.add_sub_cancel, List.drop_drop, show i + 1 + q = i + (q + 1) by omega]
    exact lnF_fuel _ _ _ _ _ _ (by rw [List.length_drop]; omega) (by rw [List.length_drop]; omega)
  · have hh := en_no h
    have hw : nen y = true := by unfold nen; rw [h]; rfl
    have h1 : 1 ≤ (wrd l i).length := by unfold wrd; rw [hd, List.takeWhile_cons_of_pos hw]; simp
    refine ⟨?_, h1⟩
    have hwl : (wrd l i).length ≤ l.length - i := by
      unfold wrd
      have := dropW_len (p := nen) (l.drop i)
      rw [List.length_drop] at this
      omega
    have e : (l.drop i).dropWhile nen = l.drop (i + (wrd l i).length) := by
      unfold wrd
      rw [← drop_takeW, List.drop_drop]
    unfold lni
    rw [← e]
    unfold wrd
    rw [hf, hd, lnF, if_neg hh.2.2.2.2.2, if_neg (by omega), if_neg hh.2.2.1, if_neg hh.2.2.2.1, if_neg hh.2.2.2.2.1]
    refine lnF_fuel _ _ _ _ _ _ ?_ ?_
    · rw [List.dropWhile_cons_of_pos hw]
      have := dropW_len (p := nen) (l.drop (i + 1))
      omega
    · rw [← hd, e, List.length_drop]
      show _ ≤ l.length - (i + (wrd l i).length)
      exact Nat.le_refl _
/-- A word grows byte by byte. -/
theorem wrd_more {l : List Int} {i j : Nat} (hj : i + j < l.length) (h : ∀ k, k < j → nen (l[i + k]?.getD 0) = true) : (nen (l[i + j]?.getD 0) = false → wrd l i = (l.drop i).take j) := by
  have key : ∀ (j : Nat) (q : List Int), j < q.length → (∀ k, k < j → nen (q[k]?.getD 0) = true) → nen (q[j]?.getD 0) = false → q.takeWhile nen = q.take j := by
    intro j
    induction j with
    | zero =>
      intro q hl _ he
      cases q with
      | nil => simp at hl
      | cons c q => rw [List.takeWhile_cons_of_neg (by have : nen c = false := he; rw [this]; simp)]; rfl
    | succ j ih =>
      intro q hl hd he
      cases q with
      | nil => simp at hl
      | cons c q =>
        rw [List.takeWhile_cons_of_pos (show nen c = true from hd 0 (by omega)), List.take_succ_cons, ih q (by simpa using hl) (fun k hk => hd (k + 1) (by omega)) he]
  intro he
  refine key j (l.drop i) (by rw [List.length_drop]; omega) (fun k hk => by rw [List.getElem?_drop]; exact h k hk) (by rw [List.getElem?_drop]; exact he)
theorem wrd_all {l : List Int} {i j : Nat} (hj : i + j = l.length) (h : ∀ k, k < j → nen (l[i + k]?.getD 0) = true) : wrd l i = (l.drop i).take j := by
  unfold wrd
  rw [List.take_of_length_le (by rw [List.length_drop]; omega)]
  have ha := (takeW_app (p := nen) (g := l.drop i) [] ?_).1
  · rw [List.append_nil] at ha
    rw [ha]; simp
  intro c hc
  obtain ⟨k, hk, rfl⟩ := List.getElem_of_mem hc
  rw [List.length_drop] at hk
  have := h k (by omega)
  rw [← List.getElem?_drop, List.getElem?_eq_getElem (by rw [List.length_drop]; omega)] at this
  exact this
theorem tx_le : ∀ (f : Nat) (t l : List Int) (i : Nat), (tx f t l i).2.1 ≤ i + l.length ∧ (tx f t l i).2.2 ≤ i + l.length
  | 0, t, l, i => by simp [tx]
  | f + 1, t, [], i => by simp [tx]
  | f + 1, t, c :: r, i => by
    rw [tx]
    by_cases h1 : c = 34
    · rw [if_pos h1]; simp only [List.length_cons]; omega
    rw [if_neg h1]
    by_cases h2 : c ≠ 92
    · rw [if_pos h2]
      have h := tx_le f (t ++ [c]) r (i + 1)
      simp only [List.length_cons]; omega
    rw [if_neg h2]
    by_cases h3 : (es (c :: r)).2 = 0
    · rw [if_pos h3]; simp
    rw [if_neg h3]
    have h2' : c = 92 := by omega
    have e := (es_inv (l := c :: r) (by simpa using h2') h3).2
    have h := tx_le f (t ++ (es (c :: r)).1) (r.drop ((es (c :: r)).2 - 1)) (i + (es (c :: r)).2)
    have e3 := e.2.2.1
    have e1 := e.1
    rw [List.length_cons] at e3
    rw [List.length_drop] at h
    rw [List.length_cons]
    omega
theorem txl_le {l : List Int} (h : 0 < l.length) : (txl l).2.1 ≤ l.length ∧ (txl l).2.2 ≤ l.length := by
  have := tx_le (l.length - 1) [] (l.drop 1) 1
  rw [List.length_drop] at this
  unfold txl
  omega
end Go.Proofs.YtphkdagapoonjaaDoor.Lx
