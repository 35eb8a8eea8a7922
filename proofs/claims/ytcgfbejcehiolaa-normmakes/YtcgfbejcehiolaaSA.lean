/- Plain facts: rows of points that are sorted by their classes, those of one class staying as they stand. -/
import Derived.Test.YtcgfbejcehiolaaSB
namespace Go.Proofs.Ytcgfbejcehiolaa
open Go.RowKit
set_option linter.unusedVariables false

/-- Sorted by classes. -/
def Srt (l : List Pt) : Prop := l.Pairwise (fun a b => a.2 ≤ b.2)
/-- The same points, those of one class in the same order. -/
structure Stb (l l' : List Pt) : Prop where
  perm : l'.Perm l
  fil : ∀ k, l'.filter (fun x => x.2 == k) = l.filter (fun x => x.2 == k)
theorem Stb.refl (l : List Pt) : Stb l l := ⟨.refl _, fun _ => rfl⟩
theorem Stb.trans {a b c : List Pt} (h : Stb a b) (k : Stb b c) : Stb a c := ⟨k.perm.trans h.perm, fun i => (k.fil i).trans (h.fil i)⟩
theorem Stb.append {a b c d : List Pt} (h : Stb a b) (k : Stb c d) : Stb (a ++ c) (b ++ d) := ⟨h.perm.append k.perm, fun i => by rw [List.filter_append, List.filter_append, h.fil, k.fil]⟩
theorem Stb.len {a b : List Pt} (h : Stb a b) : b.length = a.length := h.perm.length_eq
theorem Stb.swap {X Y : List Pt} (h : ∀ x ∈ X, ∀ y ∈ Y, x.2 ≠ y.2) : Stb (X ++ Y) (Y ++ X) := by
  refine ⟨List.perm_append_comm, fun k => ?_⟩
  rw [List.filter_append, List.filter_append]
  by_cases hx : X.filter (fun x => x.2 == k) = []
  · rw [hx]; simp
  · have : Y.filter (fun x => x.2 == k) = [] := by
      rw [List.filter_eq_nil_iff]
      intro y hy he
      obtain ⟨x, hx'⟩ := List.exists_mem_of_ne_nil _ hx
      rw [List.mem_filter] at hx'
      exact h x hx'.1 y hy (by have := hx'.2; simp at this he; omega)
    rw [this]; simp
theorem Srt.nil : Srt [] := List.Pairwise.nil
theorem srt_one (x : Pt) : Srt [x] := List.pairwise_singleton _ _
theorem srt_append {a b : List Pt} : Srt (a ++ b) ↔ Srt a ∧ Srt b ∧ ∀ x ∈ a, ∀ y ∈ b, x.2 ≤ y.2 := List.pairwise_append
theorem srt_cons {x : Pt} {b : List Pt} : Srt (x :: b) ↔ (∀ y ∈ b, x.2 ≤ y.2) ∧ Srt b := List.pairwise_cons
/-- What is sorted and stable is one. -/
theorem stb_unique : ∀ {a b : List Pt}, Srt a → Srt b → Stb a b → a = b
  | [], b, _, _, h => by have := h.perm.length_eq; exact (List.length_eq_zero_iff.1 (by simpa using this)).symm
  | x :: a, [], _, _, h => by have := h.perm.length_eq; simp at this
  | x :: a, y :: b, ha, hb, h => by
    have hxm : x ∈ y :: b := h.perm.mem_iff.2 List.mem_cons_self
    have hym : y ∈ x :: a := h.perm.mem_iff.1 List.mem_cons_self
    have h1 : x.2 ≤ y.2 := by
      rcases List.mem_cons.1 hym with rfl | hy
      · exact Int.le_refl _
      · exact (srt_cons.1 ha).1 y hy
    have h2 : y.2 ≤ x.2 := by
      rcases List.mem_cons.1 hxm with rfl | hx
      · exact Int.le_refl _
      · exact (srt_cons.1 hb).1 x hx
    have e : x.2 = y.2 := by omega
    have hf := h.fil x.2
    rw [List.filter_cons_of_pos (by simp [e]), List.filter_cons_of_pos (by simp)] at hf
    have hxy : y = x := (List.cons.inj hf).1
    subst hxy
    have hs : Stb a b := ⟨(List.perm_cons y).1 h.perm, fun k => by
      have := h.fil k
      by_cases hk : (y.2 == k) = true
      · simp only [List.filter_cons, hk, if_true] at this; exact (List.cons.inj this).2
      · simp only [List.filter_cons, hk] at this; simpa using this⟩
    rw [stb_unique (srt_cons.1 ha).2 (srt_cons.1 hb).2 hs]

/-- Sorting by insertion. -/
def insP (x : Pt) : List Pt → List Pt
  | [] => [x]
  | y :: l => if y.2 < x.2 then y :: insP x l else x :: y :: l
def isort : List Pt → List Pt
  | [] => []
  | x :: l => insP x (isort l)
theorem insP_mem (x y : Pt) : ∀ l, y ∈ insP x l ↔ y = x ∨ y ∈ l
  | [] => by simp [insP]
  | z :: l => by
    unfold insP
    split
    · rw [List.mem_cons, insP_mem x y l, List.mem_cons]
      constructor
      · rintro (h | h | h)
        · exact .inr (.inl h)
        · exact .inl h
        · exact .inr (.inr h)
      · rintro (h | h | h)
        · exact .inr (.inl h)
        · exact .inl h
        · exact .inr (.inr h)
    · simp
theorem insP_stb (x : Pt) : ∀ l, Stb (x :: l) (insP x l)
  | [] => Stb.refl _
  | y :: l => by
    unfold insP
    split
    · rename_i h
      have h1 : Stb (x :: y :: l) (y :: x :: l) := by
        have := (Stb.swap (X := [x]) (Y := [y]) (by intro a ha b hb; simp at ha hb; subst ha; subst hb; omega)).append (Stb.refl l)
        simpa using this
      have h2 : Stb (y :: x :: l) (y :: insP x l) := by
        have := (Stb.refl [y]).append (insP_stb x l)
        simpa using this
      exact h1.trans h2
    · exact Stb.refl _
theorem insP_srt (x : Pt) : ∀ l, Srt l → Srt (insP x l)
  | [], _ => srt_one x
  | y :: l, h => by
    have hc := srt_cons.1 h
    unfold insP
    split
    · rename_i hlt
      refine srt_cons.2 ⟨fun z hz => ?_, insP_srt x l hc.2⟩
      rcases (insP_mem x z l).1 hz with rfl | hz
      · omega
      · exact hc.1 z hz
    · rename_i hlt
      refine srt_cons.2 ⟨fun z hz => ?_, h⟩
      rcases List.mem_cons.1 hz with rfl | hz
      · omega
      · have := hc.1 z hz; omega
theorem isort_stb : ∀ l, Stb l (isort l)
  | [] => Stb.refl _
  | x :: l => by
    have := (Stb.refl [x]).append (isort_stb l)
    exact Stb.trans (by simpa using this) (insP_stb x _)
theorem isort_srt : ∀ l, Srt (isort l)
  | [] => Srt.nil
  | x :: l => insP_srt x _ (isort_srt l)
theorem isort_of {l l' : List Pt} (h : Stb l l') (hs : Srt l') : l' = isort l :=
  (stb_unique (isort_srt l) hs ⟨h.perm.trans (isort_stb l).perm.symm, fun k => (h.fil k).trans ((isort_stb l).fil k).symm⟩).symm

theorem get_mid (X : List Pt) (y : Pt) (Z : List Pt) (j : Nat) (h : X.length = j) : (X ++ y :: Z)[j]?.getD z2 = y := by
  subst h; simp
theorem get_mid2 (X : List Pt) (x y : Pt) (Z : List Pt) (j : Nat) (h : X.length = j) : (X ++ x :: y :: Z)[j + 1]?.getD z2 = y := by
  subst h; simp
/-- Two neighbours are exchanged: the second one first. -/
theorem swap_nb (X : List Pt) (p x : Pt) (Z : List Pt) (j : Nat) (h : X.length = j) : ((X ++ p :: x :: Z).set (j + 1) p).set j x = X ++ x :: p :: Z := by
  subst h
  simp
theorem swap_nb' (X : List Pt) (p x : Pt) (Z : List Pt) (j : Nat) (h : X.length = j) : ((X ++ p :: x :: Z).set j x).set (j + 1) p = X ++ x :: p :: Z := by
  subst h
  simp
theorem split_at (l : List Pt) (j : Nat) (h : j < l.length) : ∃ X y Z, l = X ++ y :: Z ∧ X.length = j := by
  refine ⟨l.take j, l[j], l.drop (j + 1), ?_, by rw [List.length_take]; omega⟩
  rw [← List.drop_eq_getElem_cons h, List.take_append_drop]

/-- A step of the insertion: what stands behind x is greater; it goes there. -/
theorem ins_step {P Q : List Pt} {x : Pt} (hs : Srt (P ++ Q)) (hq : ∀ q ∈ Q, x.2 < q.2) (hp : ∀ p ∈ P, p.2 ≤ x.2) : Srt (P ++ x :: Q) ∧ Stb (P ++ Q ++ [x]) (P ++ x :: Q) := by
  have h := srt_append.1 hs
  refine ⟨srt_append.2 ⟨h.1, srt_cons.2 ⟨fun y hy => by have := hq y hy; omega, h.2.1⟩, fun a ha y hy => ?_⟩, ?_⟩
  · rcases List.mem_cons.1 hy with rfl | hy
    · exact hp a ha
    · exact h.2.2 a ha y hy
  · have := (Stb.refl P).append (Stb.swap (X := Q) (Y := [x]) (fun a ha b hb => by simp at hb; subst hb; have := hq a ha; omega))
    simpa using this
theorem srt_last {P : List Pt} {p : Pt} (h : Srt (P ++ [p])) {c : Int} (hc : p.2 ≤ c) : ∀ a ∈ P ++ [p], a.2 ≤ c := by
  intro a ha
  rcases List.mem_append.1 ha with h1 | h1
  · have := (srt_append.1 h).2.2 a h1 p (by simp); omega
  · simp at h1; subst h1; exact hc
end Go.Proofs.Ytcgfbejcehiolaa
