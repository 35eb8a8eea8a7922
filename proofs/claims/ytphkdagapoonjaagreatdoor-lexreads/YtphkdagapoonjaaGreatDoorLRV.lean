/- Plain: which texts are words; where a line ends. (Stage 15.) -/
import Derived.Test.YtphkdagapoonjaaGreatDoorZLXH
import Derived.Test.YtphkdagapoonjaaGreatDoorLPN
import Derived.Test.YtphkdagapoonjaaGreatDoorZLRB
namespace Go.Proofs.YtphkdagapoonjaaGreatDoor.Lx
open Go.RowKit
open Go.Proofs.YtphkdagapoonjaaGreatDoor.F (bn bn_length bn_append bn_inj bn_get byte_bd hid bn_extract isEmpty_false isEmpty_true str_eq same_eq)
open Go.Proofs.YtphkdagapoonjaaGreatDoor.U (nx enc encs scal Bytes)
set_option linter.unusedVariables false

theorem wd_line {l : List Int} (hb : Bytes l) (h : wd l) : line l 1 = ([⟨1, l, 1, 0⟩, ⟨5, [], 1, l.length⟩], 0, 0, 0) := by
  obtain ⟨hne, hv, hw⟩ := h
  have h1 : bd l = none := (bd_none hb).2 hv
  have h2 : pb l = none := by
    unfold pb
    rw [List.findIdx?_eq_none_iff]
    intro c hc
    have := hw c hc
    simp; omega
  have h3 : lnF l.length [] l 0 1 = ([⟨1, l, 1, 0⟩], none) := by
    have h0 : 0 < l.length := List.length_pos_iff.2 hne
    obtain ⟨y, hy⟩ : ∃ y, l[0]?.getD 0 = y := ⟨_, rfl⟩
    have hm : y ∈ l := by rw [← hy, List.getElem?_eq_getElem h0]; exact List.getElem_mem h0
    have h7 := ((lni_at (n := 1) h0 hy []).2.2.2.2.2.2 (hw y hm).1).1
    have hwl : wrd l 0 = l := by
      unfold wrd
      rw [List.drop_zero]
      have h := (takeW_app (p := nen) (g := l) [] (fun d hd => by unfold nen; rw [(hw d hd).1]; rfl)).1
      simpa using h
    rw [hwl, Nat.zero_add] at h7
    rw [← lni_zero, h7, lni_end (Nat.le_refl _)]; rfl
  rw [line_ok h1 h2 h3]; rfl
theorem line_wd {l : List Int} (hb : Bytes l) (h0 : (line l 1).2.1 = 0) {t u : Tk} (h : (line l 1).1 = [t, u]) (hk : t.k = 1) (hx : t.x = l) : wd l := by
  rcases line_inv hb 1 h0 with e | ⟨ts, _, e, hg, _⟩
  · rw [h] at e; cases e
  · rw [h] at e
    have hl := congrArg List.length e
    obtain ⟨t', rfl⟩ : ∃ t', ts = [t'] := List.length_eq_one_iff.1 (by simp at hl; omega)
    have et : t = t' := by simp at e; exact e.1
    rcases (hg t' (by simp)).1.2 with ⟨_, hw⟩ | ⟨h2, _⟩ | ⟨h2, _⟩
    · rw [← hx, et]; exact hw
    · rw [← et] at h2; omega
    · rw [← et] at h2; omega
theorem tw_more {p : Int → Bool} : ∀ (j : Nat) (q : List Int), j < q.length → (∀ k, k < j → p (q[k]?.getD 0) = true) → p (q[j]?.getD 0) = false → q.takeWhile p = q.take j
  | 0, [], hl, _, _ => by simp at hl
  | 0, c :: q, hl, _, he => by rw [List.takeWhile_cons_of_neg (by have : p c = false := he; rw [this]; simp)]; rfl
  | j + 1, [], hl, _, _ => by simp at hl
  | j + 1, c :: q, hl, hd, he => by
    rw [List.takeWhile_cons_of_pos (show p c = true from hd 0 (by omega)), List.take_succ_cons, tw_more j q (by simpa using hl) (fun k hk => hd (k + 1) (by omega)) he]
theorem cut_at {l : List Int} {b i : Nat} (hb : b ≤ i) (hi : i < l.length) (hn : ∀ j, b ≤ j → j < i → l[j]?.getD 0 ≠ 10) (h : l[i]?.getD 0 = 10) :
    fl (l.drop b) = strip ((l.drop b).take (i - b)) ∧ ((l.drop b).dropWhile no10).drop 1 = l.drop (i + 1) ∧ l.drop b ≠ [] := by
  have ht : (l.drop b).takeWhile no10 = (l.drop b).take (i - b) := by
    refine tw_more _ _ (by rw [List.length_drop]; omega) (fun k hk => ?_) ?_
    · rw [List.getElem?_drop]; unfold no10; simpa using hn (b + k) (by omega) (by omega)
    · rw [List.getElem?_drop, show b + (i - b) = i by omega, h]; rfl
  have hl : ((l.drop b).take (i - b)).length = i - b := by rw [List.length_take, List.length_drop]; omega
  have hd : (l.drop b).dropWhile no10 = l.drop i := by rw [← drop_takeW, ht, hl, List.drop_drop, show b + (i - b) = i by omega]
  have hne : l.drop i ≠ [] := fun e => by have := congrArg List.length e; rw [List.length_drop, List.length_nil] at this; omega
  refine ⟨?_, by rw [hd, List.drop_drop], fun e => by have := congrArg List.length e; rw [List.length_drop, List.length_nil] at this; omega⟩
  unfold fl
  rw [hd, if_neg hne, ht]
theorem cut_end {l : List Int} {b : Nat} (hb : b < l.length) (hn : ∀ j, b ≤ j → j < l.length → l[j]?.getD 0 ≠ 10) :
    fl (l.drop b) = l.drop b ∧ ((l.drop b).dropWhile no10).drop 1 = l.drop (l.length + 1) ∧ l.drop b ≠ [] := by
  have ht : (l.drop b).takeWhile no10 = l.drop b := by
    have h := (takeW_app (p := no10) (g := l.drop b) [] (fun d hd => ?_)).1
    · simpa using h
    obtain ⟨k, hk, rfl⟩ := List.getElem_of_mem hd
    rw [List.length_drop] at hk
    have := hn (b + k) (by omega) (by omega)
    rw [← List.getElem?_drop, List.getElem?_eq_getElem (by rw [List.length_drop]; omega)] at this
    unfold no10; simpa using this
  have hd : (l.drop b).dropWhile no10 = [] := by
    rw [← drop_takeW, ht, List.drop_eq_nil_of_le (Nat.le_refl _)]
  refine ⟨by unfold fl; rw [if_pos hd], by rw [hd, List.drop_eq_nil_of_le (show l.length ≤ l.length + 1 by omega)]; rfl, fun e => by have := congrArg List.length e; rw [List.length_drop, List.length_nil] at this; omega⟩
theorem strip_13 {l : List Int} (h : l.getLast? = some 13) : strip l = l.take (l.length - 1) := by unfold strip; rw [if_pos h, List.dropLast_eq_take]
theorem strip_no {l : List Int} (h : l.getLast? ≠ some 13) : strip l = l := by unfold strip; rw [if_neg h]
theorem strip_len (l : List Int) : (strip l).length ≤ l.length := by unfold strip; split <;> simp
/-- One line more. -/
theorem lexP_cut {q q' : List Int} (h : q ≠ []) (hd : (q.dropWhile no10).drop 1 = q') (k : Nat) (o : List Tk) :
    lexP (rows q k) o = if (line (fl q) k).2.1 ≠ 0 then ([], (line (fl q) k).2) else lexP (rows q' (k + 1)) (o ++ (line (fl q) k).1) := by
  rw [rows_cons h, lexP, hd]
theorem line_size (l : List Int) (n : Nat) : (line l n).1.length ≤ l.length + 1 := by
  unfold line
  split
  · simp
  split
  · simp
  have h := ln_len l.length [] l 0 n
  split
  · simp
  · rename_i o e
    rw [e] at h
    simp only [List.length_nil] at h
    split
    · simp
    · simp; omega
end Go.Proofs.YtphkdagapoonjaaGreatDoor.Lx
