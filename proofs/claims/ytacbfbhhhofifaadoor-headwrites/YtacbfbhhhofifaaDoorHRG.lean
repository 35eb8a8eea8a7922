/- Plain: a step of a head's reader, by what it is. (Stage 19.) -/
import Derived.Test.YtacbfbhhhofifaaDoorHXA
namespace Go.Proofs.YtacbfbhhhofifaaDoor.Hd
set_option linter.unusedVariables false

theorem step_many {s : St} {c : Int} (h : 16384 < s.n + 1) : step s c = { s with n := s.n + 1, e := 195 } := by unfold step; rw [if_pos h]
theorem step_long {s : St} {c : Int} (h : ¬ 16384 < s.n + 1) (hc : c ≠ 10) (hl : 4097 < s.cur.length + 1) : step s c = { s with n := s.n + 1, e := if s.is = true then 195 else 194 } := by unfold step; rw [if_neg h, if_pos hc, if_pos hl]
theorem step_char {s : St} {c : Int} (h : ¬ 16384 < s.n + 1) (hc : c ≠ 10) (hl : ¬ 4097 < s.cur.length + 1) : step s c = { s with cur := s.cur ++ [c], n := s.n + 1 } := by unfold step; rw [if_neg h, if_pos hc, if_neg hl]
theorem step_bad {s : St} {c : Int} (h : ¬ 16384 < s.n + 1) (hc : c = 10) (he : ends (s.cur ++ [c]) = false) : step s c = { s with n := s.n + 1, e := 191 } := by unfold step; rw [if_neg h, if_neg (by simpa using hc), if_pos he]
theorem step_fin {s : St} {c : Int} (h : ¬ 16384 < s.n + 1) (hc : c = 10) (he : ends (s.cur ++ [c]) = true) : step s c = fin { s with n := s.n + 1 } ((s.cur ++ [c]).take (s.cur.length + 1 - 2)) := by unfold step; rw [if_neg h, if_neg (by simpa using hc), if_neg (by simp [he])]
theorem fin_blank {s : St} {l : List Int} (hi : s.is = false) (hl : l = []) (hb : s.blk = false) : fin s l = { s with cur := [], blk := true } := by unfold fin; rw [if_pos ⟨hi, hl, hb⟩]
theorem fin_target {s : St} {l : List Int} (hi : s.is = false) (hb : ¬ (l = [] ∧ s.blk = false)) (hl : 4096 < l.length) : fin s l = { s with e := 194 } := by unfold fin; rw [if_neg (fun h => hb h.2), if_pos hi, if_pos hl]
theorem fin_first_no {s : St} {l : List Int} (hi : s.is = false) (hb : ¬ (l = [] ∧ s.blk = false)) (hl : ¬ 4096 < l.length) (hf : (frst l).2 ≠ 0) : fin s l = { s with e := (frst l).2 } := by unfold fin; rw [if_neg (fun h => hb h.2), if_pos hi, if_neg hl, if_pos hf]
theorem fin_first {s : St} {l : List Int} (hi : s.is = false) (hb : ¬ (l = [] ∧ s.blk = false)) (hl : ¬ 4096 < l.length) (hf : (frst l).2 = 0) : fin s l = { s with cur := [], is := true, h := (frst l).1 } := by unfold fin; rw [if_neg (fun h => hb h.2), if_pos hi, if_neg hl, if_neg (by simpa using hf)]
theorem fin_done {s : St} {l : List Int} (hi : s.is = true) (hl : l = []) : fin s l = { s with d := true } := by unfold fin; rw [if_neg (by simp [hi]), if_neg (by simp [hi]), if_pos hl]
theorem fin_many {s : St} {l : List Int} (hi : s.is = true) (hl : l ≠ []) (h : 4096 < l.length ∨ 64 ≤ s.h.f.length) : fin s l = { s with e := 195 } := by unfold fin; rw [if_neg (by simp [hi]), if_neg (by simp [hi]), if_neg hl, if_pos h]
theorem fin_field_no {s : St} {l : List Int} (hi : s.is = true) (hl : l ≠ []) (h : ¬ (4096 < l.length ∨ 64 ≤ s.h.f.length)) (hf : fld l = none) : fin s l = { s with e := 193 } := by unfold fin; rw [if_neg (by simp [hi]), if_neg (by simp [hi]), if_neg hl, if_neg h, hf]
theorem fin_field {s : St} {l : List Int} (hi : s.is = true) (hl : l ≠ []) (h : ¬ (4096 < l.length ∨ 64 ≤ s.h.f.length)) {x : List Int × List Int} (hf : fld l = some x) : fin s l = { s with cur := [], h := { s.h with f := s.h.f ++ [x] } } := by unfold fin; rw [if_neg (by simp [hi]), if_neg (by simp [hi]), if_neg hl, if_neg h, hf]
/-- Behind i bytes, one more. -/
theorem go_one {l : List Int} {i : Nat} (hi : i < l.length) {q : St} (hq : go s0 (l.take i) = q) (hd : q.d = false) (he : q.e = 0) : go s0 (l.take (i + 1)) = step q (l[i]?.getD 0) ∧
    ((step q (l[i]?.getD 0)).d = true ∨ (step q (l[i]?.getD 0)).e ≠ 0 → go s0 l = step q (l[i]?.getD 0)) := by
  have e1 : l.take (i + 1) = l.take i ++ [l[i]?.getD 0] := by rw [List.take_succ_eq_append_getElem hi, List.getElem?_eq_getElem hi]; rfl
  have e2 : go s0 (l.take (i + 1)) = step q (l[i]?.getD 0) := by
    rw [e1, go_append, hq, go, if_neg (by simp [hd, he]), go]
  refine ⟨e2, fun h => ?_⟩
  have e3 : l = l.take (i + 1) ++ l.drop (i + 1) := (List.take_append_drop _ _).symm
  exact (congrArg (go s0) e3).trans (by rw [go_append, e2, go_over h])
theorem drop_line {l : List Int} {i b : Nat} (hi : i < l.length) (hb : b ≤ i) : (l.take (i + 1)).drop b = (l.take i).drop b ++ [l[i]?.getD 0] := by
  rw [List.take_succ_eq_append_getElem hi, List.drop_append_of_le_length (by simp; omega), List.getElem?_eq_getElem hi]; rfl
theorem drop_len {l : List Int} {i b : Nat} (hi : i < l.length) (hb : b ≤ i) : ((l.take i).drop b).length + 1 = i + 1 - b := by simp; omega
end Go.Proofs.YtacbfbhhhofifaaDoor.Hd
