/- Bytes of a text; what Encode and Decode answer. -/
import Derived.Test.YtnkbfpmaifgenaaEA
import Derived.Test.YtnkbfpmaifgenaaUR
namespace Go.Proofs.Ytnkbfpmaifgenaa.E
open Go.RowKit
set_option linter.unusedVariables false

theorem bn_get (s : ByteArray) (i : Nat) (h : i < s.size) : (U.bn s)[i]?.getD 0 = ((s[i].toNat : Nat) : Int) := by
  unfold U.bn
  rw [List.getElem?_map]
  have hl : i < s.data.toList.length := by simpa using h
  rw [List.getElem?_eq_getElem hl]
  rfl
theorem byte_bd {s : ByteArray} {i : Nat} (h : i < s.size) : 0 ≤ (U.bn s)[i]?.getD 0 ∧ (U.bn s)[i]?.getD 0 ≤ 255 := by
  rw [bn_get s i h]
  have := s[i].toNat_lt
  omega
theorem has_no {l : List Int} {r : Int} (h : ∀ j, j < l.length → ¬ l[j]?.getD 0 = r) : l.contains r = false := by
  rw [Bool.eq_false_iff]
  intro hc
  obtain ⟨j, hj, e⟩ := List.mem_iff_getElem.1 (List.contains_iff_mem.1 hc)
  exact h j hj (by rw [List.getElem?_eq_getElem hj]; exact e)
theorem has_yes {l : List Int} {r : Int} {j : Nat} (hj : j < l.length) (h : l[j]?.getD 0 = r) : l.contains r = true := by
  rw [List.getElem?_eq_getElem hj] at h
  exact List.contains_iff_mem.2 (h ▸ List.getElem_mem hj)
/-- What Encode answers of a text in which L stands. -/
def EncR (k : Nat) (L : List Int) (w : World) (e : Ending) (W' : World) : Prop := (∃ t, e = .returned (.string t) ∧ U.bn t = en k L) ∧ Below w.heap.size w W'
/-- What Decode answers of bytes. -/
def DecR (l : List Int) (w : World) (e : Ending) (W' : World) : Prop := (∃ t, e = .returned (.string t) ∧ U.bn t = de l) ∧ Below w.heap.size w W'
end Go.Proofs.Ytnkbfpmaifgenaa.E
