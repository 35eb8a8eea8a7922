/- Texts as rows of numbers; what the walks of later layers share. (Of no program.) -/
import Derived.WalkKit
import Derived.Lib.IndexBytes
namespace Go.Proofs.YtacbfbhhhofifaaDoor.F
open Go.RowKit
set_option linter.unusedVariables false

theorem hid {p : Prop} (h : p) : Hid p := h
/-- The bytes of a text. -/
def bn (s : ByteArray) : List Int := s.data.toList.map fun c => (c.toNat : Int)
theorem bn_length (s : ByteArray) : (bn s).length = s.size := by simp [bn]
theorem bn_append (a b : ByteArray) : bn (a ++ b) = bn a ++ bn b := by
  unfold bn
  rw [← List.map_append]
  congr 1
theorem bn_inj {s t : ByteArray} (h : bn s = bn t) : s = t := by
  unfold bn at h
  have h2 : s.data.toList = t.data.toList := by
    have : ∀ (a b : List UInt8), a.map (fun c => (c.toNat : Int)) = b.map (fun c => (c.toNat : Int)) → a = b := by
      intro a
      induction a with
      | nil => intro b hb; cases b with
        | nil => rfl
        | cons _ _ => simp at hb
      | cons x a ih => intro b hb; cases b with
        | nil => simp at hb
        | cons y b =>
          simp only [List.map_cons, List.cons.injEq] at hb
          have hxy : x = y := UInt8.toNat_inj.1 (by have := hb.1; omega)
          rw [ih b hb.2, hxy]
    exact this _ _ h
  cases s; cases t
  congr 1
  exact Array.toList_inj.1 h2
theorem bn_get (s : ByteArray) (i : Nat) (h : i < s.size) : (bn s)[i]?.getD 0 = ((s[i].toNat : Nat) : Int) := by
  unfold bn
  rw [List.getElem?_map]
  have hl : i < s.data.toList.length := by simpa using h
  rw [List.getElem?_eq_getElem hl]
  rfl
theorem byte_bd {s : ByteArray} {i : Nat} (h : i < s.size) : 0 ≤ (bn s)[i]?.getD 0 ∧ (bn s)[i]?.getD 0 ≤ 255 := by
  rw [bn_get s i h]
  have := s[i].toNat_lt
  omega
theorem str_eq (t s : ByteArray) : (t.toList == s.toList) = decide (bn t = bn s) := by
  rw [Bool.eq_iff_iff, beq_iff_eq, decide_eq_true_eq, ByteArray.toList_eq, ByteArray.toList_eq]
  constructor
  · intro h; unfold bn; rw [h]
  · intro h; rw [bn_inj h]
theorem same_eq {a b : ByteArray} (h : bn a = bn b) : (a.toList == b.toList) = true := by rw [str_eq]; exact decide_eq_true h
theorem bn_extract (s : ByteArray) (k : Nat) : bn (s.extract k s.size) = (bn s).drop k := by
  unfold bn
  rw [Lib.extract_to_end, List.map_drop]
theorem isEmpty_false (s : ByteArray) (h : 0 < s.size) : s.toList.isEmpty = false := by
  cases he : s.toList.isEmpty with
  | false => rfl
  | true =>
    rw [List.isEmpty_iff, ByteArray.toList_eq] at he
    have h4 : s.data.toList.length = 0 := by rw [he]; rfl
    rw [Array.length_toList] at h4
    have h3 : s.data.size = s.size := rfl
    omega
theorem isEmpty_true (s : ByteArray) (h : s.size = 0) : s.toList.isEmpty = true := by
  rw [ByteArray.toList_eq, List.isEmpty_iff]
  exact List.length_eq_zero_iff.1 (by simpa using h)
theorem take_one (L : List Int) (k : Nat) (h : k < L.length) : L.take (k + 1) = L.take k ++ [L[k]?.getD 0] := by
  rw [List.take_succ_eq_append_getElem h, List.getElem?_eq_getElem h]; rfl
end Go.Proofs.YtacbfbhhhofifaaDoor.F
