/- The contract of utf.Encode: the bytes of its code points, or an error where one is no scalar. -/
import Derived.Test.YtnkbfpmaifgenaaUC
namespace Go.Proofs.Ytnkbfpmaifgenaa.U
open Go.RowKit

/-- The slice value v leads to the numbers zs (of kind int32). -/
def IntsAt (w : World) (v : Value) (zs : List Int) : Prop :=
  (zs = [] ∧ ∃ a cap, v = .slice a 0 cap) ∨ (0 < zs.length ∧ ∃ b off cap, v = .slice (some ⟨b, off, none⟩) zs.length cap ∧ ∀ j, j < zs.length → w.cell? ⟨b, off + j, none⟩ = some (.int .i32 (zs[j]?.getD 0)))
theorem lt_of_cell {w : World} {a : Addr} {v : Value} (h : w.cell? a = some v) : a.block < w.heap.size := by
  by_cases hb : a.block < w.heap.size
  · exact hb
  · simp [World.cell?, Array.getElem?_eq_none (Nat.le_of_not_lt hb)] at h
theorem IntsAt.below {A B : World} {n : Nat} (h : Below n A B) (hn : A.heap.size ≤ n) {v : Value} {zs : List Int} : IntsAt A v zs → IntsAt B v zs
  | .inl e => .inl e
  | .inr ⟨hp, b, off, cap, e, hc⟩ => .inr ⟨hp, b, off, cap, e, fun j hj => (h.cell (p := ⟨b, off + j, none⟩) (Nat.lt_of_lt_of_le (lt_of_cell (hc j hj)) hn)).trans (hc j hj)⟩
theorem IntsAt.own {w : World} {base : Nat} {v : Value} {n : Nat} {zs : List Int} (hn : n = zs.length) (h : w.ownsRow base 21 1 v n (zs.map (Value.int .i32))) : IntsAt w v zs := by
  subst hn
  rcases id h.2 with ⟨rfl, h0⟩ | ⟨g, cap, cur, rfl, _⟩
  · exact .inl ⟨List.length_eq_zero_iff.1 h0, _, _, rfl⟩
  · by_cases hz : zs.length = 0
    · exact .inl ⟨List.length_eq_zero_iff.1 hz, _, _, by rw [hz]⟩
    · refine .inr ⟨by omega, g, 0, cap, rfl, fun j hj => ?_⟩
      rw [Nat.zero_add, h.cellAt j (by omega), List.getElem?_map, List.getElem?_eq_getElem hj]
      rfl

theorem take_snoc_int (zs : List Int) (k : Nat) (h : k < zs.length) : zs.take (k + 1) = zs.take k ++ [zs[k]?.getD 0] := by
  rw [List.take_succ_eq_append_getElem h, List.getElem?_eq_getElem h]; rfl
theorem encs_take_snoc (zs : List Int) (k : Nat) (h : k < zs.length) : encs (zs.take (k + 1)) = encs (zs.take k) ++ enc (zs[k]?.getD 0) := by
  rw [take_snoc_int zs k h, encs_snoc]
theorem all_take_snoc (zs : List Int) (k : Nat) (h : k < zs.length) (ha : (zs.take k).all scal = true) (hs : scal (zs[k]?.getD 0) = true) : (zs.take (k + 1)).all scal = true := by
  rw [take_snoc_int zs k h, List.all_append, ha]; simp [hs]
theorem all_false (zs : List Int) (k : Nat) (h : k < zs.length) (hs : scal (zs[k]?.getD 0) = false) : zs.all scal = false := by
  rw [← List.take_append_drop (k + 1) zs, take_snoc_int zs k h, List.all_append, List.all_append]
  simp [hs]
theorem scal_bd {c : Int} (h : scal c = true) : 0 ≤ c ∧ c ≤ 1114111 := by
  unfold scal at h; rw [decide_eq_true_eq] at h; omega
theorem all_bd {zs : List Int} (h : zs.all scal = true) : ∀ c ∈ zs, 0 ≤ c ∧ c ≤ 1114111 := fun c hc => scal_bd (List.all_eq_true.1 h c hc)

/-- What utf.Encode answers. -/
def encR (zs : List Int) (t : ByteArray) (e : Int) : Prop := (zs.all scal = true ∧ e = 0 ∧ bn t = encs zs) ∨ (zs.all scal = false ∧ e = 2 ∧ t = ⟨#[]⟩)

end Go.Proofs.Ytnkbfpmaifgenaa.U
