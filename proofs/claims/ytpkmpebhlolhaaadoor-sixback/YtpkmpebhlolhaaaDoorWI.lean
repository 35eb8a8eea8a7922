/- six.ending, six.Parse. (Stage 11.) -/
import Derived.Test.YtpkmpebhlolhaaaDoorWP
import Derived.Test.YtpkmpebhlolhaaaDoorWH
import Derived.Test.YtpkmpebhlolhaaaDoorXL
import Derived.Shelf.Strings.Cut
namespace Go.Proofs
open Go.Shelf Go.RowKit
shelf_lay Lays.n145 Nm 145 at Tryd as Tryd.laysCutX
end Go.Proofs
namespace Go.Proofs.YtpkmpebhlolhaaaDoor.X
open Go.RowKit
open Go.Proofs.YtpkmpebhlolhaaaDoor.F (hx hx_bd vl vl_snoc bn bn_length bn_append bn_inj bn_get byte_bd hid bn_extract isEmpty_false isEmpty_true str_eq same_eq)
set_option linter.unusedVariables false

/-- Ending so far. -/
def Edg (A B X : List Nat) (q i : Nat) : Prop := X.length = 8 ∧ ∀ j, X[j]?.getD 0 = if 8 - q ≤ j ∧ j < 8 - q + i then B[j - (8 - q)]?.getD 0 else A[j]?.getD 0
theorem Edg.start {A B : List Nat} {q : Nat} (hA : A.length = 8) : Edg A B A q 0 := ⟨hA, fun j => by rw [if_neg (by omega)]⟩
theorem Edg.step {A B X : List Nat} {q i v : Nat} (h : Edg A B X q i) (hi : i < q) (hq : q ≤ 8) (hv : B[i]?.getD 0 = v) : Edg A B (X.set (8 - q + i) v) q (i + 1) := by
  obtain ⟨h8, h⟩ := h
  refine ⟨by rw [List.length_set]; exact h8, fun j => ?_⟩
  by_cases e : j = 8 - q + i
  · rw [e, List.getElem?_set_self (by omega), if_pos (by omega), show 8 - q + i - (8 - q) = i by omega, hv]; rfl
  · rw [List.getElem?_set_ne (by omega), h j]
    by_cases e2 : 8 - q ≤ j ∧ j < 8 - q + i
    · rw [if_pos e2, if_pos (by omega)]
    · rw [if_neg e2, if_neg (by omega)]
theorem cell_lit (w : World) (cs : Array Value) (t : TypeId) (W : World) (hW : W.heap[w.heap.size]? = some (.cells cs t (0, 0))) : W.heap[w.heap.size]? = some (.cells cs t (0, 0)) := hW
set_option maxRecDepth 100000 in
set_option maxHeartbeats 8000000 in
theorem ending_lit (a0 a1 a2 a3 a4 a5 a6 a7 b0 b1 b2 b3 b4 b5 b6 b7 q : Nat) (hq : q ≤ 8) (w : World) :
    Calls Tryd.prog 17 #[.agg #[.int .u16 a0, .int .u16 a1, .int .u16 a2, .int .u16 a3, .int .u16 a4, .int .u16 a5, .int .u16 a6, .int .u16 a7], .agg #[.int .u16 b0, .int .u16 b1, .int .u16 b2, .int .u16 b3, .int .u16 b4, .int .u16 b5, .int .u16 b6, .int .u16 b7], .int .i64 (q : Int)] w fun e W' => (∃ X, Edg [a0, a1, a2, a3, a4, a5, a6, a7] [b0, b1, b2, b3, b4, b5, b6, b7] X q q ∧ e = .returned (.agg (u16s X).toArray)) ∧ Below w.heap.size w W' := by
  obtain ⟨w1, hw1⟩ : ∃ w1, w.alloc (.cells #[.int .u16 a0, .int .u16 a1, .int .u16 a2, .int .u16 a3, .int .u16 a4, .int .u16 a5, .int .u16 a6, .int .u16 a7] 23) = w1 := ⟨_, rfl⟩
  obtain ⟨w2, hw2⟩ : ∃ w2, w1.alloc (.cells #[.int .u16 b0, .int .u16 b1, .int .u16 b2, .int .u16 b3, .int .u16 b4, .int .u16 b5, .int .u16 b6, .int .u16 b7] 23) = w2 := ⟨_, rfl⟩
  obtain ⟨w3, hw3⟩ : ∃ w3, w2.alloc (.cells #[.int .u16 0, .int .u16 0, .int .u16 0, .int .u16 0, .int .u16 0, .int .u16 0, .int .u16 0, .int .u16 0] 23) = w3 := ⟨_, rfl⟩
  have hz1 : w1.heap.size = w.heap.size + 1 := by rw [← hw1]; simp
  have hz2 : w2.heap.size = w.heap.size + 2 := by rw [← hw2]; simp [hz1]
  have B1 : Below w1.heap.size w1 w2 := by rw [← hw2]; exact (Below.refl _ _).alloc (Nat.le_refl _) _
  have B2 : Below w2.heap.size w2 w3 := by rw [← hw3]; exact (Below.refl _ _).alloc (Nat.le_refl _) _
  have HA : Hid (w3.heap[w.heap.size]? = some (.cells (u16s [a0, a1, a2, a3, a4, a5, a6, a7]).toArray 23 (0, 0))) := by
    show _ = _
    rw [B2.block _ (by omega), B1.block _ (by omega), ← hw1]
    exact box_in w _ _
  have HB : Hid (w3.heap[w.heap.size + 1]? = some (.cells (u16s [b0, b1, b2, b3, b4, b5, b6, b7]).toArray 23 (0, 0))) := by
    show _ = _
    rw [B2.block _ (by omega), ← hw2, ← hz1]
    exact box_in w1 _ _
  have HR : Hid (w3.heap[w.heap.size + 2]? = some (.cells (u16s z8).toArray 23 (0, 0))) := by
    show _ = _
    rw [← hw3, ← hz2]
    exact box_in w2 _ _
  have HBW : Hid (Below w.heap.size w w3) := by
    have B0 : Below w.heap.size w w1 := by rw [← hw1]; exact (Below.refl _ _).alloc (Nat.le_refl _) _
    exact B0.trans ((B1.mono (by omega)).trans (B2.mono (by omega)))
  have HW : Hid (((w.alloc (.cells #[.int .u16 a0, .int .u16 a1, .int .u16 a2, .int .u16 a3, .int .u16 a4, .int .u16 a5, .int .u16 a6, .int .u16 a7] 23)).alloc (.cells #[.int .u16 b0, .int .u16 b1, .int .u16 b2, .int .u16 b3, .int .u16 b4, .int .u16 b5, .int .u16 b6, .int .u16 b7] 23)).alloc (.cells #[.int .u16 0, .int .u16 0, .int .u16 0, .int .u16 0, .int .u16 0, .int .u16 0, .int .u16 0, .int .u16 0] 23) = w3) := by
    show _ = _
    rw [hw1, hw2, hw3]
  clear hw1 hw2 hw3 B1 B2 hz1 hz2
  have hlA : [a0, a1, a2, a3, a4, a5, a6, a7].length = 8 := rfl
  have HLB : Hid ([b0, b1, b2, b3, b4, b5, b6, b7].length = 8) := rfl
  obtain ⟨A, hA⟩ : ∃ A, [a0, a1, a2, a3, a4, a5, a6, a7] = A := ⟨_, rfl⟩
  obtain ⟨B, hB⟩ : ∃ B, [b0, b1, b2, b3, b4, b5, b6, b7] = B := ⟨_, rfl⟩
  rw [hA] at hlA HA ⊢
  rw [hB] at HLB HB ⊢
  have HST := hid (Edg.start (B := B) (q := q) hlA)
  clear hA hB hlA
  go_enter Tryd.func17, Tryd.ntmps17
  go_wp2_with fail
  rw [HW.out]
  obtain ⟨arg, harg⟩ : ∃ v : Value, Value.agg #[.int .u16 a0, .int .u16 a1, .int .u16 a2, .int .u16 a3, .int .u16 a4, .int .u16 a5, .int .u16 a6, .int .u16 a7] = v := ⟨_, rfl⟩
  obtain ⟨arb, harb⟩ : ∃ v : Value, Value.agg #[.int .u16 b0, .int .u16 b1, .int .u16 b2, .int .u16 b3, .int .u16 b4, .int .u16 b5, .int .u16 b6, .int .u16 b7] = v := ⟨_, rfl⟩
  rw [harg, harb]
  clear HW harg harb
  go_loopw [9] (fun v9 wr => ∃ (i : Nat) (X : List Nat), i ≤ q ∧ v9 = .int .i64 (i : Int) ∧ Hid (Edg A B X q i) ∧ Hid (wr.heap[w.heap.size]? = some (.cells (u16s X).toArray 23 (0, 0))) ∧ Hid (wr.heap[w.heap.size + 1]? = some (.cells (u16s B).toArray 23 (0, 0))) ∧ Hid (wr.heap[w.heap.size + 2]? = some (.cells (u16s z8).toArray 23 (0, 0))) ∧ Hid (Below w.heap.size w wr)) (fun v9 _ => q - (intOf v9).toNat)
  case atStart => exact ⟨0, A, by omega, rfl, HST, HA, HB, HR, HBW⟩
  case round =>
    obtain ⟨i, X, hi, rfl, HE, HA, HB, HR, HBW⟩ := hrel
    have HXL := hid HE.out.1
    by_cases hlt : i < q
    · have hltz : (i : Int) < (q : Int) := by omega
      have hsrc := cell_row HB.out (j := i) (by rw [HLB.out]; omega)
      obtain ⟨v, hv⟩ : ∃ v, B[i]?.getD 0 = v := ⟨_, rfl⟩
      rw [hv] at hsrc
      have HE2 := hid (HE.out.step hlt hq hv)
      obtain ⟨k, hk⟩ : ∃ k, 8 - q + i = k := ⟨_, rfl⟩
      have hkz : (8 : Int) - (q : Int) + (i : Int) = (k : Int) := by omega
      have hk8 : k < 8 := by omega
      have hk8z : (k : Int) < 8 := by omega
      rw [hk] at HE2
      have hdst := cell_row HA.out (j := k) (by rw [HXL.out]; exact hk8)
      have hfz := frozen_of_row wr w.heap.size k _ _ HA.out
      have HA2 : Hid ((wr.setCell ⟨w.heap.size, k, none⟩ (.int .u16 (v : Nat))).heap[w.heap.size]? = some (.cells (u16s (X.set k v)).toArray 23 (0, 0))) := by
        show _ = _
        rw [heap_setCell_same wr _ k _ _ _ HA.out, arr_set]
      have HB2 : Hid ((wr.setCell ⟨w.heap.size, k, none⟩ (.int .u16 (v : Nat))).heap[w.heap.size + 1]? = some (.cells (u16s B).toArray 23 (0, 0))) := (heap_setCell_other wr _ _ _ (by simp)).trans HB.out
      have HR2 : Hid ((wr.setCell ⟨w.heap.size, k, none⟩ (.int .u16 (v : Nat))).heap[w.heap.size + 2]? = some (.cells (u16s z8).toArray 23 (0, 0))) := (heap_setCell_other wr _ _ _ (by simp)).trans HR.out
      have HW2 := hid (HBW.out.setCell (p := ⟨w.heap.size, k, none⟩) (Nat.le_refl _) (.int .u16 (v : Nat)))
      clear hv HE hk
      go_wp2_with fail
      go_roundw
      case rel => exact ⟨i + 1, X.set k v, by omega, by go_num, HE2, HA2, HB2, HR2, HW2⟩
      case measure => simp [intOf]; omega
    · have hiq : i = q := by omega
      have hltz : ¬ (i : Int) < (q : Int) := by omega
      have HE2 : Hid (Edg A B X q q) := by rw [hiq] at HE; exact HE
      clear HE hiq
      go_wp2_with (first
        | (refine wpList_load_row rfl 23 (.tmp 3) rfl w.heap.size rfl 23 (u16s X).toArray (0, 0) _ HA.out Tryd.underlying23 rfl (info8X HXL.out) ?_)
        | (refine wpList_store_row rfl 23 (.tmp 6) (.tmp 21) rfl (w.heap.size + 2) (u16s X).toArray rfl rfl 23 (u16s z8).toArray HR.out (info8X HXL.out) ((size8 rfl).trans (size8 HXL.out).symm) (one16 X) ?_))
      exact bodyPost_ret (results_cell_row Tryd.results17 _ _ (w.heap.size + 2) 23 (u16s X).toArray (0, 0) _ rfl (set_row HR.out) Tryd.underlying23 rfl (info8X HXL.out)) rfl ⟨⟨X, HE2.out, rfl⟩, below_row HBW.out (by omega) _⟩
/-- The front's pieces, noughts, the back's. -/
theorem ending_any (F B : List Nat) (hF : F.length + B.length ≤ 7 ∨ (F.length = 8 ∧ B = [])) (w : World) :
    Calls Tryd.prog 17 #[.agg (u16s (F ++ z (8 - F.length))).toArray, .agg (u16s (B ++ z (8 - B.length))).toArray, .int .i64 (B.length : Int)] w fun e W' => e = .returned (.agg (u16s (F ++ List.replicate (8 - B.length - F.length) 0 ++ B)).toArray) ∧ Below w.heap.size w W' := by
  have hq : F.length + B.length ≤ 8 := by
    rcases hF with h | ⟨h, rfl⟩
    · omega
    · simp [h]
  have lz : ∀ L : List Nat, L.length ≤ 8 → (L ++ z (8 - L.length)).length = 8 := fun L h => by unfold z; simp; omega
  obtain ⟨a0, a1, a2, a3, a4, a5, a6, a7, ha⟩ := lit8 (lz F (by omega))
  obtain ⟨b0, b1, b2, b3, b4, b5, b6, b7, hb⟩ := lit8 (lz B (by omega))
  have h := ending_lit a0 a1 a2 a3 a4 a5 a6 a7 b0 b1 b2 b3 b4 b5 b6 b7 B.length (by omega) w
  rw [← ha, ← hb] at h
  rw [ha, hb]
  refine Calls.mono h ?_
  rintro e W' ⟨⟨X, ⟨h8, hX⟩, rfl⟩, hB⟩
  refine ⟨?_, hB⟩
  have e : X = F ++ List.replicate (8 - B.length - F.length) 0 ++ B := by
    refine ext8 h8 (by simp; omega) (fun j hj => ?_)
    rw [hX j]
    have zat : ∀ (L : List Nat) (k : Nat), k ≤ 7 → L.length ≤ 8 → (L ++ z (8 - L.length))[k]?.getD 0 = if k < L.length then L[k]?.getD 0 else 0 := fun L k hk hL => by
      by_cases h : k < L.length
      · rw [if_pos h, List.getElem?_append_left h]
      · rw [if_neg h, List.getElem?_append_right (by omega)]
        unfold z
        rw [List.getElem?_replicate]
        split <;> rfl
    by_cases e : j < F.length
    · rw [if_neg (by omega), zat F j (by omega) (by omega), if_pos e, List.append_assoc, List.getElem?_append_left e]
    · by_cases e2 : 8 - B.length ≤ j
      · rw [if_pos (by omega), zat B _ (by omega) (by omega), if_pos (by omega), List.getElem?_append_right (by simp; omega)]
        congr 2
        simp; omega
      · rw [if_neg (by omega), zat F j (by omega) (by omega), if_neg e, List.append_assoc, List.getElem?_append_right (by omega), List.getElem?_append_left (by simp; omega), List.getElem?_replicate, if_pos (by omega)]; rfl
  rw [e]
end Go.Proofs.YtpkmpebhlolhaaaDoor.X
