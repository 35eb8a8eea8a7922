/- six.cleared, six.longest. (Stage 11.) -/
import Derived.Test.YtpkmpebhlolhaaaDoorWG
import Derived.Test.YtpkmpebhlolhaaaDoorXL
import Derived.Test.YtpkmpebhlolhaaaDoorXJ
import Derived.WalkMore
import Derived.BigQuiet
namespace Go.Proofs.YtpkmpebhlolhaaaDoor.X
open Go.RowKit
open Go.Proofs.YtpkmpebhlolhaaaDoor.F (hx hx_bd vl vl_snoc bn bn_length bn_append bn_inj bn_get byte_bd hid bn_extract isEmpty_false isEmpty_true str_eq same_eq)
set_option linter.unusedVariables false

/-- Cleared so far. -/
def Clr (A X : List Nat) (f i : Nat) : Prop := X.length = 8 ∧ ∀ j, X[j]?.getD 0 = if f ≤ j ∧ j < f + i then 0 else A[j]?.getD 0
theorem Clr.start {A : List Nat} {f : Nat} (hA : A.length = 8) : Clr A A f 0 := ⟨hA, fun j => by rw [if_neg (by omega)]⟩
theorem Clr.step {A X : List Nat} {f i : Nat} (h : Clr A X f i) (hi : f + i < 8) : Clr A (X.set (f + i) 0) f (i + 1) := by
  obtain ⟨h8, h⟩ := h
  refine ⟨by rw [List.length_set]; exact h8, fun j => ?_⟩
  by_cases e : j = f + i
  · rw [e, List.getElem?_set_self (by omega), if_pos (by omega)]; rfl
  · rw [List.getElem?_set_ne (by omega), h j]
    by_cases e2 : f ≤ j ∧ j < f + i
    · rw [if_pos e2, if_pos (by omega)]
    · rw [if_neg e2, if_neg (by omega)]
set_option maxRecDepth 100000 in
set_option maxHeartbeats 8000000 in
theorem cleared_lit (a0 a1 a2 a3 a4 a5 a6 a7 f n : Nat) (hn : f + n ≤ 8) (w : World) :
    Calls Tryd.prog 31 #[.agg #[.int .u16 a0, .int .u16 a1, .int .u16 a2, .int .u16 a3, .int .u16 a4, .int .u16 a5, .int .u16 a6, .int .u16 a7], .int .i64 (f : Int), .int .i64 (n : Int)] w fun e W' => (∃ X, Clr [a0, a1, a2, a3, a4, a5, a6, a7] X f n ∧ e = .returned (.agg (u16s X).toArray)) ∧ Below w.heap.size w W' := by
  obtain ⟨w1, hw1⟩ : ∃ w1, w.alloc (.cells #[.int .u16 a0, .int .u16 a1, .int .u16 a2, .int .u16 a3, .int .u16 a4, .int .u16 a5, .int .u16 a6, .int .u16 a7] 23) = w1 := ⟨_, rfl⟩
  obtain ⟨w3, hw3⟩ : ∃ w3, w1.alloc (.cells #[.int .u16 0, .int .u16 0, .int .u16 0, .int .u16 0, .int .u16 0, .int .u16 0, .int .u16 0, .int .u16 0] 23) = w3 := ⟨_, rfl⟩
  have hz1 : w1.heap.size = w.heap.size + 1 := by rw [← hw1]; simp
  have B1 : Below w1.heap.size w1 w3 := by rw [← hw3]; exact (Below.refl _ _).alloc (Nat.le_refl _) _
  have HA : Hid (w3.heap[w.heap.size]? = some (.cells (u16s [a0, a1, a2, a3, a4, a5, a6, a7]).toArray 23 (0, 0))) := by
    show _ = _
    rw [B1.block _ (by omega), ← hw1]
    exact box_in w _ _
  have HR : Hid (w3.heap[w.heap.size + 1]? = some (.cells (u16s z8).toArray 23 (0, 0))) := by
    show _ = _
    rw [← hw3, ← hz1]
    exact box_in w1 _ _
  have HBW : Hid (Below w.heap.size w w3) := by
    have B0 : Below w.heap.size w w1 := by rw [← hw1]; exact (Below.refl _ _).alloc (Nat.le_refl _) _
    exact B0.trans (B1.mono (by omega))
  have HW : Hid ((w.alloc (.cells #[.int .u16 a0, .int .u16 a1, .int .u16 a2, .int .u16 a3, .int .u16 a4, .int .u16 a5, .int .u16 a6, .int .u16 a7] 23)).alloc (.cells #[.int .u16 0, .int .u16 0, .int .u16 0, .int .u16 0, .int .u16 0, .int .u16 0, .int .u16 0, .int .u16 0] 23) = w3) := by
    show _ = _
    rw [hw1, hw3]
  clear hw1 hw3 B1 hz1
  have hlA : [a0, a1, a2, a3, a4, a5, a6, a7].length = 8 := rfl
  obtain ⟨A, hA⟩ : ∃ A, [a0, a1, a2, a3, a4, a5, a6, a7] = A := ⟨_, rfl⟩
  rw [hA] at hlA HA ⊢
  have HST := hid (Clr.start (f := f) hlA)
  clear hA hlA
  go_enter Tryd.func31, Tryd.ntmps31
  go_wp2_with fail
  rw [HW.out]
  obtain ⟨arg, harg⟩ : ∃ v : Value, Value.agg #[.int .u16 a0, .int .u16 a1, .int .u16 a2, .int .u16 a3, .int .u16 a4, .int .u16 a5, .int .u16 a6, .int .u16 a7] = v := ⟨_, rfl⟩
  rw [harg]
  clear HW harg
  go_loopw [9] (fun v9 wr => ∃ (i : Nat) (X : List Nat), i ≤ n ∧ v9 = .int .i64 (i : Int) ∧ Hid (Clr A X f i) ∧ Hid (wr.heap[w.heap.size]? = some (.cells (u16s X).toArray 23 (0, 0))) ∧ Hid (wr.heap[w.heap.size + 1]? = some (.cells (u16s z8).toArray 23 (0, 0))) ∧ Hid (Below w.heap.size w wr)) (fun v9 _ => n - (intOf v9).toNat)
  case atStart => exact ⟨0, A, by omega, rfl, HST, HA, HR, HBW⟩
  case round =>
    obtain ⟨i, X, hi, rfl, HE, HA, HR, HBW⟩ := hrel
    have HXL := hid HE.out.1
    by_cases hlt : i < n
    · have hltz : (i : Int) < (n : Int) := by omega
      have HE2 := hid (HE.out.step (by omega))
      obtain ⟨k, hk⟩ : ∃ k, f + i = k := ⟨_, rfl⟩
      have hkz : (f : Int) + (i : Int) = (k : Int) := by omega
      have hk8 : k < 8 := by omega
      have hk8z : (k : Int) < 8 := by omega
      rw [hk] at HE2
      have hdst := cell_row HA.out (j := k) (by rw [HXL.out]; exact hk8)
      have hfz := frozen_of_row wr w.heap.size k _ _ HA.out
      have HA2 : Hid ((wr.setCell ⟨w.heap.size, k, none⟩ (.int .u16 ((0 : Nat) : Int))).heap[w.heap.size]? = some (.cells (u16s (X.set k 0)).toArray 23 (0, 0))) := by
        show _ = _
        rw [heap_setCell_same wr _ k _ _ _ HA.out, arr_set]
      have HR2 : Hid ((wr.setCell ⟨w.heap.size, k, none⟩ (.int .u16 ((0 : Nat) : Int))).heap[w.heap.size + 1]? = some (.cells (u16s z8).toArray 23 (0, 0))) := (heap_setCell_other wr _ _ _ (by simp)).trans HR.out
      have HW2 := hid (HBW.out.setCell (p := ⟨w.heap.size, k, none⟩) (Nat.le_refl _) (.int .u16 ((0 : Nat) : Int)))
      clear HE hk
      go_wp2_with fail
      go_roundw
      case rel => exact ⟨i + 1, X.set k 0, by omega, by go_num, HE2, HA2, HR2, HW2⟩
      case measure => simp [intOf]; omega
    · have hiq : i = n := by omega
      have hltz : ¬ (i : Int) < (n : Int) := by omega
      have HE2 : Hid (Clr A X f n) := by rw [hiq] at HE; exact HE
      clear HE hiq
      go_wp2_with (first
        | (refine wpList_load_row rfl 23 (.tmp 3) rfl w.heap.size rfl 23 (u16s X).toArray (0, 0) _ HA.out Tryd.underlying23 rfl (info8X HXL.out) ?_)
        | (refine wpList_store_row rfl 23 (.tmp 6) (.tmp 17) rfl (w.heap.size + 1) (u16s X).toArray rfl rfl 23 (u16s z8).toArray HR.out (info8X HXL.out) ((size8 rfl).trans (size8 HXL.out).symm) (one16 X) ?_))
      exact bodyPost_ret (results_cell_row Tryd.results31 _ _ (w.heap.size + 1) 23 (u16s X).toArray (0, 0) _ rfl (set_row HR.out) Tryd.underlying23 rfl (info8X HXL.out)) rfl ⟨⟨X, HE2.out, rfl⟩, below_row HBW.out (by omega) _⟩
/-- Whether it is the same. -/
theorem clr_same {A X : List Nat} {f n : Nat} (hA : A.length = 8) (hn : f + n ≤ 8) (h : Clr A X f n) : X = A ↔ ∀ j, f ≤ j → j < f + n → nv A j = 0 := by
  have hv : ∀ j, j < 8 → nv A j = A[j]?.getD 0 := fun j hj => by unfold nv; rw [List.getElem?_eq_getElem (by omega)]; rfl
  constructor
  · intro e j h1 h2
    have := h.2 j
    rw [e, if_pos ⟨h1, h2⟩] at this
    rw [hv j (by omega)]; exact this
  · intro hz
    refine ext8 h.1 hA (fun j hj => ?_)
    rw [h.2 j]
    split
    · rename_i hj2
      rw [← hv j hj, hz j hj2.1 hj2.2]
    · rfl
theorem cleared_any (A : List Nat) (hA : A.length = 8) (f n : Nat) (hn : f + n ≤ 8) (w : World) :
    Calls Tryd.prog 31 #[.agg (u16s A).toArray, .int .i64 (f : Int), .int .i64 (n : Int)] w fun e W' => (∃ X, X.length = 8 ∧ (X = A ↔ ∀ j, f ≤ j → j < f + n → nv A j = 0) ∧ e = .returned (.agg (u16s X).toArray)) ∧ Below w.heap.size w W' := by
  obtain ⟨a0, a1, a2, a3, a4, a5, a6, a7, rfl⟩ := lit8 hA
  refine (cleared_lit a0 a1 a2 a3 a4 a5 a6 a7 f n hn w).mono ?_
  rintro e W' ⟨⟨X, h, rfl⟩, hB⟩
  exact ⟨⟨X, h.1, clr_same rfl hn h, rfl⟩, hB⟩
/-! ### The longest row -/
def st (a : List Nat) (i : Nat) : Nat × Nat := if (bs a i).1 < 0 then (0, 0) else ((bs a i).1.toNat, (bs a i).2)
theorem st_bd (a : List Nat) (h8 : a.length = 8) (i : Nat) (hi : i ≤ 8) : (st a i).1 ≤ 8 ∧ (st a i).2 ≤ 8 ∧ ((st a i).2 = 0 ∨ 2 ≤ (st a i).2) ∧ (st a i).1 + (st a i).2 ≤ 8 := by
  unfold st
  rcases bs_inv a i with ⟨h1, h2, _⟩ | ⟨p, h0, h1, h2, h3⟩
  · rw [h1, if_pos (by decide)]; simp
  · have := zr_le a p
    rw [h1, h2, if_neg (by omega)]
    simp only [Int.toNat_natCast]
    omega
theorem st_step (a : List Nat) (i : Nat) : st a (i + 1) = if (st a i).2 < zr a i ∧ 2 ≤ zr a i then (i, zr a i) else st a i := by
  unfold st
  rw [bs]
  rcases bs_inv a i with ⟨h1, h2, h3⟩ | ⟨p, h0, h1, h2, h3⟩
  · rw [h1, h2, if_pos (show (-1 : Int) < 0 by decide)]
    by_cases h : 1 < zr a i
    · rw [if_pos h, if_neg (by simp), if_pos ⟨by simp; omega, by omega⟩]; simp
    · rw [if_neg h, h1, if_pos (by decide), if_neg (by omega)]
  · rw [h1, h2, if_neg (show ¬ ((p : Int) < 0) by omega)]
    by_cases h : zr a p < zr a i
    · rw [if_pos h, if_neg (by simp), if_pos ⟨h, by omega⟩]; simp
    · rw [if_neg h, h1, h2, if_neg (by omega), if_neg (fun hh => h hh.1)]
theorem zr_all {a : List Nat} {i n : Nat} (h8 : a.length = 8) (hn : i + n ≤ 8) : n ≤ zr a i ↔ ∀ j, i ≤ j → j < i + n → nv a j = 0 := by
  constructor
  · intro h j h1 h2
    have := zr_zero (a := a) (i := i) (j := j - i) (by omega)
    rwa [show i + (j - i) = j by omega] at this
  · intro h
    by_cases hle : n ≤ zr a i
    · exact hle
    · exfalso
      have hz := zr_le a i
      have h1 : nv a (i + zr a i) = 0 := h _ (by omega) (by omega)
      -- the row ends where something else stands
      have h2 : zr a i = zr a i + 1 := by
        have key : ∀ (l : List Nat), (l.takeWhile (fun v => decide (v = 0))).length < l.length → nv l (l.takeWhile (fun v => decide (v = 0))).length ≠ 0 := by
          intro l
          induction l with
          | nil => intro h; simp at h
          | cons v l ih =>
            intro hl
            by_cases hv : v = 0
            · rw [List.takeWhile_cons_of_pos (by simpa using hv)] at hl ⊢
              simp only [List.length_cons] at hl ⊢
              have := ih (by omega)
              simpa [nv] using this
            · rw [List.takeWhile_cons_of_neg (by simpa using hv)]
              simpa [nv] using hv
        have h3 := key (a.drop i) (by rw [List.length_drop]; unfold zr at hle; omega)
        rw [nv_drop] at h3
        exact absurd h1 h3
      omega
/-- While n is tried. -/
def up (a : List Nat) (i n : Nat) : Nat × Nat := if (st a i).2 < n - 1 ∧ 2 ≤ n - 1 then (i, n - 1) else st a i
theorem up_start (a : List Nat) (i : Nat) : up a i 2 = st a i := by unfold up; rw [if_neg (by omega)]
theorem up_more {a : List Nat} {i n : Nat} (hn : 2 ≤ n) : up a i (n + 1) = if (up a i n).2 < n then (i, n) else up a i n := by
  unfold up
  simp only [Nat.add_sub_cancel]
  by_cases h : (st a i).2 < n - 1 ∧ 2 ≤ n - 1
  · rw [if_pos h, if_pos ⟨by omega, hn⟩, if_pos (by show n - 1 < n; omega)]
  · rw [if_neg h]
    by_cases h2 : (st a i).2 < n
    · rw [if_pos ⟨h2, hn⟩, if_pos h2]
    · rw [if_neg (fun hh => h2 hh.1), if_neg h2]
theorem up_end {a : List Nat} {i n : Nat} (hn : 2 ≤ n) (h1 : n = 2 ∨ n - 1 ≤ zr a i) (h2 : zr a i < n) : up a i n = st a (i + 1) := by
  rw [st_step]
  unfold up
  rcases h1 with rfl | h1
  · rw [if_neg (by omega), if_neg (by omega)]
  · have e : zr a i = n - 1 := by omega
    rw [e]
end Go.Proofs.YtpkmpebhlolhaaaDoor.X
