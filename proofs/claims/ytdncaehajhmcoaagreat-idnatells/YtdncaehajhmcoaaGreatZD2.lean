/- Texts of one layer, one behind the other: DB. -/
import Derived.Test.YtdncaehajhmcoaaGreatZD1
import Derived.Shelf.SlSorted.Search
import Derived.Shelf.Lay
import Derived.Ground.SlsoProg
/- Found by halving: plain facts, and the contract of among. -/
namespace Go.Proofs
open Go.Shelf Go.RowKit Go.Lib Go.Sort
shelf_lay SlLaysO.n16 Slso 16 at Tryz as Tryz.search
end Go.Proofs
namespace Go.Proofs.YtdncaehajhmcoaaGreat.D
open Go.RowKit Go.Lib Go.Sort Go.Shelf
set_option linter.unusedVariables false

theorem hid' {p : Prop} (h : p) : Hid p := h
theorem below_drewN {B : Nat} {a w : World} (h : Below B a w) (n : Nat) : Below B a (w.drewN n) := ⟨h.os, h.tape, h.output, h.size, h.block⟩
/-- What is known of a code point in no row. -/
def zr : Rw := (0, 0, 0, 0, 0, 0, false, 0)
def inRow (r : Int) (x : Rw) : Bool := decide (x.1 ≤ r ∧ r ≤ x.2.1)
def pickR (d : List Rw) (r : Int) : Rw := (d.find? (inRow r)).getD zr
def rising : List Rw → Bool
  | [] => true
  | [x] => decide (x.1 ≤ x.2.1)
  | x :: y :: l => decide (x.1 ≤ x.2.1) && decide (x.2.1 < y.1) && rising (y :: l)
theorem rising_tail {x : Rw} {l : List Rw} (h : rising (x :: l) = true) : rising l = true := by
  cases l with
  | nil => rfl
  | cons y l => simp only [rising, Bool.and_eq_true] at h; exact h.2
theorem rising_all : ∀ {x : Rw} {l : List Rw}, rising (x :: l) = true → ∀ y ∈ l, x.2.1 < y.1 ∧ y.1 ≤ y.2.1
  | x, [], _, y, hy => by simp at hy
  | x, z :: l, h, y, hy => by
    have ht := rising_tail h
    simp only [rising, Bool.and_eq_true, decide_eq_true_eq] at h
    have hz : z.1 ≤ z.2.1 := by
      cases l with
      | nil => simpa [rising] using ht
      | cons u l => simp only [rising, Bool.and_eq_true, decide_eq_true_eq] at ht; exact ht.1.1
    rcases List.mem_cons.1 hy with rfl | hy
    · exact ⟨h.1.2, hz⟩
    · have := rising_all ht y hy
      exact ⟨by have := h.1.2; omega, this.2⟩
/-- How many rows end ahead of r. -/
def ahead (d : List Rw) (r : Int) : Nat := d.countP (fun x => !decide (r ≤ x.2.1))
theorem ahead_le (d : List Rw) (r : Int) : ahead d r ≤ d.length := List.countP_le_length
theorem pick_at : ∀ (d : List Rw) (r : Int), rising d = true →
    pickR d r = if h : ahead d r < d.length then (if r < (d[ahead d r]).1 then zr else d[ahead d r]) else zr
  | [], r, _ => by simp [pickR, ahead]
  | x :: l, r, h => by
    have ht := rising_tail h
    have ha := rising_all h
    by_cases hx : r ≤ x.2.1
    · have h0 : ahead (x :: l) r = 0 := by
        unfold ahead
        rw [List.countP_eq_zero]
        intro y hy
        rcases List.mem_cons.1 hy with rfl | hy
        · simpa using hx
        · have := ha y hy
          have : r ≤ y.2.1 := by omega
          simpa using this
      have hl : ahead (x :: l) r < (x :: l).length := by rw [h0]; simp
      rw [dif_pos hl]
      have he : (x :: l)[ahead (x :: l) r] = x := by simp [h0]
      rw [he]
      by_cases hlo : r < x.1
      · rw [if_pos hlo]
        have : (x :: l).find? (inRow r) = none := by
          rw [List.find?_eq_none]
          intro y hy
          rcases List.mem_cons.1 hy with rfl | hy
          · simp [inRow]; omega
          · have := ha y hy
            simp [inRow]; omega
        unfold pickR; rw [this]; rfl
      · rw [if_neg hlo]
        unfold pickR
        rw [List.find?_cons_of_pos (by simp [inRow]; omega)]
        rfl
    · have h1 : ahead (x :: l) r = ahead l r + 1 := by
        unfold ahead
        rw [List.countP_cons_of_pos (by simpa using hx)]
      have hp : pickR (x :: l) r = pickR l r := by
        unfold pickR
        rw [List.find?_cons_of_neg (by simp [inRow]; omega)]
      rw [hp, pick_at l r ht]
      by_cases hl : ahead l r < l.length
      · have hl' : ahead (x :: l) r < (x :: l).length := by rw [h1]; simpa using hl
        have he : (x :: l)[ahead (x :: l) r] = l[ahead l r] := by simp [h1]
        rw [dif_pos hl, dif_pos hl', he]
      · rw [dif_neg hl, dif_neg (by rw [h1]; simpa using hl)]
theorem flat8_len (l : List Rw) : (flat8 l).length = l.length * 8 := by
  induction l with
  | nil => rfl
  | cons s l ih => simp only [flat8, List.flatMap_cons, List.length_append, List.length_cons] at ih ⊢; rw [ih]; simp [cells8]; omega
theorem flat8_get (l : List Rw) : ∀ j i, j < l.length → i < 8 → (flat8 l)[j * 8 + i]? = (cells8 (l[j]?.getD zr))[i]? := by
  induction l with
  | nil => intro j i hj; simp at hj
  | cons s l ih =>
    intro j i hj hi
    have e : flat8 (s :: l) = cells8 s ++ flat8 l := rfl
    have hl8 : (cells8 s).length = 8 := rfl
    rcases j with _ | j
    · rw [e, List.getElem?_append_left (by omega)]
      simp
    · have h := ih j i (by simpa using hj) hi
      rw [e, List.getElem?_append_right (by omega), hl8, show (j + 1) * 8 + i - 8 = j * 8 + i by omega, h]
      simp
/-- A block that holds rows, from its beginning on. -/
def RowsIn (w : World) (b : Nat) (d : List Rw) : Prop := ∃ t, w.heap[b]? = some (.cells (flat8 d).toArray t)
theorem RowsIn.cell {w : World} {b : Nat} {d : List Rw} (h : RowsIn w b d) (j i : Nat) (hj : j < d.length) (hi : i < 8) : w.cell? ⟨b, j * 8 + i, none⟩ = (cells8 (d[j]?.getD zr))[i]? := by
  obtain ⟨t, h⟩ := h
  rw [cell_of_row w b _ _ t (0, 0) h, ← flat8_get d j i hj hi]
  simp
theorem RowsIn.below {A B : World} {n : Nat} {b : Nat} {d : List Rw} (h : RowsIn A b d) (hb : Below n A B) (hn : b < n) : RowsIn B b d := by
  obtain ⟨t, h⟩ := h
  exact ⟨t, (hb.block b hn).trans h⟩

set_option maxRecDepth 100000 in
set_option maxHeartbeats 1600000 in
theorem amongc_any (bl br blk cap i : Nat) (d : List Rw) (r : Int) (W : World) (hi : i < d.length) (hlen : d.length ≤ 1000)
    (hl : W.cell? ⟨bl, 0, none⟩ = some (.slice (some ⟨blk, 0, none⟩) d.length cap)) (hr : W.cell? ⟨br, 0, none⟩ = some (.int .i32 r)) (hc : W.cell? ⟨blk, i * 8 + 1, none⟩ = some (.int .i32 (d[i]?.getD zr).2.1)) :
    Calls Tryz.prog 156 (#[.int .i64 i] ++ #[.pointer (some ⟨br, 0, none⟩), .pointer (some ⟨bl, 0, none⟩)]) W fun e w' => e = .returned (.bool (decide (r ≤ (d[i]?.getD zr).2.1))) ∧ ∃ q, w' = W.drewN q := by
  generalize (d[i]?.getD zr).2.1 = y at hc ⊢
  have hiz : (i : Int) < (d.length : Int) := by omega
  go_enter Tryz.func156, Tryz.ntmps156
  go_wp2
  go_region
  all_goals go_wp2
  all_goals go_ret
  all_goals exact ⟨by first | rfl | simp, 1, rfl⟩

theorem below_setRow {B : Nat} {w w1 : World} {g : Nat} {cs : Array Value} (h : Below B w w1) (hg : B ≤ g) : Below B w (w1.setRow g cs) :=
  ⟨h.os, h.tape, h.output, by have := h.size; simpa using this, fun i hi => by rw [setRow_other w1 g i cs (by omega)]; exact h.block i hi⟩
theorem mono_hi {d : List Rw} {r : Int} (hd : rising d = true) {a b : Nat} (hab : a ≤ b) (hb : b < d.length) (h : decide (r ≤ (d[a]?.getD zr).2.1) = true) : decide (r ≤ (d[b]?.getD zr).2.1) = true := by
  induction d generalizing a b with
  | nil => simp at hb
  | cons x l ih =>
    have ht := rising_tail hd
    rcases b with _ | b
    · obtain rfl : a = 0 := by omega
      exact h
    · rcases a with _ | a
      · have hb' : b < l.length := by simpa using hb
        have := rising_all hd (l[b]) (List.getElem_mem hb')
        simp only [List.getElem?_cons_zero, Option.getD_some, decide_eq_true_eq, List.getElem?_cons_succ, List.getElem?_eq_getElem hb'] at h ⊢
        omega
      · simp only [List.getElem?_cons_succ] at h ⊢
        exact ih ht (by omega) (by simpa using hb) h
theorem countP_ahead (d : List Rw) (r : Int) : (List.range d.length).countP (fun i => !decide (r ≤ (d[i]?.getD zr).2.1)) = ahead d r := by
  have : (List.range d.length).map (fun i => d[i]?.getD zr) = d := by
    apply List.ext_getElem
    · simp
    · intro i h1 h2
      simp [List.getElem?_eq_getElem h2]
  unfold ahead
  conv => rhs; rw [← this, List.countP_map]
  rfl

set_option maxRecDepth 100000 in
set_option maxHeartbeats 1600000 in
theorem among_any (blk cap : Nat) (d : List Rw) (r : Int) (w : World) (hlen : d.length ≤ 1000) (hd : rising d = true) (hR : RowsIn w blk d) :
    Calls Tryz.prog 111 #[.slice (some ⟨blk, 0, none⟩) d.length cap, .int .i32 r] w fun e W' => e = .returned (.agg (cells8 (pickR d r)).toArray) ∧ Below w.heap.size w W' := by
  have hblk : blk < w.heap.size := by obtain ⟨t, h⟩ := hR; exact (Array.getElem?_eq_some_iff.1 h).1
  obtain ⟨z, hz⟩ : ∃ z : Array Value, z = #[.int .i32 0, .int .i32 0, .int .u8 0, .int .u8 0, .int .u8 0, .int .u8 0, .bool false, .int .u8 0] := ⟨_, rfl⟩
  obtain ⟨W0, hW0⟩ : ∃ W0, W0 = ((w.alloc (.cells #[.slice (some ⟨blk, 0, none⟩) d.length cap] 130)).alloc (.cells #[.int .i32 r] 21)).alloc (.cells #[.int .i32 0, .int .i32 0, .int .u8 0, .int .u8 0, .int .u8 0, .int .u8 0, .bool false, .int .u8 0] 98) := ⟨_, rfl⟩
  have hsize : W0.heap.size = w.heap.size + 1 + 1 + 1 := by rw [hW0]; simp
  have ca : W0.cell? ⟨w.heap.size, 0, none⟩ = some (.slice (some ⟨blk, 0, none⟩) d.length cap) := by rw [hW0]; exact cell_alloc_sl _ (cell_alloc_sl _ (cell_new_sl w _ _))
  have cx : W0.cell? ⟨w.heap.size + 1, 0, none⟩ = some (.int .i32 r) := by rw [hW0]; have := cell_new_sl (w.alloc (.cells #[.slice (some ⟨blk, 0, none⟩) d.length cap] 130)) (.int .i32 r) 21; rw [World.size_alloc] at this; exact cell_alloc_sl _ this
  have hB0 : Below w.heap.size w W0 := by rw [hW0]; exact (((Below.refl _ w).alloc (Nat.le_refl _) _).alloc (by simp) _).alloc (by simp; omega) _
  have hR0 := hR.below hB0 hblk
  have cz : W0.heap[w.heap.size + 2]? = some (.cells z 98) := by rw [hW0, hz]; have := heap_alloc_last ((w.alloc (.cells #[.slice (some ⟨blk, 0, none⟩) d.length cap] 130)).alloc (.cells #[.int .i32 r] 21)) (.cells #[.int .i32 0, .int .i32 0, .int .u8 0, .int .u8 0, .int .u8 0, .int .u8 0, .bool false, .int .u8 0] 98); simpa using this
  have eg : ∀ args w, (callFunc 156 args).run Tryz.prog w = .ok (.enter 156 args) w := enters_of Tryz.func156 (by kernel_rfl) rfl
  have hS := Any.sort_Search Tryz.search 156 #[.pointer (some ⟨w.heap.size + 1, 0, none⟩), .pointer (some ⟨w.heap.size, 0, none⟩)] d.length (fun i => decide (r ≤ (d[i]?.getD zr).2.1)) W0 eg (by omega)
    (fun m os i hi => (amongc_any w.heap.size (w.heap.size + 1) blk cap i d r _ hi hlen (cell_grown (by simp [hsize]; omega) ca m os) (cell_grown (by simp [hsize]) cx m os) (cell_grown (by simp [hsize]; omega) ((hR0.cell i 1 hi (by omega)).trans rfl) m os)).mono
      fun _ _ ⟨he, q, hq⟩ => ⟨he, q, #[], by rw [hq, grow_empty]⟩) (fun a b hab hb h => mono_hi hd hab hb h)
  rw [countP_ahead] at hS
  change Calls Tryz.prog 155 _ _ _ at hS
  have hpk := pick_at d r hd
  obtain ⟨A, hA⟩ : ∃ A, A = ahead d r := ⟨_, rfl⟩
  have hA1 : A ≤ d.length := by rw [hA]; exact ahead_le d r
  rw [← hA] at hS
  have HS := hid' hS
  have HA := hid' hA
  clear hS hA hR
  go_enter Tryz.func111, Tryz.ntmps111
  go_wp2_with fail
  rw [← hW0]
  refine HS.out.mono ?_
  rintro e w1 ⟨rfl, q, os, hw1⟩
  have hB1 : Below W0.heap.size W0 w1 := by rw [hw1]; exact below_grown_sl _ W0 q os (Nat.le_refl _)
  have ca1 : w1.cell? ⟨w.heap.size, 0, none⟩ = some (.slice (some ⟨blk, 0, none⟩) d.length cap) := by rw [hw1]; exact cell_grown (by simp [hsize]; omega) ca q os
  have cx1 : w1.cell? ⟨w.heap.size + 1, 0, none⟩ = some (.int .i32 r) := by rw [hw1]; exact cell_grown (by simp [hsize]) cx q os
  have hR1 : RowsIn w1 blk d := hR0.below hB1 (by omega)
  have cz1 : w1.heap[w.heap.size + 2]? = some (.cells z 98) := (hB1.block _ (by omega)).trans cz
  have hBw : Below w.heap.size w w1 := hB0.trans (hB1.mono (by omega))
  have hz8 : z.size = 8 := by rw [hz]; rfl
  have HZ := hid' hz8
  have HCZ := hid' cz1
  have HR1 := hid' hR1
  have HB := hid' hBw
  have HP := hid' hpk
  have HI : Hid ((Tryz.prog.info? 98).map (·.size) = some 8) := by show _ = _; kernel_rfl
  have hfin : ∀ (cs : Array Value) (tm : Array Value) (n : Nat), tm.getD 4 undef = .pointer (some ⟨w.heap.size + 2, 0, none⟩) → cs.size = 8 → (results Tryz.f111 tm).run Tryz.prog ((w1.drewN n).setRow (w.heap.size + 2) cs) = .ok (.agg cs) ((w1.drewN n).setRow (w.heap.size + 2) cs) := by
    intro cs tm n h1 h2
    exact results_cell_row Tryz.results111 tm _ (w.heap.size + 2) 98 cs (0, 0) _ h1 (setRow_heap (w1.drewN n) _ z cs 98 (0, 0) HCZ.out) Tryz.underlying98 rfl (by rw [h2]; exact HI.out)
  have HF := hid' hfin
  have hbl : ∀ (cs : Array Value) (n : Nat), Below w.heap.size w ((w1.drewN n).setRow (w.heap.size + 2) cs) := by
    intro cs n
    exact below_setRow (below_drewN hBw n) (by omega)
  have HBL := hid' hbl
  clear hbl hfin hw1 ca cx hR0 cz eg HS hB1 hR1 hBw hpk hz8 hz cz1 hB0
  by_cases hlt : A < d.length
  · have hlt' : (A : Int) < (d.length : Int) := by omega
    have hne : ((A : Int) == (d.length : Int)) = false := by simp; omega
    obtain ⟨x, hx⟩ : ∃ x, x = d[A]?.getD zr := ⟨_, rfl⟩
    have hcells := fun j hj => HR1.out.cell A j hlt hj
    rw [← hx] at hcells
    have HP2 : Hid (pickR d r = if r < x.1 then zr else x) := by
      have e : ahead d r = A := HA.out.symm
      have := HP.out
      simp only [e] at this
      rw [dif_pos hlt] at this
      have e2 : d[A] = x := by rw [hx, List.getElem?_eq_getElem hlt]; rfl
      rw [e2] at this
      exact this
    obtain ⟨x0, x1, x2, x3, x4, x5, x6, x7⟩ := x
    have c0 : w1.cell? ⟨blk, A * 8, none⟩ = some (.int .i32 x0) := hcells 0 (by omega)
    have c1 : w1.cell? ⟨blk, A * 8 + 1, none⟩ = some (.int .i32 x1) := hcells 1 (by omega)
    have c2 : w1.cell? ⟨blk, A * 8 + 2, none⟩ = some (.int .u8 x2) := hcells 2 (by omega)
    have c3 : w1.cell? ⟨blk, A * 8 + 3, none⟩ = some (.int .u8 x3) := hcells 3 (by omega)
    have c4 : w1.cell? ⟨blk, A * 8 + 4, none⟩ = some (.int .u8 x4) := hcells 4 (by omega)
    have c5 : w1.cell? ⟨blk, A * 8 + 5, none⟩ = some (.int .u8 x5) := hcells 5 (by omega)
    have c6 : w1.cell? ⟨blk, A * 8 + 6, none⟩ = some (.bool x6) := hcells 6 (by omega)
    have c7 : w1.cell? ⟨blk, A * 8 + 7, none⟩ = some (.int .u8 x7) := hcells 7 (by omega)
    clear hcells hx HP HA HR1
    by_cases hlo : r < x0
    · have hlob : decide (r < x0) = true := by simpa using hlo
      have HG : Hid (pickR d r = zr) := by show _ = _; rw [HP2.out, if_pos hlo]
      clear HP2
      go_wp2_with fail
      go_quiet (fail)
      go_wp2_with ((refine wpList_store_row rfl 98 (.tmp 4) (.tmp 23) rfl (w.heap.size + 1 + 1) #[.int .i32 0, .int .i32 0, .int .u8 0, .int .u8 0, .int .u8 0, .int .u8 0, .bool false, .int .u8 0] rfl rfl 98 z (by exact HCZ.out) (by exact HI.out) (by exact HZ.out) (by kernel_rfl) (wpList_nil ?_)))
      refine bodyPost_ret (HF.out _ _ _ rfl rfl) rfl ⟨by rw [HG.out]; rfl, HBL.out _ _⟩
    · have hlob : decide (r < x0) = false := by simpa using hlo
      have HG : Hid (pickR d r = (x0, x1, x2, x3, x4, x5, x6, x7)) := by show _ = _; rw [HP2.out, if_neg hlo]
      clear HP2
      go_wp2_with fail
      go_quiet (fail)
      go_wp2_with ((refine wpList_store_row rfl 98 (.tmp 4) (.tmp 27) rfl (w.heap.size + 1 + 1) #[.int .i32 x0, .int .i32 x1, .int .u8 x2, .int .u8 x3, .int .u8 x4, .int .u8 x5, .bool x6, .int .u8 x7] rfl rfl 98 z (by exact HCZ.out) (by exact HI.out) (by exact HZ.out) (by kernel_rfl) (wpList_nil ?_)))
      refine bodyPost_ret (HF.out _ _ _ rfl rfl) rfl ⟨by rw [HG.out]; rfl, HBL.out _ _⟩
  · have hnl : ¬ (A : Int) < (d.length : Int) := by omega
    have hne : ((A : Int) == (d.length : Int)) = true := by simp; omega
    have HG : Hid (pickR d r = zr) := by
      have e : ahead d r = A := HA.out.symm
      have := HP.out
      simp only [e] at this
      rw [dif_neg hlt] at this
      exact this
    clear HP HA HR1
    go_wp2_with fail
    go_quiet (fail)
    go_wp2_with ((refine wpList_store_row rfl 98 (.tmp 4) (.tmp 23) rfl (w.heap.size + 1 + 1) #[.int .i32 0, .int .i32 0, .int .u8 0, .int .u8 0, .int .u8 0, .int .u8 0, .bool false, .int .u8 0] rfl rfl 98 z (by exact HCZ.out) (by exact HI.out) (by exact HZ.out) (by kernel_rfl) (wpList_nil ?_)))
    refine bodyPost_ret (HF.out _ _ _ rfl rfl) rfl ⟨by rw [HG.out]; rfl, HBL.out _ _⟩
end Go.Proofs.YtdncaehajhmcoaaGreat.D
