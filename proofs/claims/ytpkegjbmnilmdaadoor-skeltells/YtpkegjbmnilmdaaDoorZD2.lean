/- Texts of one layer, one behind the other: DB DC. -/
import Derived.Test.YtpkegjbmnilmdaaDoorZD1
import Derived.Shelf.SlSorted.Search
import Derived.Shelf.Lay
import Derived.Ground.SlsoProg
/- Found by halving: plain facts, and the contract of among. -/
namespace Go.Proofs
open Go.Shelf Go.RowKit Go.Lib Go.Sort
shelf_lay SlLaysO.n16 Slso 16 at Tryd as Tryd.search
end Go.Proofs
namespace Go.Proofs.YtpkegjbmnilmdaaDoor.D
open Go.RowKit Go.Lib Go.Sort Go.Shelf
set_option linter.unusedVariables false

theorem hid' {p : Prop} (h : p) : Hid p := h
theorem below_drewN {B : Nat} {a w : World} (h : Below B a w) (n : Nat) : Below B a (w.drewN n) := ⟨h.os, h.tape, h.output, h.size, h.block⟩
/-- What is known of a code point in no row. -/
def zr : Rw := (0, 0, 0, 0, 0, 0, false, 0)
def inRow (r : Int) (x : Rw) : Bool := decide (x.1 ≤ r ∧ r ≤ x.2.1)
def pickR (d : List Rw) (r : Int) : Rw := (d.find? (inRow r)).getD zr
def rising : List Rw → Bool
  | [] => true
  | [x] => decide (x.1 ≤ x.2.1)
  | x :: y :: l => decide (x.1 ≤ x.2.1) && decide (x.2.1 < y.1) && rising (y :: l)
theorem rising_tail {x : Rw} {l : List Rw} (h : rising (x :: l) = true) : rising l = true := by
  cases l with
  | nil => rfl
  | cons y l => simp only [rising, Bool.and_eq_true] at h; exact h.2
theorem rising_all : ∀ {x : Rw} {l : List Rw}, rising (x :: l) = true → ∀ y ∈ l, x.2.1 < y.1 ∧ y.1 ≤ y.2.1
  | x, [], _, y, hy => by simp at hy
  | x, z :: l, h, y, hy => by
    have ht := rising_tail h
    simp only [rising, Bool.and_eq_true, decide_eq_true_eq] at h
    have hz : z.1 ≤ z.2.1 := by
      cases l with
      | nil => simpa [rising] using ht
      | cons u l => simp only [rising, Bool.and_eq_true, decide_eq_true_eq] at ht; exact ht.1.1
    rcases List.mem_cons.1 hy with rfl | hy
    · exact ⟨h.1.2, hz⟩
    · have := rising_all ht y hy
      exact ⟨by have := h.1.2; omega, this.2⟩
/-- How many rows end ahead of r. -/
def ahead (d : List Rw) (r : Int) : Nat := d.countP (fun x => !decide (r ≤ x.2.1))
theorem ahead_le (d : List Rw) (r : Int) : ahead d r ≤ d.length := List.countP_le_length
theorem pick_at : ∀ (d : List Rw) (r : Int), rising d = true →
    pickR d r = if h : ahead d r < d.length then (if r < (d[ahead d r]).1 then zr else d[ahead d r]) else zr
  | [], r, _ => by simp [pickR, ahead]
  | x :: l, r, h => by
    have ht := rising_tail h
    have ha := rising_all h
    by_cases hx : r ≤ x.2.1
    · have h0 : ahead (x :: l) r = 0 := by
        unfold ahead
        rw [List.countP_eq_zero]
        intro y hy
        rcases List.mem_cons.1 hy with rfl | hy
        · simpa using hx
        · have := ha y hy
          have : r ≤ y.2.1 := by omega
          simpa using this
      have hl : ahead (x :: l) r < (x :: l).length := by rw [h0]; simp
      rw [dif_pos hl]
      have he : (x :: l)[ahead (x :: l) r] = x := by simp [h0]
      rw [he]
      by_cases hlo : r < x.1
      · rw [if_pos hlo]
        have : (x :: l).find? (inRow r) = none := by
          rw [List.find?_eq_none]
          intro y hy
          rcases List.mem_cons.1 hy with rfl | hy
          · simp [inRow]; omega
          · have := ha y hy
            simp [inRow]; omega
        unfold pickR; rw [this]; rfl
      · rw [if_neg hlo]
        unfold pickR
        rw [List.find?_cons_of_pos (by simp [inRow]; omega)]
        rfl
    · have h1 : ahead (x :: l) r = ahead l r + 1 := by
        unfold ahead
        rw [List.countP_cons_of_pos (by simpa using hx)]
      have hp : pickR (x :: l) r = pickR l r := by
        unfold pickR
        rw [List.find?_cons_of_neg (by simp [inRow]; omega)]
      rw [hp, pick_at l r ht]
      by_cases hl : ahead l r < l.length
      · have hl' : ahead (x :: l) r < (x :: l).length := by rw [h1]; simpa using hl
        have he : (x :: l)[ahead (x :: l) r] = l[ahead l r] := by simp [h1]
        rw [dif_pos hl, dif_pos hl', he]
      · rw [dif_neg hl, dif_neg (by rw [h1]; simpa using hl)]
theorem flat8_len (l : List Rw) : (flat8 l).length = l.length * 8 := by
  induction l with
  | nil => rfl
  | cons s l ih => simp only [flat8, List.flatMap_cons, List.length_append, List.length_cons] at ih ⊢; rw [ih]; simp [cells8]; omega
theorem flat8_get (l : List Rw) : ∀ j i, j < l.length → i < 8 → (flat8 l)[j * 8 + i]? = (cells8 (l[j]?.getD zr))[i]? := by
  induction l with
  | nil => intro j i hj; simp at hj
  | cons s l ih =>
    intro j i hj hi
    have e : flat8 (s :: l) = cells8 s ++ flat8 l := rfl
    have hl8 : (cells8 s).length = 8 := rfl
    rcases j with _ | j
    · rw [e, List.getElem?_append_left (by omega)]
      simp
    · have h := ih j i (by simpa using hj) hi
      rw [e, List.getElem?_append_right (by omega), hl8, show (j + 1) * 8 + i - 8 = j * 8 + i by omega, h]
      simp
/-- A block that holds rows, from its beginning on. -/
def RowsIn (w : World) (b : Nat) (d : List Rw) : Prop := ∃ t, w.heap[b]? = some (.cells (flat8 d).toArray t)
theorem RowsIn.cell {w : World} {b : Nat} {d : List Rw} (h : RowsIn w b d) (j i : Nat) (hj : j < d.length) (hi : i < 8) : w.cell? ⟨b, j * 8 + i, none⟩ = (cells8 (d[j]?.getD zr))[i]? := by
  obtain ⟨t, h⟩ := h
  rw [cell_of_row w b _ _ t (0, 0) h, ← flat8_get d j i hj hi]
  simp
theorem RowsIn.below {A B : World} {n : Nat} {b : Nat} {d : List Rw} (h : RowsIn A b d) (hb : Below n A B) (hn : b < n) : RowsIn B b d := by
  obtain ⟨t, h⟩ := h
  exact ⟨t, (hb.block b hn).trans h⟩

set_option maxRecDepth 100000 in
set_option maxHeartbeats 1600000 in
theorem amongc_any (bl br blk cap i : Nat) (d : List Rw) (r : Int) (W : World) (hi : i < d.length) (hlen : d.length ≤ 1000)
    (hl : W.cell? ⟨bl, 0, none⟩ = some (.slice (some ⟨blk, 0, none⟩) d.length cap)) (hr : W.cell? ⟨br, 0, none⟩ = some (.int .i32 r)) (hc : W.cell? ⟨blk, i * 8 + 1, none⟩ = some (.int .i32 (d[i]?.getD zr).2.1)) :
    Calls Tryd.prog 86 (#[.int .i64 i] ++ #[.pointer (some ⟨br, 0, none⟩), .pointer (some ⟨bl, 0, none⟩)]) W fun e w' => e = .returned (.bool (decide (r ≤ (d[i]?.getD zr).2.1))) ∧ ∃ q, w' = W.drewN q := by
  generalize (d[i]?.getD zr).2.1 = y at hc ⊢
  have hiz : (i : Int) < (d.length : Int) := by omega
  go_enter Tryd.func86, Tryd.ntmps86
  go_wp2
  go_region
  all_goals go_wp2
  all_goals go_ret
  all_goals exact ⟨by first | rfl | simp, 1, rfl⟩

theorem below_setRow {B : Nat} {w w1 : World} {g : Nat} {cs : Array Value} (h : Below B w w1) (hg : B ≤ g) : Below B w (w1.setRow g cs) :=
  ⟨h.os, h.tape, h.output, by have := h.size; simpa using this, fun i hi => by rw [setRow_other w1 g i cs (by omega)]; exact h.block i hi⟩
theorem mono_hi {d : List Rw} {r : Int} (hd : rising d = true) {a b : Nat} (hab : a ≤ b) (hb : b < d.length) (h : decide (r ≤ (d[a]?.getD zr).2.1) = true) : decide (r ≤ (d[b]?.getD zr).2.1) = true := by
  induction d generalizing a b with
  | nil => simp at hb
  | cons x l ih =>
    have ht := rising_tail hd
    rcases b with _ | b
    · obtain rfl : a = 0 := by omega
      exact h
    · rcases a with _ | a
      · have hb' : b < l.length := by simpa using hb
        have := rising_all hd (l[b]) (List.getElem_mem hb')
        simp only [List.getElem?_cons_zero, Option.getD_some, decide_eq_true_eq, List.getElem?_cons_succ, List.getElem?_eq_getElem hb'] at h ⊢
        omega
      · simp only [List.getElem?_cons_succ] at h ⊢
        exact ih ht (by omega) (by simpa using hb) h
theorem countP_ahead (d : List Rw) (r : Int) : (List.range d.length).countP (fun i => !decide (r ≤ (d[i]?.getD zr).2.1)) = ahead d r := by
  have : (List.range d.length).map (fun i => d[i]?.getD zr) = d := by
    apply List.ext_getElem
    · simp
    · intro i h1 h2
      simp [List.getElem?_eq_getElem h2]
  unfold ahead
  conv => rhs; rw [← this, List.countP_map]
  rfl

set_option maxRecDepth 100000 in
set_option maxHeartbeats 1600000 in
theorem among_any (blk cap : Nat) (d : List Rw) (r : Int) (w : World) (hlen : d.length ≤ 1000) (hd : rising d = true) (hR : RowsIn w blk d) :
    Calls Tryd.prog 72 #[.slice (some ⟨blk, 0, none⟩) d.length cap, .int .i32 r] w fun e W' => e = .returned (.agg (cells8 (pickR d r)).toArray) ∧ Below w.heap.size w W' := by
  have hblk : blk < w.heap.size := by obtain ⟨t, h⟩ := hR; exact (Array.getElem?_eq_some_iff.1 h).1
  obtain ⟨z, hz⟩ : ∃ z : Array Value, z = #[.int .i32 0, .int .i32 0, .int .u8 0, .int .u8 0, .int .u8 0, .int .u8 0, .bool false, .int .u8 0] := ⟨_, rfl⟩
  obtain ⟨W0, hW0⟩ : ∃ W0, W0 = ((w.alloc (.cells #[.slice (some ⟨blk, 0, none⟩) d.length cap] 96)).alloc (.cells #[.int .i32 r] 21)).alloc (.cells #[.int .i32 0, .int .i32 0, .int .u8 0, .int .u8 0, .int .u8 0, .int .u8 0, .bool false, .int .u8 0] 83) := ⟨_, rfl⟩
  have hsize : W0.heap.size = w.heap.size + 1 + 1 + 1 := by rw [hW0]; simp
  have ca : W0.cell? ⟨w.heap.size, 0, none⟩ = some (.slice (some ⟨blk, 0, none⟩) d.length cap) := by rw [hW0]; exact cell_alloc_sl _ (cell_alloc_sl _ (cell_new_sl w _ _))
  have cx : W0.cell? ⟨w.heap.size + 1, 0, none⟩ = some (.int .i32 r) := by rw [hW0]; have := cell_new_sl (w.alloc (.cells #[.slice (some ⟨blk, 0, none⟩) d.length cap] 96)) (.int .i32 r) 21; rw [World.size_alloc] at this; exact cell_alloc_sl _ this
  have hB0 : Below w.heap.size w W0 := by rw [hW0]; exact (((Below.refl _ w).alloc (Nat.le_refl _) _).alloc (by simp) _).alloc (by simp; omega) _
  have hR0 := hR.below hB0 hblk
  have cz : W0.heap[w.heap.size + 2]? = some (.cells z 83) := by rw [hW0, hz]; have := heap_alloc_last ((w.alloc (.cells #[.slice (some ⟨blk, 0, none⟩) d.length cap] 96)).alloc (.cells #[.int .i32 r] 21)) (.cells #[.int .i32 0, .int .i32 0, .int .u8 0, .int .u8 0, .int .u8 0, .int .u8 0, .bool false, .int .u8 0] 83); simpa using this
  have eg : ∀ args w, (callFunc 86 args).run Tryd.prog w = .ok (.enter 86 args) w := enters_of Tryd.func86 (by kernel_rfl) rfl
  have hS := Any.sort_Search Tryd.search 86 #[.pointer (some ⟨w.heap.size + 1, 0, none⟩), .pointer (some ⟨w.heap.size, 0, none⟩)] d.length (fun i => decide (r ≤ (d[i]?.getD zr).2.1)) W0 eg (by omega)
    (fun m os i hi => (amongc_any w.heap.size (w.heap.size + 1) blk cap i d r _ hi hlen (cell_grown (by simp [hsize]; omega) ca m os) (cell_grown (by simp [hsize]) cx m os) (cell_grown (by simp [hsize]; omega) ((hR0.cell i 1 hi (by omega)).trans rfl) m os)).mono
      fun _ _ ⟨he, q, hq⟩ => ⟨he, q, #[], by rw [hq, grow_empty]⟩) (fun a b hab hb h => mono_hi hd hab hb h)
  rw [countP_ahead] at hS
  change Calls Tryd.prog 85 _ _ _ at hS
  have hpk := pick_at d r hd
  obtain ⟨A, hA⟩ : ∃ A, A = ahead d r := ⟨_, rfl⟩
  have hA1 : A ≤ d.length := by rw [hA]; exact ahead_le d r
  rw [← hA] at hS
  have HS := hid' hS
  have HA := hid' hA
  clear hS hA hR
  go_enter Tryd.func72, Tryd.ntmps72
  go_wp2_with fail
  rw [← hW0]
  refine HS.out.mono ?_
  rintro e w1 ⟨rfl, q, os, hw1⟩
  have hB1 : Below W0.heap.size W0 w1 := by rw [hw1]; exact below_grown_sl _ W0 q os (Nat.le_refl _)
  have ca1 : w1.cell? ⟨w.heap.size, 0, none⟩ = some (.slice (some ⟨blk, 0, none⟩) d.length cap) := by rw [hw1]; exact cell_grown (by simp [hsize]; omega) ca q os
  have cx1 : w1.cell? ⟨w.heap.size + 1, 0, none⟩ = some (.int .i32 r) := by rw [hw1]; exact cell_grown (by simp [hsize]) cx q os
  have hR1 : RowsIn w1 blk d := hR0.below hB1 (by omega)
  have cz1 : w1.heap[w.heap.size + 2]? = some (.cells z 83) := (hB1.block _ (by omega)).trans cz
  have hBw : Below w.heap.size w w1 := hB0.trans (hB1.mono (by omega))
  have hz8 : z.size = 8 := by rw [hz]; rfl
  have HZ := hid' hz8
  have HCZ := hid' cz1
  have HR1 := hid' hR1
  have HB := hid' hBw
  have HP := hid' hpk
  have HI : Hid ((Tryd.prog.info? 83).map (·.size) = some 8) := by show _ = _; kernel_rfl
  have hfin : ∀ (cs : Array Value) (tm : Array Value) (n : Nat), tm.getD 4 undef = .pointer (some ⟨w.heap.size + 2, 0, none⟩) → cs.size = 8 → (results Tryd.f72 tm).run Tryd.prog ((w1.drewN n).setRow (w.heap.size + 2) cs) = .ok (.agg cs) ((w1.drewN n).setRow (w.heap.size + 2) cs) := by
    intro cs tm n h1 h2
    exact results_cell_row Tryd.results72 tm _ (w.heap.size + 2) 83 cs (0, 0) _ h1 (setRow_heap (w1.drewN n) _ z cs 83 (0, 0) HCZ.out) Tryd.underlying83 rfl (by rw [h2]; exact HI.out)
  have HF := hid' hfin
  have hbl : ∀ (cs : Array Value) (n : Nat), Below w.heap.size w ((w1.drewN n).setRow (w.heap.size + 2) cs) := by
    intro cs n
    exact below_setRow (below_drewN hBw n) (by omega)
  have HBL := hid' hbl
  clear hbl hfin hw1 ca cx hR0 cz eg HS hB1 hR1 hBw hpk hz8 hz cz1 hB0
  by_cases hlt : A < d.length
  · have hlt' : (A : Int) < (d.length : Int) := by omega
    have hne : ((A : Int) == (d.length : Int)) = false := by simp; omega
    obtain ⟨x, hx⟩ : ∃ x, x = d[A]?.getD zr := ⟨_, rfl⟩
    have hcells := fun j hj => HR1.out.cell A j hlt hj
    rw [← hx] at hcells
    have HP2 : Hid (pickR d r = if r < x.1 then zr else x) := by
      have e : ahead d r = A := HA.out.symm
      have := HP.out
      simp only [e] at this
      rw [dif_pos hlt] at this
      have e2 : d[A] = x := by rw [hx, List.getElem?_eq_getElem hlt]; rfl
      rw [e2] at this
      exact this
    obtain ⟨x0, x1, x2, x3, x4, x5, x6, x7⟩ := x
    have c0 : w1.cell? ⟨blk, A * 8, none⟩ = some (.int .i32 x0) := hcells 0 (by omega)
    have c1 : w1.cell? ⟨blk, A * 8 + 1, none⟩ = some (.int .i32 x1) := hcells 1 (by omega)
    have c2 : w1.cell? ⟨blk, A * 8 + 2, none⟩ = some (.int .u8 x2) := hcells 2 (by omega)
    have c3 : w1.cell? ⟨blk, A * 8 + 3, none⟩ = some (.int .u8 x3) := hcells 3 (by omega)
    have c4 : w1.cell? ⟨blk, A * 8 + 4, none⟩ = some (.int .u8 x4) := hcells 4 (by omega)
    have c5 : w1.cell? ⟨blk, A * 8 + 5, none⟩ = some (.int .u8 x5) := hcells 5 (by omega)
    have c6 : w1.cell? ⟨blk, A * 8 + 6, none⟩ = some (.bool x6) := hcells 6 (by omega)
    have c7 : w1.cell? ⟨blk, A * 8 + 7, none⟩ = some (.int .u8 x7) := hcells 7 (by omega)
    clear hcells hx HP HA HR1
    by_cases hlo : r < x0
    · have hlob : decide (r < x0) = true := by simpa using hlo
      have HG : Hid (pickR d r = zr) := by show _ = _; rw [HP2.out, if_pos hlo]
      clear HP2
      go_wp2_with fail
      go_quiet (fail)
      go_wp2_with ((refine wpList_store_row rfl 83 (.tmp 4) (.tmp 23) rfl (w.heap.size + 1 + 1) #[.int .i32 0, .int .i32 0, .int .u8 0, .int .u8 0, .int .u8 0, .int .u8 0, .bool false, .int .u8 0] rfl rfl 83 z (by exact HCZ.out) (by exact HI.out) (by exact HZ.out) (by kernel_rfl) (wpList_nil ?_)))
      refine bodyPost_ret (HF.out _ _ _ rfl rfl) rfl ⟨by rw [HG.out]; rfl, HBL.out _ _⟩
    · have hlob : decide (r < x0) = false := by simpa using hlo
      have HG : Hid (pickR d r = (x0, x1, x2, x3, x4, x5, x6, x7)) := by show _ = _; rw [HP2.out, if_neg hlo]
      clear HP2
      go_wp2_with fail
      go_quiet (fail)
      go_wp2_with ((refine wpList_store_row rfl 83 (.tmp 4) (.tmp 27) rfl (w.heap.size + 1 + 1) #[.int .i32 x0, .int .i32 x1, .int .u8 x2, .int .u8 x3, .int .u8 x4, .int .u8 x5, .bool x6, .int .u8 x7] rfl rfl 83 z (by exact HCZ.out) (by exact HI.out) (by exact HZ.out) (by kernel_rfl) (wpList_nil ?_)))
      refine bodyPost_ret (HF.out _ _ _ rfl rfl) rfl ⟨by rw [HG.out]; rfl, HBL.out _ _⟩
  · have hnl : ¬ (A : Int) < (d.length : Int) := by omega
    have hne : ((A : Int) == (d.length : Int)) = true := by simp; omega
    have HG : Hid (pickR d r = zr) := by
      have e : ahead d r = A := HA.out.symm
      have := HP.out
      simp only [e] at this
      rw [dif_neg hlt] at this
      exact this
    clear HP HA HR1
    go_wp2_with fail
    go_quiet (fail)
    go_wp2_with ((refine wpList_store_row rfl 83 (.tmp 4) (.tmp 23) rfl (w.heap.size + 1 + 1) #[.int .i32 0, .int .i32 0, .int .u8 0, .int .u8 0, .int .u8 0, .int .u8 0, .bool false, .int .u8 0] rfl rfl 83 z (by exact HCZ.out) (by exact HI.out) (by exact HZ.out) (by kernel_rfl) (wpList_nil ?_)))
    refine bodyPost_ret (HF.out _ _ _ rfl rfl) rfl ⟨by rw [HG.out]; rfl, HBL.out _ _⟩
end Go.Proofs.YtpkegjbmnilmdaaDoor.D
/- The contract of find, and of the six that ask it for one thing. -/
namespace Go.Proofs.YtpkegjbmnilmdaaDoor.D
open Go.RowKit Go.Lib Go.Sort Go.Shelf
set_option linter.unusedVariables false

/-- The row of a code point. -/
def fnd (r : Int) : Rw := if r < 768 then pickR latin r else if r < 1424 then pickR greek r else if r < 7680 then pickR hebrew r else pickR later r
theorem rising_latin : rising latin = true := by decide
theorem rising_greek : rising greek = true := by decide
theorem rising_hebrew : rising hebrew = true := by decide
theorem rising_later : rising later = true := by decide
theorem slice52 (g : Nat) (W : World) : (Instr.sliceAt 93 (.pointer (some ⟨g, 0, none⟩)) none none none).run Tryd.prog W = .ok (.slice (some ⟨g, 0, none⟩) 19 19) W := by
  have hl : Tryd.prog.arrayLen 93 = 19 := by kernel_rfl
  rw [run_sliceAt_array_all W 93 ⟨g, 0, none⟩ (by kernel_rfl), hl]
  have hs : (sizeOf (Tryd.prog.elem 93)).run Tryd.prog W = .ok 8 W := by kernel_rfl
  rw [hs]
  simp only [Result.andThen, slicedAt]
  rfl
theorem slice56 (g : Nat) (W : World) : (Instr.sliceAt 97 (.pointer (some ⟨g, 0, none⟩)) none none none).run Tryd.prog W = .ok (.slice (some ⟨g, 0, none⟩) 24 24) W := by
  have hl : Tryd.prog.arrayLen 97 = 24 := by kernel_rfl
  rw [run_sliceAt_array_all W 97 ⟨g, 0, none⟩ (by kernel_rfl), hl]
  have hs : (sizeOf (Tryd.prog.elem 97)).run Tryd.prog W = .ok 8 W := by kernel_rfl
  rw [hs]
  simp only [Result.andThen, slicedAt]
  rfl
theorem slice58 (g : Nat) (W : World) : (Instr.sliceAt 99 (.pointer (some ⟨g, 0, none⟩)) none none none).run Tryd.prog W = .ok (.slice (some ⟨g, 0, none⟩) 15 15) W := by
  have hl : Tryd.prog.arrayLen 99 = 15 := by kernel_rfl
  rw [run_sliceAt_array_all W 99 ⟨g, 0, none⟩ (by kernel_rfl), hl]
  have hs : (sizeOf (Tryd.prog.elem 99)).run Tryd.prog W = .ok 8 W := by kernel_rfl
  rw [hs]
  simp only [Result.andThen, slicedAt]
  rfl
theorem slice60 (g : Nat) (W : World) : (Instr.sliceAt 101 (.pointer (some ⟨g, 0, none⟩)) none none none).run Tryd.prog W = .ok (.slice (some ⟨g, 0, none⟩) 30 30) W := by
  have hl : Tryd.prog.arrayLen 101 = 30 := by kernel_rfl
  rw [run_sliceAt_array_all W 101 ⟨g, 0, none⟩ (by kernel_rfl), hl]
  have hs : (sizeOf (Tryd.prog.elem 101)).run Tryd.prog W = .ok 8 W := by kernel_rfl
  rw [hs]
  simp only [Result.andThen, slicedAt]
  rfl

set_option maxRecDepth 100000 in
set_option maxHeartbeats 1600000 in
theorem find_any (r : Int) (w : World) :
    Calls Tryd.prog 59 #[.int .i32 r] w fun e W' => e = .returned (.agg (cells8 (fnd r)).toArray) ∧ Below w.heap.size w W' := by
  obtain ⟨F, hF⟩ : ∃ F, F = fnd r := ⟨_, rfl⟩
  have HF := hid' hF
  rw [← hF]
  clear hF
  have HI : Hid ((Tryd.prog.info? 83).map (·.size) = some 8) := by show _ = _; kernel_rfl
  by_cases h1 : r < 768
  · have h1b : decide (r < 768) = true := by simpa using h1
    have HP : Hid (F = pickR latin r) := by show _ = _; rw [HF.out]; unfold fnd; rw [if_pos h1]
    clear HF
    obtain ⟨z, hz, hzs⟩ : ∃ z : Array Value, (∀ w, (zeroValue 93).run Tryd.prog w = .ok (.agg z) w) ∧ z.size = 152 := by
      refine ⟨(flat8 (List.replicate 19 (0, 0, 0, 0, 0, 0, false, 0))).toArray, ?_, ?_⟩
      · exact (zero_of_info (P := Tryd.prog) (t := 93) (n := 152) (by kernel_rfl)).1
      · kernel_rfl
    obtain ⟨c, hc⟩ : ∃ c : Array Value, c = (flat8 latin).toArray := ⟨_, rfl⟩
    have HC := hid' hc
    have HCI : Hid ((Tryd.prog.info? 93).map (·.size) = some c.size) := by show _ = _; rw [hc]; kernel_rfl
    have HCS : Hid (z.size = c.size) := by show _ = _; rw [hzs, hc]; kernel_rfl
    have HCO : Hid (c.all (·.oneCell') = true) := by show _ = _; rw [hc]; kernel_rfl
    have hcall := latin_any
    rw [← hc] at hcall
    have HCALL := hid' hcall
    have hsl := slice52
    clear hc hzs hcall
    go_enter Tryd.func59, Tryd.ntmps59
    go_wp2_with fail
    refine (HCALL.out _).mono ?_
    rintro e w1 ⟨rfl, hB1⟩
    have hcell1 : w1.heap[w.heap.size]? = some (.cells #[.int .i32 0, .int .i32 0, .int .u8 0, .int .u8 0, .int .u8 0, .int .u8 0, .bool false, .int .u8 0] 83) := by
      rw [hB1.block _ (by simp)]; exact heap_alloc_last w _
    have hBw : Below w.heap.size w w1 := ((Below.refl _ w).alloc (Nat.le_refl _) _).trans (hB1.mono (by simp))
    have hsz1 : w.heap.size + 1 ≤ w1.heap.size := by have := hB1.size; simpa using this
    have HCELL := hid' hcell1
    have HBW := hid' hBw
    clear hcell1 hBw hB1
    go_wp2_with ((refine wpList_store_row rfl 93 (.tmp 3) (.tmp 10) rfl w1.heap.size c rfl rfl 93 z (by exact heap_alloc_last w1 _) (by exact HCI.out) (by exact HCS.out) (by exact HCO.out) (wpList_nil ?_); rw [World.setRow_alloc_new]))
    refine (among_any w1.heap.size 19 latin r _ (by decide) rising_latin ⟨93, by rw [← HC.out]; exact heap_alloc_last w1 _⟩).mono ?_
    rw [← HP.out]
    rintro e w2 ⟨rfl, hB2⟩
    have hcell2 : w2.heap[w.heap.size]? = some (.cells #[.int .i32 0, .int .i32 0, .int .u8 0, .int .u8 0, .int .u8 0, .int .u8 0, .bool false, .int .u8 0] 83) := by
      rw [hB2.block _ (by simp; omega), Below.heap_alloc _ _ _ (by omega)]; exact HCELL.out
    have hBw2 : Below w.heap.size w w2 := (HBW.out.alloc HBW.out.size _).trans (hB2.mono (by simp; omega))
    obtain ⟨cs, hcs⟩ : ∃ cs : Array Value, cs = (cells8 F).toArray := ⟨_, rfl⟩
    have HS8 : Hid (cs.size = 8) := by show _ = _; rw [hcs]; rfl
    have HO8 : Hid (cs.all (·.oneCell') = true) := by show _ = _; rw [hcs]; kernel_rfl
    rw [← hcs]
    have HCELL2 := hid' hcell2
    have HEQ := hid' hcs
    have HBW2 := hid' hBw2
    clear hcell2 hBw2 hcs hB2
    go_wp2_with ((refine wpList_store_row rfl 83 (.tmp 2) (.tmp 13) rfl w.heap.size cs rfl rfl 83 _ (by exact HCELL2.out) (by rw [HS8.out]; exact HI.out) (by rw [HS8.out]; rfl) (by exact HO8.out) (wpList_nil ?_)))
    exact bodyPost_ret (results_cell_row Tryd.results59 _ _ w.heap.size 83 cs (0, 0) _ rfl (setRow_heap _ _ _ cs 83 (0, 0) HCELL2.out) Tryd.underlying83 rfl (by rw [HS8.out]; exact HI.out)) rfl ⟨by rw [HEQ.out], below_setRow HBW2.out (Nat.le_refl _)⟩
  have h1b : decide (r < 768) = false := by simpa using h1
  by_cases h2 : r < 1424
  · have h2b : decide (r < 1424) = true := by simpa using h2
    have HP : Hid (F = pickR greek r) := by show _ = _; rw [HF.out]; unfold fnd; rw [if_neg h1, if_pos h2]
    clear HF
    obtain ⟨z, hz, hzs⟩ : ∃ z : Array Value, (∀ w, (zeroValue 97).run Tryd.prog w = .ok (.agg z) w) ∧ z.size = 192 := by
      refine ⟨(flat8 (List.replicate 24 (0, 0, 0, 0, 0, 0, false, 0))).toArray, ?_, ?_⟩
      · exact (zero_of_info (P := Tryd.prog) (t := 97) (n := 192) (by kernel_rfl)).1
      · kernel_rfl
    obtain ⟨c, hc⟩ : ∃ c : Array Value, c = (flat8 greek).toArray := ⟨_, rfl⟩
    have HC := hid' hc
    have HCI : Hid ((Tryd.prog.info? 97).map (·.size) = some c.size) := by show _ = _; rw [hc]; kernel_rfl
    have HCS : Hid (z.size = c.size) := by show _ = _; rw [hzs, hc]; kernel_rfl
    have HCO : Hid (c.all (·.oneCell') = true) := by show _ = _; rw [hc]; kernel_rfl
    have hcall := greek_any
    rw [← hc] at hcall
    have HCALL := hid' hcall
    have hsl := slice56
    clear hc hzs hcall
    go_enter Tryd.func59, Tryd.ntmps59
    go_wp2_with fail
    refine (HCALL.out _).mono ?_
    rintro e w1 ⟨rfl, hB1⟩
    have hcell1 : w1.heap[w.heap.size]? = some (.cells #[.int .i32 0, .int .i32 0, .int .u8 0, .int .u8 0, .int .u8 0, .int .u8 0, .bool false, .int .u8 0] 83) := by
      rw [hB1.block _ (by simp)]; exact heap_alloc_last w _
    have hBw : Below w.heap.size w w1 := ((Below.refl _ w).alloc (Nat.le_refl _) _).trans (hB1.mono (by simp))
    have hsz1 : w.heap.size + 1 ≤ w1.heap.size := by have := hB1.size; simpa using this
    have HCELL := hid' hcell1
    have HBW := hid' hBw
    clear hcell1 hBw hB1
    go_wp2_with ((refine wpList_store_row rfl 97 (.tmp 4) (.tmp 17) rfl w1.heap.size c rfl rfl 97 z (by exact heap_alloc_last w1 _) (by exact HCI.out) (by exact HCS.out) (by exact HCO.out) (wpList_nil ?_); rw [World.setRow_alloc_new]))
    refine (among_any w1.heap.size 24 greek r _ (by decide) rising_greek ⟨97, by rw [← HC.out]; exact heap_alloc_last w1 _⟩).mono ?_
    rw [← HP.out]
    rintro e w2 ⟨rfl, hB2⟩
    have hcell2 : w2.heap[w.heap.size]? = some (.cells #[.int .i32 0, .int .i32 0, .int .u8 0, .int .u8 0, .int .u8 0, .int .u8 0, .bool false, .int .u8 0] 83) := by
      rw [hB2.block _ (by simp; omega), Below.heap_alloc _ _ _ (by omega)]; exact HCELL.out
    have hBw2 : Below w.heap.size w w2 := (HBW.out.alloc HBW.out.size _).trans (hB2.mono (by simp; omega))
    obtain ⟨cs, hcs⟩ : ∃ cs : Array Value, cs = (cells8 F).toArray := ⟨_, rfl⟩
    have HS8 : Hid (cs.size = 8) := by show _ = _; rw [hcs]; rfl
    have HO8 : Hid (cs.all (·.oneCell') = true) := by show _ = _; rw [hcs]; kernel_rfl
    rw [← hcs]
    have HCELL2 := hid' hcell2
    have HEQ := hid' hcs
    have HBW2 := hid' hBw2
    clear hcell2 hBw2 hcs hB2
    go_wp2_with ((refine wpList_store_row rfl 83 (.tmp 2) (.tmp 20) rfl w.heap.size cs rfl rfl 83 _ (by exact HCELL2.out) (by rw [HS8.out]; exact HI.out) (by rw [HS8.out]; rfl) (by exact HO8.out) (wpList_nil ?_)))
    exact bodyPost_ret (results_cell_row Tryd.results59 _ _ w.heap.size 83 cs (0, 0) _ rfl (setRow_heap _ _ _ cs 83 (0, 0) HCELL2.out) Tryd.underlying83 rfl (by rw [HS8.out]; exact HI.out)) rfl ⟨by rw [HEQ.out], below_setRow HBW2.out (Nat.le_refl _)⟩
  have h2b : decide (r < 1424) = false := by simpa using h2
  by_cases h3 : r < 7680
  · have h3b : decide (r < 7680) = true := by simpa using h3
    have HP : Hid (F = pickR hebrew r) := by show _ = _; rw [HF.out]; unfold fnd; rw [if_neg h1, if_neg h2, if_pos h3]
    clear HF
    obtain ⟨z, hz, hzs⟩ : ∃ z : Array Value, (∀ w, (zeroValue 99).run Tryd.prog w = .ok (.agg z) w) ∧ z.size = 120 := by
      refine ⟨(flat8 (List.replicate 15 (0, 0, 0, 0, 0, 0, false, 0))).toArray, ?_, ?_⟩
      · exact (zero_of_info (P := Tryd.prog) (t := 99) (n := 120) (by kernel_rfl)).1
      · kernel_rfl
    obtain ⟨c, hc⟩ : ∃ c : Array Value, c = (flat8 hebrew).toArray := ⟨_, rfl⟩
    have HC := hid' hc
    have HCI : Hid ((Tryd.prog.info? 99).map (·.size) = some c.size) := by show _ = _; rw [hc]; kernel_rfl
    have HCS : Hid (z.size = c.size) := by show _ = _; rw [hzs, hc]; kernel_rfl
    have HCO : Hid (c.all (·.oneCell') = true) := by show _ = _; rw [hc]; kernel_rfl
    have hcall := hebrew_any
    rw [← hc] at hcall
    have HCALL := hid' hcall
    have hsl := slice58
    clear hc hzs hcall
    go_enter Tryd.func59, Tryd.ntmps59
    go_wp2_with fail
    refine (HCALL.out _).mono ?_
    rintro e w1 ⟨rfl, hB1⟩
    have hcell1 : w1.heap[w.heap.size]? = some (.cells #[.int .i32 0, .int .i32 0, .int .u8 0, .int .u8 0, .int .u8 0, .int .u8 0, .bool false, .int .u8 0] 83) := by
      rw [hB1.block _ (by simp)]; exact heap_alloc_last w _
    have hBw : Below w.heap.size w w1 := ((Below.refl _ w).alloc (Nat.le_refl _) _).trans (hB1.mono (by simp))
    have hsz1 : w.heap.size + 1 ≤ w1.heap.size := by have := hB1.size; simpa using this
    have HCELL := hid' hcell1
    have HBW := hid' hBw
    clear hcell1 hBw hB1
    go_wp2_with ((refine wpList_store_row rfl 99 (.tmp 5) (.tmp 24) rfl w1.heap.size c rfl rfl 99 z (by exact heap_alloc_last w1 _) (by exact HCI.out) (by exact HCS.out) (by exact HCO.out) (wpList_nil ?_); rw [World.setRow_alloc_new]))
    refine (among_any w1.heap.size 15 hebrew r _ (by decide) rising_hebrew ⟨99, by rw [← HC.out]; exact heap_alloc_last w1 _⟩).mono ?_
    rw [← HP.out]
    rintro e w2 ⟨rfl, hB2⟩
    have hcell2 : w2.heap[w.heap.size]? = some (.cells #[.int .i32 0, .int .i32 0, .int .u8 0, .int .u8 0, .int .u8 0, .int .u8 0, .bool false, .int .u8 0] 83) := by
      rw [hB2.block _ (by simp; omega), Below.heap_alloc _ _ _ (by omega)]; exact HCELL.out
    have hBw2 : Below w.heap.size w w2 := (HBW.out.alloc HBW.out.size _).trans (hB2.mono (by simp; omega))
    obtain ⟨cs, hcs⟩ : ∃ cs : Array Value, cs = (cells8 F).toArray := ⟨_, rfl⟩
    have HS8 : Hid (cs.size = 8) := by show _ = _; rw [hcs]; rfl
    have HO8 : Hid (cs.all (·.oneCell') = true) := by show _ = _; rw [hcs]; kernel_rfl
    rw [← hcs]
    have HCELL2 := hid' hcell2
    have HEQ := hid' hcs
    have HBW2 := hid' hBw2
    clear hcell2 hBw2 hcs hB2
    go_wp2_with ((refine wpList_store_row rfl 83 (.tmp 2) (.tmp 27) rfl w.heap.size cs rfl rfl 83 _ (by exact HCELL2.out) (by rw [HS8.out]; exact HI.out) (by rw [HS8.out]; rfl) (by exact HO8.out) (wpList_nil ?_)))
    exact bodyPost_ret (results_cell_row Tryd.results59 _ _ w.heap.size 83 cs (0, 0) _ rfl (setRow_heap _ _ _ cs 83 (0, 0) HCELL2.out) Tryd.underlying83 rfl (by rw [HS8.out]; exact HI.out)) rfl ⟨by rw [HEQ.out], below_setRow HBW2.out (Nat.le_refl _)⟩
  have h3b : decide (r < 7680) = false := by simpa using h3
  have HP : Hid (F = pickR later r) := by show _ = _; rw [HF.out]; unfold fnd; rw [if_neg h1, if_neg h2, if_neg h3]
  clear HF
  obtain ⟨z, hz, hzs⟩ : ∃ z : Array Value, (∀ w, (zeroValue 101).run Tryd.prog w = .ok (.agg z) w) ∧ z.size = 240 := by
    refine ⟨(flat8 (List.replicate 30 (0, 0, 0, 0, 0, 0, false, 0))).toArray, ?_, ?_⟩
    · exact (zero_of_info (P := Tryd.prog) (t := 101) (n := 240) (by kernel_rfl)).1
    · kernel_rfl
  obtain ⟨c, hc⟩ : ∃ c : Array Value, c = (flat8 later).toArray := ⟨_, rfl⟩
  have HC := hid' hc
  have HCI : Hid ((Tryd.prog.info? 101).map (·.size) = some c.size) := by show _ = _; rw [hc]; kernel_rfl
  have HCS : Hid (z.size = c.size) := by show _ = _; rw [hzs, hc]; kernel_rfl
  have HCO : Hid (c.all (·.oneCell') = true) := by show _ = _; rw [hc]; kernel_rfl
  have hcall := later_any
  rw [← hc] at hcall
  have HCALL := hid' hcall
  have hsl := slice60
  clear hc hzs hcall
  go_enter Tryd.func59, Tryd.ntmps59
  go_wp2_with fail
  refine (HCALL.out _).mono ?_
  rintro e w1 ⟨rfl, hB1⟩
  have hcell1 : w1.heap[w.heap.size]? = some (.cells #[.int .i32 0, .int .i32 0, .int .u8 0, .int .u8 0, .int .u8 0, .int .u8 0, .bool false, .int .u8 0] 83) := by
    rw [hB1.block _ (by simp)]; exact heap_alloc_last w _
  have hBw : Below w.heap.size w w1 := ((Below.refl _ w).alloc (Nat.le_refl _) _).trans (hB1.mono (by simp))
  have hsz1 : w.heap.size + 1 ≤ w1.heap.size := by have := hB1.size; simpa using this
  have HCELL := hid' hcell1
  have HBW := hid' hBw
  clear hcell1 hBw hB1
  go_wp2_with ((refine wpList_store_row rfl 101 (.tmp 6) (.tmp 28) rfl w1.heap.size c rfl rfl 101 z (by exact heap_alloc_last w1 _) (by exact HCI.out) (by exact HCS.out) (by exact HCO.out) (wpList_nil ?_); rw [World.setRow_alloc_new]))
  refine (among_any w1.heap.size 30 later r _ (by decide) rising_later ⟨101, by rw [← HC.out]; exact heap_alloc_last w1 _⟩).mono ?_
  rw [← HP.out]
  rintro e w2 ⟨rfl, hB2⟩
  have hcell2 : w2.heap[w.heap.size]? = some (.cells #[.int .i32 0, .int .i32 0, .int .u8 0, .int .u8 0, .int .u8 0, .int .u8 0, .bool false, .int .u8 0] 83) := by
    rw [hB2.block _ (by simp; omega), Below.heap_alloc _ _ _ (by omega)]; exact HCELL.out
  have hBw2 : Below w.heap.size w w2 := (HBW.out.alloc HBW.out.size _).trans (hB2.mono (by simp; omega))
  obtain ⟨cs, hcs⟩ : ∃ cs : Array Value, cs = (cells8 F).toArray := ⟨_, rfl⟩
  have HS8 : Hid (cs.size = 8) := by show _ = _; rw [hcs]; rfl
  have HO8 : Hid (cs.all (·.oneCell') = true) := by show _ = _; rw [hcs]; kernel_rfl
  rw [← hcs]
  have HCELL2 := hid' hcell2
  have HEQ := hid' hcs
  have HBW2 := hid' hBw2
  clear hcell2 hBw2 hcs hB2
  go_wp2_with ((refine wpList_store_row rfl 83 (.tmp 2) (.tmp 31) rfl w.heap.size cs rfl rfl 83 _ (by exact HCELL2.out) (by rw [HS8.out]; exact HI.out) (by rw [HS8.out]; rfl) (by exact HO8.out) (wpList_nil ?_)))
  exact bodyPost_ret (results_cell_row Tryd.results59 _ _ w.heap.size 83 cs (0, 0) _ rfl (setRow_heap _ _ _ cs 83 (0, 0) HCELL2.out) Tryd.underlying83 rfl (by rw [HS8.out]; exact HI.out)) rfl ⟨by rw [HEQ.out], below_setRow HBW2.out (Nat.le_refl _)⟩

set_option maxRecDepth 100000 in
set_option maxHeartbeats 1600000 in
theorem script_any (r : Int) (w : World) :
    Calls Tryd.prog 42 #[.int .i32 r] w fun e W' => e = .returned (.int .u8 (fnd r).2.2.2.1) ∧ Below w.heap.size w W' := by
  obtain ⟨⟨x0, x1, x2, x3, x4, x5, x6, x7⟩, hx⟩ : ∃ x, x = fnd r := ⟨_, rfl⟩
  have hcall := find_any r
  rw [← hx] at hcall ⊢
  have HC := hid' hcall
  clear hcall hx
  have hf : ∀ W : World, (Instr.field 83 (.agg #[.int .i32 x0, .int .i32 x1, .int .u8 x2, .int .u8 x3, .int .u8 x4, .int .u8 x5, .bool x6, .int .u8 x7]) 3).run Tryd.prog W = .ok (.int .u8 x3) W := fun W => by kernel_rfl
  go_enter Tryd.func42, Tryd.ntmps42
  go_wp2_with fail
  refine (HC.out _).mono ?_
  simp only [cells8]
  rintro e w1 ⟨rfl, hB1⟩
  go_wp2
  go_ret
  exact ⟨rfl, hB1⟩

set_option maxRecDepth 100000 in
set_option maxHeartbeats 1600000 in
theorem class_any (r : Int) (w : World) :
    Calls Tryd.prog 65 #[.int .i32 r] w fun e W' => e = .returned (.int .u8 (fnd r).2.2.2.2.2.1) ∧ Below w.heap.size w W' := by
  obtain ⟨⟨x0, x1, x2, x3, x4, x5, x6, x7⟩, hx⟩ : ∃ x, x = fnd r := ⟨_, rfl⟩
  have hcall := find_any r
  rw [← hx] at hcall ⊢
  have HC := hid' hcall
  clear hcall hx
  have hf : ∀ W : World, (Instr.field 83 (.agg #[.int .i32 x0, .int .i32 x1, .int .u8 x2, .int .u8 x3, .int .u8 x4, .int .u8 x5, .bool x6, .int .u8 x7]) 5).run Tryd.prog W = .ok (.int .u8 x5) W := fun W => by kernel_rfl
  go_enter Tryd.func65, Tryd.ntmps65
  go_wp2_with fail
  refine (HC.out _).mono ?_
  simp only [cells8]
  rintro e w1 ⟨rfl, hB1⟩
  go_wp2
  go_ret
  exact ⟨rfl, hB1⟩

end Go.Proofs.YtpkegjbmnilmdaaDoor.D
