/- Texts of one layer, one behind the other: DC DD. -/
import Derived.Test.YtdncaehajhmcoaaGreatZD2
/- The contract of find, and of the six that ask it for one thing. -/
namespace Go.Proofs.YtdncaehajhmcoaaGreat.D
open Go.RowKit Go.Lib Go.Sort Go.Shelf
set_option linter.unusedVariables false

/-- The row of a code point. -/
def fnd (r : Int) : Rw := if r < 768 then pickR latin r else if r < 1424 then pickR greek r else if r < 7680 then pickR hebrew r else pickR later r
theorem rising_latin : rising latin = true := by decide
theorem rising_greek : rising greek = true := by decide
theorem rising_hebrew : rising hebrew = true := by decide
theorem rising_later : rising later = true := by decide
theorem slice52 (g : Nat) (W : World) : (Instr.sliceAt 127 (.pointer (some ⟨g, 0, none⟩)) none none none).run Tryz.prog W = .ok (.slice (some ⟨g, 0, none⟩) 19 19) W := by
  have hl : Tryz.prog.arrayLen 127 = 19 := by kernel_rfl
  rw [run_sliceAt_array_all W 127 ⟨g, 0, none⟩ (by kernel_rfl), hl]
  have hs : (sizeOf (Tryz.prog.elem 127)).run Tryz.prog W = .ok 8 W := by kernel_rfl
  rw [hs]
  simp only [Result.andThen, slicedAt]
  rfl
theorem slice56 (g : Nat) (W : World) : (Instr.sliceAt 131 (.pointer (some ⟨g, 0, none⟩)) none none none).run Tryz.prog W = .ok (.slice (some ⟨g, 0, none⟩) 24 24) W := by
  have hl : Tryz.prog.arrayLen 131 = 24 := by kernel_rfl
  rw [run_sliceAt_array_all W 131 ⟨g, 0, none⟩ (by kernel_rfl), hl]
  have hs : (sizeOf (Tryz.prog.elem 131)).run Tryz.prog W = .ok 8 W := by kernel_rfl
  rw [hs]
  simp only [Result.andThen, slicedAt]
  rfl
theorem slice58 (g : Nat) (W : World) : (Instr.sliceAt 133 (.pointer (some ⟨g, 0, none⟩)) none none none).run Tryz.prog W = .ok (.slice (some ⟨g, 0, none⟩) 15 15) W := by
  have hl : Tryz.prog.arrayLen 133 = 15 := by kernel_rfl
  rw [run_sliceAt_array_all W 133 ⟨g, 0, none⟩ (by kernel_rfl), hl]
  have hs : (sizeOf (Tryz.prog.elem 133)).run Tryz.prog W = .ok 8 W := by kernel_rfl
  rw [hs]
  simp only [Result.andThen, slicedAt]
  rfl
theorem slice60 (g : Nat) (W : World) : (Instr.sliceAt 135 (.pointer (some ⟨g, 0, none⟩)) none none none).run Tryz.prog W = .ok (.slice (some ⟨g, 0, none⟩) 30 30) W := by
  have hl : Tryz.prog.arrayLen 135 = 30 := by kernel_rfl
  rw [run_sliceAt_array_all W 135 ⟨g, 0, none⟩ (by kernel_rfl), hl]
  have hs : (sizeOf (Tryz.prog.elem 135)).run Tryz.prog W = .ok 8 W := by kernel_rfl
  rw [hs]
  simp only [Result.andThen, slicedAt]
  rfl

set_option maxRecDepth 100000 in
set_option maxHeartbeats 1600000 in
theorem find_any (r : Int) (w : World) :
    Calls Tryz.prog 77 #[.int .i32 r] w fun e W' => e = .returned (.agg (cells8 (fnd r)).toArray) ∧ Below w.heap.size w W' := by
  obtain ⟨F, hF⟩ : ∃ F, F = fnd r := ⟨_, rfl⟩
  have HF := hid' hF
  rw [← hF]
  clear hF
  have HI : Hid ((Tryz.prog.info? 98).map (·.size) = some 8) := by show _ = _; kernel_rfl
  by_cases h1 : r < 768
  · have h1b : decide (r < 768) = true := by simpa using h1
    have HP : Hid (F = pickR latin r) := by show _ = _; rw [HF.out]; unfold fnd; rw [if_pos h1]
    clear HF
    obtain ⟨z, hz, hzs⟩ : ∃ z : Array Value, (∀ w, (zeroValue 127).run Tryz.prog w = .ok (.agg z) w) ∧ z.size = 152 := by
      refine ⟨(flat8 (List.replicate 19 (0, 0, 0, 0, 0, 0, false, 0))).toArray, ?_, ?_⟩
      · exact (zero_of_info (P := Tryz.prog) (t := 127) (n := 152) (by kernel_rfl)).1
      · kernel_rfl
    obtain ⟨c, hc⟩ : ∃ c : Array Value, c = (flat8 latin).toArray := ⟨_, rfl⟩
    have HC := hid' hc
    have HCI : Hid ((Tryz.prog.info? 127).map (·.size) = some c.size) := by show _ = _; rw [hc]; kernel_rfl
    have HCS : Hid (z.size = c.size) := by show _ = _; rw [hzs, hc]; kernel_rfl
    have HCO : Hid (c.all (·.oneCell') = true) := by show _ = _; rw [hc]; kernel_rfl
    have hcall := latin_any
    rw [← hc] at hcall
    have HCALL := hid' hcall
    have hsl := slice52
    clear hc hzs hcall
    go_enter Tryz.func77, Tryz.ntmps77
    go_wp2_with fail
    refine (HCALL.out _).mono ?_
    rintro e w1 ⟨rfl, hB1⟩
    have hcell1 : w1.heap[w.heap.size]? = some (.cells #[.int .i32 0, .int .i32 0, .int .u8 0, .int .u8 0, .int .u8 0, .int .u8 0, .bool false, .int .u8 0] 98) := by
      rw [hB1.block _ (by simp)]; exact heap_alloc_last w _
    have hBw : Below w.heap.size w w1 := ((Below.refl _ w).alloc (Nat.le_refl _) _).trans (hB1.mono (by simp))
    have hsz1 : w.heap.size + 1 ≤ w1.heap.size := by have := hB1.size; simpa using this
    have HCELL := hid' hcell1
    have HBW := hid' hBw
    clear hcell1 hBw hB1
    go_wp2_with ((refine wpList_store_row rfl 127 (.tmp 3) (.tmp 10) rfl w1.heap.size c rfl rfl 127 z (by exact heap_alloc_last w1 _) (by exact HCI.out) (by exact HCS.out) (by exact HCO.out) (wpList_nil ?_); rw [World.setRow_alloc_new]))
    refine (among_any w1.heap.size 19 latin r _ (by decide) rising_latin ⟨127, by rw [← HC.out]; exact heap_alloc_last w1 _⟩).mono ?_
    rw [← HP.out]
    rintro e w2 ⟨rfl, hB2⟩
    have hcell2 : w2.heap[w.heap.size]? = some (.cells #[.int .i32 0, .int .i32 0, .int .u8 0, .int .u8 0, .int .u8 0, .int .u8 0, .bool false, .int .u8 0] 98) := by
      rw [hB2.block _ (by simp; omega), Below.heap_alloc _ _ _ (by omega)]; exact HCELL.out
    have hBw2 : Below w.heap.size w w2 := (HBW.out.alloc HBW.out.size _).trans (hB2.mono (by simp; omega))
    obtain ⟨cs, hcs⟩ : ∃ cs : Array Value, cs = (cells8 F).toArray := ⟨_, rfl⟩
    have HS8 : Hid (cs.size = 8) := by show _ = _; rw [hcs]; rfl
    have HO8 : Hid (cs.all (·.oneCell') = true) := by show _ = _; rw [hcs]; kernel_rfl
    rw [← hcs]
    have HCELL2 := hid' hcell2
    have HEQ := hid' hcs
    have HBW2 := hid' hBw2
    clear hcell2 hBw2 hcs hB2
    go_wp2_with ((refine wpList_store_row rfl 98 (.tmp 2) (.tmp 13) rfl w.heap.size cs rfl rfl 98 _ (by exact HCELL2.out) (by rw [HS8.out]; exact HI.out) (by rw [HS8.out]; rfl) (by exact HO8.out) (wpList_nil ?_)))
    exact bodyPost_ret (results_cell_row Tryz.results77 _ _ w.heap.size 98 cs (0, 0) _ rfl (setRow_heap _ _ _ cs 98 (0, 0) HCELL2.out) Tryz.underlying98 rfl (by rw [HS8.out]; exact HI.out)) rfl ⟨by rw [HEQ.out], below_setRow HBW2.out (Nat.le_refl _)⟩
  have h1b : decide (r < 768) = false := by simpa using h1
  by_cases h2 : r < 1424
  · have h2b : decide (r < 1424) = true := by simpa using h2
    have HP : Hid (F = pickR greek r) := by show _ = _; rw [HF.out]; unfold fnd; rw [if_neg h1, if_pos h2]
    clear HF
    obtain ⟨z, hz, hzs⟩ : ∃ z : Array Value, (∀ w, (zeroValue 131).run Tryz.prog w = .ok (.agg z) w) ∧ z.size = 192 := by
      refine ⟨(flat8 (List.replicate 24 (0, 0, 0, 0, 0, 0, false, 0))).toArray, ?_, ?_⟩
      · exact (zero_of_info (P := Tryz.prog) (t := 131) (n := 192) (by kernel_rfl)).1
      · kernel_rfl
    obtain ⟨c, hc⟩ : ∃ c : Array Value, c = (flat8 greek).toArray := ⟨_, rfl⟩
    have HC := hid' hc
    have HCI : Hid ((Tryz.prog.info? 131).map (·.size) = some c.size) := by show _ = _; rw [hc]; kernel_rfl
    have HCS : Hid (z.size = c.size) := by show _ = _; rw [hzs, hc]; kernel_rfl
    have HCO : Hid (c.all (·.oneCell') = true) := by show _ = _; rw [hc]; kernel_rfl
    have hcall := greek_any
    rw [← hc] at hcall
    have HCALL := hid' hcall
    have hsl := slice56
    clear hc hzs hcall
    go_enter Tryz.func77, Tryz.ntmps77
    go_wp2_with fail
    refine (HCALL.out _).mono ?_
    rintro e w1 ⟨rfl, hB1⟩
    have hcell1 : w1.heap[w.heap.size]? = some (.cells #[.int .i32 0, .int .i32 0, .int .u8 0, .int .u8 0, .int .u8 0, .int .u8 0, .bool false, .int .u8 0] 98) := by
      rw [hB1.block _ (by simp)]; exact heap_alloc_last w _
    have hBw : Below w.heap.size w w1 := ((Below.refl _ w).alloc (Nat.le_refl _) _).trans (hB1.mono (by simp))
    have hsz1 : w.heap.size + 1 ≤ w1.heap.size := by have := hB1.size; simpa using this
    have HCELL := hid' hcell1
    have HBW := hid' hBw
    clear hcell1 hBw hB1
    go_wp2_with ((refine wpList_store_row rfl 131 (.tmp 4) (.tmp 17) rfl w1.heap.size c rfl rfl 131 z (by exact heap_alloc_last w1 _) (by exact HCI.out) (by exact HCS.out) (by exact HCO.out) (wpList_nil ?_); rw [World.setRow_alloc_new]))
    refine (among_any w1.heap.size 24 greek r _ (by decide) rising_greek ⟨131, by rw [← HC.out]; exact heap_alloc_last w1 _⟩).mono ?_
    rw [← HP.out]
    rintro e w2 ⟨rfl, hB2⟩
    have hcell2 : w2.heap[w.heap.size]? = some (.cells #[.int .i32 0, .int .i32 0, .int .u8 0, .int .u8 0, .int .u8 0, .int .u8 0, .bool false, .int .u8 0] 98) := by
      rw [hB2.block _ (by simp; omega), Below.heap_alloc _ _ _ (by omega)]; exact HCELL.out
    have hBw2 : Below w.heap.size w w2 := (HBW.out.alloc HBW.out.size _).trans (hB2.mono (by simp; omega))
    obtain ⟨cs, hcs⟩ : ∃ cs : Array Value, cs = (cells8 F).toArray := ⟨_, rfl⟩
    have HS8 : Hid (cs.size = 8) := by show _ = _; rw [hcs]; rfl
    have HO8 : Hid (cs.all (·.oneCell') = true) := by show _ = _; rw [hcs]; kernel_rfl
    rw [← hcs]
    have HCELL2 := hid' hcell2
    have HEQ := hid' hcs
    have HBW2 := hid' hBw2
    clear hcell2 hBw2 hcs hB2
    go_wp2_with ((refine wpList_store_row rfl 98 (.tmp 2) (.tmp 20) rfl w.heap.size cs rfl rfl 98 _ (by exact HCELL2.out) (by rw [HS8.out]; exact HI.out) (by rw [HS8.out]; rfl) (by exact HO8.out) (wpList_nil ?_)))
    exact bodyPost_ret (results_cell_row Tryz.results77 _ _ w.heap.size 98 cs (0, 0) _ rfl (setRow_heap _ _ _ cs 98 (0, 0) HCELL2.out) Tryz.underlying98 rfl (by rw [HS8.out]; exact HI.out)) rfl ⟨by rw [HEQ.out], below_setRow HBW2.out (Nat.le_refl _)⟩
  have h2b : decide (r < 1424) = false := by simpa using h2
  by_cases h3 : r < 7680
  · have h3b : decide (r < 7680) = true := by simpa using h3
    have HP : Hid (F = pickR hebrew r) := by show _ = _; rw [HF.out]; unfold fnd; rw [if_neg h1, if_neg h2, if_pos h3]
    clear HF
    obtain ⟨z, hz, hzs⟩ : ∃ z : Array Value, (∀ w, (zeroValue 133).run Tryz.prog w = .ok (.agg z) w) ∧ z.size = 120 := by
      refine ⟨(flat8 (List.replicate 15 (0, 0, 0, 0, 0, 0, false, 0))).toArray, ?_, ?_⟩
      · exact (zero_of_info (P := Tryz.prog) (t := 133) (n := 120) (by kernel_rfl)).1
      · kernel_rfl
    obtain ⟨c, hc⟩ : ∃ c : Array Value, c = (flat8 hebrew).toArray := ⟨_, rfl⟩
    have HC := hid' hc
    have HCI : Hid ((Tryz.prog.info? 133).map (·.size) = some c.size) := by show _ = _; rw [hc]; kernel_rfl
    have HCS : Hid (z.size = c.size) := by show _ = _; rw [hzs, hc]; kernel_rfl
    have HCO : Hid (c.all (·.oneCell') = true) := by show _ = _; rw [hc]; kernel_rfl
    have hcall := hebrew_any
    rw [← hc] at hcall
    have HCALL := hid' hcall
    have hsl := slice58
    clear hc hzs hcall
    go_enter Tryz.func77, Tryz.ntmps77
    go_wp2_with fail
    refine (HCALL.out _).mono ?_
    rintro e w1 ⟨rfl, hB1⟩
    have hcell1 : w1.heap[w.heap.size]? = some (.cells #[.int .i32 0, .int .i32 0, .int .u8 0, .int .u8 0, .int .u8 0, .int .u8 0, .bool false, .int .u8 0] 98) := by
      rw [hB1.block _ (by simp)]; exact heap_alloc_last w _
    have hBw : Below w.heap.size w w1 := ((Below.refl _ w).alloc (Nat.le_refl _) _).trans (hB1.mono (by simp))
    have hsz1 : w.heap.size + 1 ≤ w1.heap.size := by have := hB1.size; simpa using this
    have HCELL := hid' hcell1
    have HBW := hid' hBw
    clear hcell1 hBw hB1
    go_wp2_with ((refine wpList_store_row rfl 133 (.tmp 5) (.tmp 24) rfl w1.heap.size c rfl rfl 133 z (by exact heap_alloc_last w1 _) (by exact HCI.out) (by exact HCS.out) (by exact HCO.out) (wpList_nil ?_); rw [World.setRow_alloc_new]))
    refine (among_any w1.heap.size 15 hebrew r _ (by decide) rising_hebrew ⟨133, by rw [← HC.out]; exact heap_alloc_last w1 _⟩).mono ?_
    rw [← HP.out]
    rintro e w2 ⟨rfl, hB2⟩
    have hcell2 : w2.heap[w.heap.size]? = some (.cells #[.int .i32 0, .int .i32 0, .int .u8 0, .int .u8 0, .int .u8 0, .int .u8 0, .bool false, .int .u8 0] 98) := by
      rw [hB2.block _ (by simp; omega), Below.heap_alloc _ _ _ (by omega)]; exact HCELL.out
    have hBw2 : Below w.heap.size w w2 := (HBW.out.alloc HBW.out.size _).trans (hB2.mono (by simp; omega))
    obtain ⟨cs, hcs⟩ : ∃ cs : Array Value, cs = (cells8 F).toArray := ⟨_, rfl⟩
    have HS8 : Hid (cs.size = 8) := by show _ = _; rw [hcs]; rfl
    have HO8 : Hid (cs.all (·.oneCell') = true) := by show _ = _; rw [hcs]; kernel_rfl
    rw [← hcs]
    have HCELL2 := hid' hcell2
    have HEQ := hid' hcs
    have HBW2 := hid' hBw2
    clear hcell2 hBw2 hcs hB2
    go_wp2_with ((refine wpList_store_row rfl 98 (.tmp 2) (.tmp 27) rfl w.heap.size cs rfl rfl 98 _ (by exact HCELL2.out) (by rw [HS8.out]; exact HI.out) (by rw [HS8.out]; rfl) (by exact HO8.out) (wpList_nil ?_)))
    exact bodyPost_ret (results_cell_row Tryz.results77 _ _ w.heap.size 98 cs (0, 0) _ rfl (setRow_heap _ _ _ cs 98 (0, 0) HCELL2.out) Tryz.underlying98 rfl (by rw [HS8.out]; exact HI.out)) rfl ⟨by rw [HEQ.out], below_setRow HBW2.out (Nat.le_refl _)⟩
  have h3b : decide (r < 7680) = false := by simpa using h3
  have HP : Hid (F = pickR later r) := by show _ = _; rw [HF.out]; unfold fnd; rw [if_neg h1, if_neg h2, if_neg h3]
  clear HF
  obtain ⟨z, hz, hzs⟩ : ∃ z : Array Value, (∀ w, (zeroValue 135).run Tryz.prog w = .ok (.agg z) w) ∧ z.size = 240 := by
    refine ⟨(flat8 (List.replicate 30 (0, 0, 0, 0, 0, 0, false, 0))).toArray, ?_, ?_⟩
    · exact (zero_of_info (P := Tryz.prog) (t := 135) (n := 240) (by kernel_rfl)).1
    · kernel_rfl
  obtain ⟨c, hc⟩ : ∃ c : Array Value, c = (flat8 later).toArray := ⟨_, rfl⟩
  have HC := hid' hc
  have HCI : Hid ((Tryz.prog.info? 135).map (·.size) = some c.size) := by show _ = _; rw [hc]; kernel_rfl
  have HCS : Hid (z.size = c.size) := by show _ = _; rw [hzs, hc]; kernel_rfl
  have HCO : Hid (c.all (·.oneCell') = true) := by show _ = _; rw [hc]; kernel_rfl
  have hcall := later_any
  rw [← hc] at hcall
  have HCALL := hid' hcall
  have hsl := slice60
  clear hc hzs hcall
  go_enter Tryz.func77, Tryz.ntmps77
  go_wp2_with fail
  refine (HCALL.out _).mono ?_
  rintro e w1 ⟨rfl, hB1⟩
  have hcell1 : w1.heap[w.heap.size]? = some (.cells #[.int .i32 0, .int .i32 0, .int .u8 0, .int .u8 0, .int .u8 0, .int .u8 0, .bool false, .int .u8 0] 98) := by
    rw [hB1.block _ (by simp)]; exact heap_alloc_last w _
  have hBw : Below w.heap.size w w1 := ((Below.refl _ w).alloc (Nat.le_refl _) _).trans (hB1.mono (by simp))
  have hsz1 : w.heap.size + 1 ≤ w1.heap.size := by have := hB1.size; simpa using this
  have HCELL := hid' hcell1
  have HBW := hid' hBw
  clear hcell1 hBw hB1
  go_wp2_with ((refine wpList_store_row rfl 135 (.tmp 6) (.tmp 28) rfl w1.heap.size c rfl rfl 135 z (by exact heap_alloc_last w1 _) (by exact HCI.out) (by exact HCS.out) (by exact HCO.out) (wpList_nil ?_); rw [World.setRow_alloc_new]))
  refine (among_any w1.heap.size 30 later r _ (by decide) rising_later ⟨135, by rw [← HC.out]; exact heap_alloc_last w1 _⟩).mono ?_
  rw [← HP.out]
  rintro e w2 ⟨rfl, hB2⟩
  have hcell2 : w2.heap[w.heap.size]? = some (.cells #[.int .i32 0, .int .i32 0, .int .u8 0, .int .u8 0, .int .u8 0, .int .u8 0, .bool false, .int .u8 0] 98) := by
    rw [hB2.block _ (by simp; omega), Below.heap_alloc _ _ _ (by omega)]; exact HCELL.out
  have hBw2 : Below w.heap.size w w2 := (HBW.out.alloc HBW.out.size _).trans (hB2.mono (by simp; omega))
  obtain ⟨cs, hcs⟩ : ∃ cs : Array Value, cs = (cells8 F).toArray := ⟨_, rfl⟩
  have HS8 : Hid (cs.size = 8) := by show _ = _; rw [hcs]; rfl
  have HO8 : Hid (cs.all (·.oneCell') = true) := by show _ = _; rw [hcs]; kernel_rfl
  rw [← hcs]
  have HCELL2 := hid' hcell2
  have HEQ := hid' hcs
  have HBW2 := hid' hBw2
  clear hcell2 hBw2 hcs hB2
  go_wp2_with ((refine wpList_store_row rfl 98 (.tmp 2) (.tmp 31) rfl w.heap.size cs rfl rfl 98 _ (by exact HCELL2.out) (by rw [HS8.out]; exact HI.out) (by rw [HS8.out]; rfl) (by exact HO8.out) (wpList_nil ?_)))
  exact bodyPost_ret (results_cell_row Tryz.results77 _ _ w.heap.size 98 cs (0, 0) _ rfl (setRow_heap _ _ _ cs 98 (0, 0) HCELL2.out) Tryz.underlying98 rfl (by rw [HS8.out]; exact HI.out)) rfl ⟨by rw [HEQ.out], below_setRow HBW2.out (Nat.le_refl _)⟩

set_option maxRecDepth 100000 in
set_option maxHeartbeats 1600000 in
theorem status_any (r : Int) (w : World) :
    Calls Tryz.prog 44 #[.int .i32 r] w fun e W' => e = .returned (.int .u8 (fnd r).2.2.1) ∧ Below w.heap.size w W' := by
  obtain ⟨⟨x0, x1, x2, x3, x4, x5, x6, x7⟩, hx⟩ : ∃ x, x = fnd r := ⟨_, rfl⟩
  have hcall := find_any r
  rw [← hx] at hcall ⊢
  have HC := hid' hcall
  clear hcall hx
  have hf : ∀ W : World, (Instr.field 98 (.agg #[.int .i32 x0, .int .i32 x1, .int .u8 x2, .int .u8 x3, .int .u8 x4, .int .u8 x5, .bool x6, .int .u8 x7]) 2).run Tryz.prog W = .ok (.int .u8 x2) W := fun W => by kernel_rfl
  go_enter Tryz.func44, Tryz.ntmps44
  go_wp2_with fail
  refine (HC.out _).mono ?_
  simp only [cells8]
  rintro e w1 ⟨rfl, hB1⟩
  go_wp2
  go_ret
  exact ⟨rfl, hB1⟩

set_option maxRecDepth 100000 in
set_option maxHeartbeats 1600000 in
theorem bidi_any (r : Int) (w : World) :
    Calls Tryz.prog 147 #[.int .i32 r] w fun e W' => e = .returned (.int .u8 (fnd r).2.2.2.2.1) ∧ Below w.heap.size w W' := by
  obtain ⟨⟨x0, x1, x2, x3, x4, x5, x6, x7⟩, hx⟩ : ∃ x, x = fnd r := ⟨_, rfl⟩
  have hcall := find_any r
  rw [← hx] at hcall ⊢
  have HC := hid' hcall
  clear hcall hx
  have hf : ∀ W : World, (Instr.field 98 (.agg #[.int .i32 x0, .int .i32 x1, .int .u8 x2, .int .u8 x3, .int .u8 x4, .int .u8 x5, .bool x6, .int .u8 x7]) 4).run Tryz.prog W = .ok (.int .u8 x4) W := fun W => by kernel_rfl
  go_enter Tryz.func147, Tryz.ntmps147
  go_wp2_with fail
  refine (HC.out _).mono ?_
  simp only [cells8]
  rintro e w1 ⟨rfl, hB1⟩
  go_wp2
  go_ret
  exact ⟨rfl, hB1⟩

set_option maxRecDepth 100000 in
set_option maxHeartbeats 1600000 in
theorem joining_any (r : Int) (w : World) :
    Calls Tryz.prog 187 #[.int .i32 r] w fun e W' => e = .returned (.int .u8 (fnd r).2.2.2.2.2.2.2) ∧ Below w.heap.size w W' := by
  obtain ⟨⟨x0, x1, x2, x3, x4, x5, x6, x7⟩, hx⟩ : ∃ x, x = fnd r := ⟨_, rfl⟩
  have hcall := find_any r
  rw [← hx] at hcall ⊢
  have HC := hid' hcall
  clear hcall hx
  have hf : ∀ W : World, (Instr.field 98 (.agg #[.int .i32 x0, .int .i32 x1, .int .u8 x2, .int .u8 x3, .int .u8 x4, .int .u8 x5, .bool x6, .int .u8 x7]) 7).run Tryz.prog W = .ok (.int .u8 x7) W := fun W => by kernel_rfl
  go_enter Tryz.func187, Tryz.ntmps187
  go_wp2_with fail
  refine (HC.out _).mono ?_
  simp only [cells8]
  rintro e w1 ⟨rfl, hB1⟩
  go_wp2
  go_ret
  exact ⟨rfl, hB1⟩

set_option maxRecDepth 100000 in
set_option maxHeartbeats 1600000 in
theorem class_any (r : Int) (w : World) :
    Calls Tryz.prog 119 #[.int .i32 r] w fun e W' => e = .returned (.int .u8 (fnd r).2.2.2.2.2.1) ∧ Below w.heap.size w W' := by
  obtain ⟨⟨x0, x1, x2, x3, x4, x5, x6, x7⟩, hx⟩ : ∃ x, x = fnd r := ⟨_, rfl⟩
  have hcall := find_any r
  rw [← hx] at hcall ⊢
  have HC := hid' hcall
  clear hcall hx
  have hf : ∀ W : World, (Instr.field 98 (.agg #[.int .i32 x0, .int .i32 x1, .int .u8 x2, .int .u8 x3, .int .u8 x4, .int .u8 x5, .bool x6, .int .u8 x7]) 5).run Tryz.prog W = .ok (.int .u8 x5) W := fun W => by kernel_rfl
  go_enter Tryz.func119, Tryz.ntmps119
  go_wp2_with fail
  refine (HC.out _).mono ?_
  simp only [cells8]
  rintro e w1 ⟨rfl, hB1⟩
  go_wp2
  go_ret
  exact ⟨rfl, hB1⟩

set_option maxRecDepth 100000 in
set_option maxHeartbeats 1600000 in
theorem mark_any (r : Int) (w : World) :
    Calls Tryz.prog 135 #[.int .i32 r] w fun e W' => e = .returned (.bool (fnd r).2.2.2.2.2.2.1) ∧ Below w.heap.size w W' := by
  obtain ⟨⟨x0, x1, x2, x3, x4, x5, x6, x7⟩, hx⟩ : ∃ x, x = fnd r := ⟨_, rfl⟩
  have hcall := find_any r
  rw [← hx] at hcall ⊢
  have HC := hid' hcall
  clear hcall hx
  have hf : ∀ W : World, (Instr.field 98 (.agg #[.int .i32 x0, .int .i32 x1, .int .u8 x2, .int .u8 x3, .int .u8 x4, .int .u8 x5, .bool x6, .int .u8 x7]) 6).run Tryz.prog W = .ok (.bool x6) W := fun W => by kernel_rfl
  go_enter Tryz.func135, Tryz.ntmps135
  go_wp2_with fail
  refine (HC.out _).mono ?_
  simp only [cells8]
  rintro e w1 ⟨rfl, hB1⟩
  go_wp2
  go_ret
  exact ⟨rfl, hB1⟩
end Go.Proofs.YtdncaehajhmcoaaGreat.D
/- What is told by a switch: distance, instead, single, Like, and the document's Like. -/
namespace Go.Proofs.YtdncaehajhmcoaaGreat.D
open Go.RowKit Go.Lib Go.Sort Go.Shelf
set_option linter.unusedVariables false

/-- The slice value v leads to the numbers zs, all that its block holds. -/
def IntsAt (w : World) (v : Value) (zs : List Int) : Prop :=
  ∃ a cap, v = .slice a zs.length cap ∧ ((a = none → cap = 0) ∧ zs.length ≤ cap) ∧ (0 < zs.length → ∃ b, a = some ⟨b, 0, none⟩ ∧ w.heap[b]? = some (.cells (zs.map (Value.int .i32)).toArray 21 (0, 0)))
theorem IntsAt.below {A B : World} {n : Nat} (h : Below n A B) (hn : A.heap.size ≤ n) {v : Value} {l : List Int} : IntsAt A v l → IntsAt B v l
  | ⟨a, cap, e, hc, f⟩ => ⟨a, cap, e, hc, fun hp => by
      obtain ⟨b, e2, g⟩ := f hp
      exact ⟨b, e2, (h.block b (Nat.lt_of_lt_of_le (Array.getElem?_eq_some_iff.1 g).1 hn)).trans g⟩⟩
theorem IntsAt.nil (w : World) : IntsAt w (.slice none 0 0) [] := ⟨none, 0, rfl, ⟨fun _ => rfl, Nat.le_refl _⟩, fun h => by simp at h⟩
theorem IntsAt.new1 (w : World) (a : Int) : IntsAt (w.alloc (.cells #[.int .i32 a] 21)) (.slice (some ⟨w.heap.size, 0, none⟩) 1 1) [a] :=
  ⟨_, 1, rfl, ⟨(fun h => by cases h), Nat.le_refl _⟩, fun _ => ⟨w.heap.size, rfl, heap_alloc_last w _⟩⟩
theorem IntsAt.new2 (w : World) (a b : Int) : IntsAt (w.alloc (.cells #[.int .i32 a, .int .i32 b] 21)) (.slice (some ⟨w.heap.size, 0, none⟩) 2 2) [a, b] :=
  ⟨_, 2, rfl, ⟨(fun h => by cases h), Nat.le_refl _⟩, fun _ => ⟨w.heap.size, rfl, heap_alloc_last w _⟩⟩
/-- It answers these numbers, as a slice. -/
def Ans (l : List Int) (w : World) (e : Ending) (W' : World) : Prop := (∃ v, e = .returned v ∧ IntsAt W' v l) ∧ Below w.heap.size w W'
theorem Ans.nil {l : List Int} {w W' : World} (h : l = []) (hb : Below w.heap.size w W') : Ans l w (.returned (.slice none 0 0)) W' := by
  subst h; exact ⟨⟨_, rfl, IntsAt.nil _⟩, hb⟩
theorem Ans.one {l : List Int} {w W : World} {a : Int} (h : l = [a]) (hb : Below w.heap.size w W) : Ans l w (.returned (.slice (some ⟨W.heap.size, 0, none⟩) 1 1)) (W.alloc (.cells #[.int .i32 a] 21)) := by
  subst h; exact ⟨⟨_, rfl, IntsAt.new1 _ _⟩, hb.alloc hb.size _⟩
theorem Ans.two {l : List Int} {w W : World} {a b : Int} (h : l = [a, b]) (hb : Below w.heap.size w W) : Ans l w (.returned (.slice (some ⟨W.heap.size, 0, none⟩) 2 2)) (W.alloc (.cells #[.int .i32 a, .int .i32 b] 21)) := by
  subst h; exact ⟨⟨_, rfl, IntsAt.new2 _ _ _⟩, hb.alloc hb.size _⟩

/-- What looks like something else. -/
def likeT : List (Int × List Int) := [(48, [111]), (49, [108]), (109, [114, 110]), (945, [97]), (957, [118]), (959, [111]), (961, [112]), (1072, [97]), (1077, [101]), (1086, [111]), (1088, [112]), (1089, [99]), (1091, [121]), (1093, [120]), (1109, [115]), (1110, [105]), (1112, [106]), (1505, [111]), (1575, [108]), (12540, [19968])]
def lk (r : Int) : List Int := (likeT.lookup r).getD [r]

/-- How much is added. -/
def distT : List (Int × Int) := [(65, 32), (192, 32), (216, 32), (913, 32), (931, 32), (1040, 32), (178, -128), (904, 37), (910, 63), (1029, 80), (65296, -65248), (65345, -65248), (65313, -65216), (66560, 40)]
def dist (r : Int) : Int := (distT.lookup r).getD 0
/-- What one is mapped to alone. -/
def instT : List (Int × List Int) := [(170, [97]), (185, [49]), (186, [111]), (376, [255]), (469, [470]), (902, [940]), (908, [972]), (1025, [1105]), (1032, [1112]), (7776, [7777]), (7778, [7779]), (7784, [7785]), (7838, [115, 115]), (8486, [969]), (8490, [107]), (8491, [229]), (12290, [46]), (65294, [46]), (65377, [46]), (64257, [102, 105]), (65285, [37]), (65293, [45]), (65295, [47])]
def inst (r : Int) : List Int := (instT.lookup r).getD []
def sgl (r : Int) : Int := (([(8486, 937), (8490, 75), (8491, 197)] : List (Int × Int)).lookup r).getD 0

set_option maxRecDepth 100000 in
set_option maxHeartbeats 1600000 in
theorem single_any (r : Int) (w : World) : Calls Tryz.prog 179 #[.int .i32 r] w fun e W' => e = .returned (.int .i32 (sgl r)) ∧ W' = w := by
  obtain ⟨L, hL⟩ : ∃ L, L = sgl r := ⟨_, rfl⟩
  have HL := hid' hL
  rw [← hL]
  clear hL
  go_enter Tryz.func179, Tryz.ntmps179
  go_wp2
  all_goals go_ret
  all_goals refine ⟨?_, rfl⟩
  all_goals rw [HL.out]
  all_goals clear HL
  all_goals first | (rename_i h; obtain rfl := eq_of_beq h; rfl) | (simp [sgl, List.lookup, *]; done)
end Go.Proofs.YtdncaehajhmcoaaGreat.D
