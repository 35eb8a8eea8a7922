/- head: Head. (Stage 19.) -/
import Derived.Test.YtacbfbhhhofifaaDoorHPL
import Derived.Deep.MidRow
namespace Go.Proofs.YtacbfbhhhofifaaDoor.Hd
open Go.RowKit
open Go.Proofs.YtacbfbhhhofifaaDoor.F (bn bn_length bn_append bn_inj bn_get byte_bd hid bn_extract isEmpty_false isEmpty_true str_eq same_eq)
set_option linter.unusedVariables false

/-- A head whose fields a call made. -/
def HdO (base : Nat) (w : World) (hv : Value) (h : H) : Prop := ∃ (M T : ByteArray) (v : Int) (F : Value) (fs : List Fb), hv = .agg #[.string M, .string T, .int .u8 v, F] ∧ FldOwn w base F fs ∧ fs.length ≤ 64 ∧ 0 ≤ v ∧ v ≤ 255 ∧ h = ⟨bn M, bn T, v, fs.map Fb.f⟩
theorem HdO.is {base : Nat} {w : World} {hv : Value} {h : H} (hh : HdO base w hv h) : HdIs w hv h := by
  obtain ⟨M, T, v, F, fs, e1, e2, e3⟩ := hh
  exact ⟨M, T, v, F, fs, e1, e2.at, e3⟩
theorem FldOwn.lower {w : World} {base b' : Nat} {v : Value} {l : List Fb} (h : FldOwn w base v l) (hb : b' ≤ base) : FldOwn w b' v l := by
  refine ⟨h.1, ?_⟩
  rcases h.2 with h | ⟨g, cap, cur, e, h1, h2⟩
  · exact .inl h
  · exact .inr ⟨g, cap, cur, e, Nat.le_trans hb h1, h2⟩
theorem HdO.zero (base : Nat) (w : World) : HdO base w (.agg #[.string ⟨#[]⟩, .string ⟨#[]⟩, .int .u8 0, .slice none 0 0]) h0 := ⟨⟨#[]⟩, ⟨#[]⟩, 0, .slice none 0 0, [], rfl, FldOwn.nil _ _, Nat.zero_le _, by decide, by decide, rfl⟩
/-- The four cells of a head. -/
def hrow (M T : ByteArray) (v : Int) (F : Value) : Array Value := #[.string M, .string T, .int .u8 v, F]
theorem hinfo (M T : ByteArray) (v : Int) (F : Value) : (Tryd.prog.info? 27).map (·.size) = some (hrow M T v F).size := by kernel_rfl
set_option maxRecDepth 100000 in
set_option maxHeartbeats 4000000 in
theorem head_nil (W : World) : Calls Tryd.prog 19 #[.pointer none] W fun e W' => (∃ hv, e = .returned hv ∧ HdIs W' hv h0) ∧ Below W.heap.size W W' := by
  have HM := hid (fun w => made_nil w)
  go_enter Tryd.func19, Tryd.ntmps19
  go_upto_region 2 with (go_at_call 30; refine (HM.out _).mono ?_; rintro e w1 ⟨rfl, rfl⟩)
  go_wp2_with (refine wpList_store_row rfl 27 (.tmp 2) (.tmp 14) rfl W.heap.size (hrow ⟨#[]⟩ ⟨#[]⟩ 0 (.slice none 0 0)) rfl rfl 27 _ (heap_alloc_last W _) (hinfo _ _ _ _) rfl (by simp [hrow, Value.oneCell']) ?_)
  refine bodyPost_ret (v := .agg (hrow ⟨#[]⟩ ⟨#[]⟩ 0 (.slice none 0 0))) (results_cell_row rfl _ _ W.heap.size 27 _ (0, 0) _ rfl (setRow_heap _ _ _ _ _ _ (heap_alloc_last W _)) Tryd.underlying27 rfl (hinfo _ _ _ _)) rfl ?_
  exact ⟨⟨_, rfl, HdIs.zero _⟩, below_setRow ((Below.refl _ W).alloc (Nat.le_refl _) _) (Nat.le_refl _) _⟩
set_option maxRecDepth 100000 in
set_option maxHeartbeats 4000000 in
theorem head_no (W : World) (b : Nat) (st : Int) (h0' : st ≠ 0) (h4 : st ≠ 4) (c0 : W.cell? ⟨b, 0, none⟩ = some (.int .u8 st)) (hb : b < W.heap.size) : Calls Tryd.prog 19 #[.pointer (some ⟨b, 0, none⟩)] W fun e W' => (∃ hv, e = .returned hv ∧ HdO W.heap.size W' hv h0) ∧ Below W.heap.size W W' := by
  obtain ⟨W1, hW1⟩ : ∃ x, W.alloc (.cells #[.string ⟨#[]⟩, .string ⟨#[]⟩, .int .u8 0, .slice none 0 0] 27) = x := ⟨_, rfl⟩
  have HB := hid (show Below W.heap.size W W1 from hW1 ▸ (Below.refl _ W).alloc (Nat.le_refl _) _)
  have HZ := hid (show W1.heap[W.heap.size]? = _ from hW1 ▸ heap_alloc_last W (.cells #[.string ⟨#[]⟩, .string ⟨#[]⟩, .int .u8 0, .slice none 0 0] 27))
  have c1 : W1.cell? ⟨b, 0, none⟩ = some (.int .u8 st) := (World.cell?_of_block (HB.out.block b hb)).trans c0
  have HM := hid (made_any W1 b st c1 h0')
  have h4b : (st != 4) = true := by simpa using h4
  clear c0
  go_enter Tryd.func19, Tryd.ntmps19
  go_upto_region 1 with fail
  clear hW1
  go_upto_region 2 with (go_at_call 30; refine HM.out.mono ?_; rintro e w1 ⟨rfl, rfl⟩)
  go_wp2_with (refine wpList_store_row rfl 27 (.tmp 2) (.tmp 14) rfl W.heap.size (hrow ⟨#[]⟩ ⟨#[]⟩ 0 (.slice none 0 0)) rfl rfl 27 _ HZ.out (hinfo _ _ _ _) rfl (by simp [hrow, Value.oneCell']) ?_)
  refine bodyPost_ret (v := .agg (hrow ⟨#[]⟩ ⟨#[]⟩ 0 (.slice none 0 0))) (results_cell_row rfl _ _ W.heap.size 27 _ (0, 0) _ rfl (setRow_heap _ _ _ _ _ _ HZ.out) Tryd.underlying27 rfl (hinfo _ _ _ _)) rfl ?_
  exact ⟨⟨_, rfl, HdO.zero _ _⟩, below_setRow HB.out (Nat.le_refl _) _⟩
set_option maxRecDepth 100000 in
set_option maxHeartbeats 8000000 in
theorem head_yes (base : Nat) (W : World) (b : Nat) (s : St) (h : Dne base W b s) : Calls Tryd.prog 19 #[.pointer (some ⟨b, 0, none⟩)] W fun e W' => (∃ hv, e = .returned hv ∧ HdO W.heap.size W' hv s.h) ∧ Below W.heap.size W W' := by
  obtain ⟨L, M, T, v, F, fs, l, hm, hs, v0, v1, hf⟩ := h
  obtain ⟨ao, cap, rfl⟩ := hm.fl.form
  obtain ⟨W1, hW1⟩ : ∃ x, W.alloc (.cells #[.string ⟨#[]⟩, .string ⟨#[]⟩, .int .u8 0, .slice none 0 0] 27) = x := ⟨_, rfl⟩
  have hB := show Below W.heap.size W W1 from hW1 ▸ (Below.refl _ W).alloc (Nat.le_refl _) _
  have HZ := hid (show W1.heap[W.heap.size]? = _ from hW1 ▸ heap_alloc_last W (.cells #[.string ⟨#[]⟩, .string ⟨#[]⟩, .int .u8 0, .slice none 0 0] 27))
  have hsz1 : W1.heap.size = W.heap.size + 1 := by rw [← hW1]; simp
  have HM1 := hid (hm.below hB)
  have HB := hid hB
  clear hm hB
  have c1 : W1.cell? ⟨b, 0, none⟩ = some (.int .u8 4) := HM1.out.cell 0
  have HMK := hid (made_any W1 b 4 c1 (by decide))
  have hrng : W1.rangeAt b 4 [.string M, .string T, .int .u8 v, .slice ao fs.length cap] := fun j u hj => by
    have hl := (List.getElem?_eq_some_iff.1 hj).1
    rw [HM1.out.cell (4 + j), ← hj]
    match j, hl with
    | 0, _ => rfl
    | 1, _ => rfl
    | 2, _ => rfl
    | 3, _ => rfl
    | n + 4, hl => simp at hl; omega
  have HRG := hid hrng
  clear hrng
  go_enter Tryd.func19, Tryd.ntmps19
  go_upto_region 1 with fail
  clear hW1
  go_upto_region 3 with (go_at_call 30; refine HMK.out.mono ?_; rintro e w1 ⟨rfl, rfl⟩)
  go_upto_region 4 with (refine wpList_load_mid rfl 27 (.tmp 17) rfl b 4 rfl [.string M, .string T, .int .u8 v, .slice ao fs.length cap] _ HRG.out Tryd.underlying27 rfl (by kernel_rfl) ?_)
  obtain ⟨w2, hw2⟩ : ∃ x, w1.alloc (.cells #[.string M, .string T, .int .u8 v, .slice ao fs.length cap] 27) = x := ⟨_, rfl⟩
  have hB2 := show Below w1.heap.size w1 w2 from hw2 ▸ (Below.refl _ w1).alloc (Nat.le_refl _) _
  have HR2 := hid (show w2.heap[W.heap.size + 1]? = some (.cells (hrow M T v (.slice ao fs.length cap)) 27 (0, 0)) from by rw [← hw2, ← hsz1]; exact heap_alloc_last w1 _)
  have HZ2 := hid (kept HZ.out hB2)
  have HM2 := hid (HM1.out.below hB2)
  have HB2 := hid (HB.out.trans (hB2.mono (by omega)))
  have hsz2 : w2.heap.size = W.heap.size + 2 := by rw [← hw2]; simp [hsz1]
  rw [hw2]
  clear hw2 hB2 HZ HB HM1 HRG HMK c1
  have c13 : w2.cell? ⟨W.heap.size + 1, 3, none⟩ = some (.slice ao fs.length cap) := cell_of_row _ _ 3 _ _ _ HR2.out
  have HSC := hid (sclone_any (.slice ao fs.length cap) fs w2 HM2.out.fl.at (by omega))
  go_upto_region 5 with (first
    | (go_at_call 33; refine HSC.out.mono ?_; rintro e w3 ⟨⟨u, rfl, hu⟩, hB3⟩; obtain ⟨a3, c3, rfl⟩ := hu.form; have HU := hid hu; have HB3 := hid hB3; have HR3 := hid (kept HR2.out hB3); clear hu hB3)
    | (refine wpList_store_in rfl 25 (.tmp 22) (.tmp 21) rfl (W.heap.size + 1) 3 (.slice a3 fs.length c3) rfl rfl rfl 27 _ HR3.out (show (3 : Nat) < 4 by decide) (by kernel_rfl) ?_))
  show Code.wp _ _ _ _ (World.setRow w3 (W.heap.size + 1) (hrow M T v (.slice a3 fs.length c3)))
  have HZ3 := hid (kept HZ2.out HB3.out)
  have HR4 := hid (show (World.setRow w3 (W.heap.size + 1) (hrow M T v (.slice a3 fs.length c3))).heap[W.heap.size + 1]? = some (.cells (hrow M T v (.slice a3 fs.length c3)) 27 (0, 0)) from setRow_heap _ _ _ _ _ _ HR3.out)
  have HZ4 := hid (show (World.setRow w3 (W.heap.size + 1) (hrow M T v (.slice a3 fs.length c3))).heap[W.heap.size]? = some (.cells #[.string ⟨#[]⟩, .string ⟨#[]⟩, .int .u8 0, .slice none 0 0] 27 (0, 0)) from (setRow_other _ _ _ _ (by omega)).trans HZ3.out)
  have HU4 := hid (HU.out.keepT (w' := World.setRow w3 (W.heap.size + 1) (hrow M T v (.slice a3 fs.length c3))) fun g cur hg _ => setRow_other _ _ _ _ (by omega))
  have HB4 := hid (below_setRow (HB2.out.trans (HB3.out.mono (by omega))) (by omega : W.heap.size ≤ W.heap.size + 1) (hrow M T v (.slice a3 fs.length c3)))
  obtain ⟨w4, hw4⟩ : ∃ x, World.setRow w3 (W.heap.size + 1) (hrow M T v (.slice a3 fs.length c3)) = x := ⟨_, rfl⟩
  rw [hw4] at HR4 HZ4 HU4 HB4 ⊢
  clear hw4 HR3 HZ3 HU HB3 HB2 HZ2 HR2 HSC c13
  go_wp2_with (first
    | (refine wpList_load_row rfl 27 (.tmp 3) rfl (W.heap.size + 1) rfl 27 (hrow M T v (.slice a3 fs.length c3)) (0, 0) _ HR4.out Tryd.underlying27 rfl (hinfo _ _ _ _) ?_)
    | (refine wpList_store_row rfl 27 (.tmp 2) (.tmp 23) rfl W.heap.size (hrow M T v (.slice a3 fs.length c3)) rfl rfl 27 _ HZ4.out (hinfo _ _ _ _) rfl (by simp [hrow, Value.oneCell']) ?_))
  refine bodyPost_ret (v := .agg (hrow M T v (.slice a3 fs.length c3))) (results_cell_row rfl _ _ W.heap.size 27 _ (0, 0) _ rfl (setRow_heap _ _ _ _ _ _ HZ4.out) Tryd.underlying27 rfl (hinfo _ _ _ _)) rfl ?_
  refine ⟨⟨_, rfl, ⟨M, T, v, _, fs, rfl, ((HU4.out.keepT fun g cur hg _ => setRow_other _ _ _ _ (by omega)).lower (by omega)), hf, v0, v1, hs⟩⟩, below_setRow HB4.out (Nat.le_refl _) _⟩
/-- What Head answers. -/
theorem head_own (base : Nat) (W : World) (p : Value) (l : List Int) (h : Rd base W p l) : Calls Tryd.prog 19 #[p] W fun e W' => (∃ hv, e = .returned hv ∧ HdO W.heap.size W' hv (if (go s0 l).d = true then (go s0 l).h else h0)) ∧ Rd base W' p l ∧ Below W.heap.size W W' := by
  obtain ⟨b, rfl, hs, hn⟩ := h
  have key : Calls Tryd.prog 19 #[.pointer (some ⟨b, 0, none⟩)] W fun e W' => (∃ hv, e = .returned hv ∧ HdO W.heap.size W' hv (if (go s0 l).d = true then (go s0 l).h else h0)) ∧ Below W.heap.size W W' := by
    rcases id hs with ⟨h1, h2, h3⟩ | ⟨h1, h2, h3⟩ | ⟨h1, h2, h3⟩
    · obtain ⟨wr, L, M, T, v, F, l', fs, hm⟩ := hs.mem
      rw [if_neg (by simp [h2])]
      have e : stR (go s0 l) = stN (go s0 l) := by unfold stR; rw [if_neg (by simp [h1]), if_neg (by simp [h2])]
      refine head_no W b (stR (go s0 l)) (stR_pos _) ?_ (hm.cell 0) hm.lt
      rw [e]; unfold stN
      split
      · decide
      · split <;> decide
    · rw [if_pos h2]
      exact head_yes base W b _ h3
    · rw [if_neg (by simp [h2])]
      exact head_no W b 5 (by decide) (by decide) (Mem.cell h3 0) (Mem.lt h3)
  refine key.mono ?_
  rintro e W' ⟨h1, h2⟩
  exact ⟨h1, ⟨b, rfl, hs.below h2, hn⟩, h2⟩
theorem head_any (base : Nat) (W : World) (p : Value) (l : List Int) (h : Rd base W p l) : Calls Tryd.prog 19 #[p] W fun e W' => (∃ hv, e = .returned hv ∧ HdIs W' hv (if (go s0 l).d = true then (go s0 l).h else h0)) ∧ Rd base W' p l ∧ Below W.heap.size W W' := by
  refine (head_own base W p l h).mono ?_
  rintro e W' ⟨⟨hv, rfl, h1⟩, h2, h3⟩
  exact ⟨⟨hv, rfl, h1.is⟩, h2, h3⟩
end Go.Proofs.YtacbfbhhhofifaaDoor.Hd
