/- head: Feed at its end, or broken. (Stage 19.) -/
import Derived.Test.YtacbfbhhhofifaaDoorHPN
namespace Go.Proofs.YtacbfbhhhofifaaDoor.Hd
open Go.RowKit
open Go.Proofs.YtacbfbhhhofifaaDoor.F (bn bn_length bn_append bn_inj bn_get byte_bd hid bn_extract isEmpty_false isEmpty_true str_eq same_eq)
set_option linter.unusedVariables false

set_option maxRecDepth 100000 in
set_option maxHeartbeats 4000000 in
theorem feed_done (W : World) (b : Nat) (s : ByteArray) (hb : b < W.heap.size) (h : W.cell? ⟨b, 0, none⟩ = some (.int .u8 4)) : Calls Tryd.prog 17 #[.pointer (some ⟨b, 0, none⟩), .string s] W fun e W' => e = .returned (.tuple #[.int .i64 0, .bool false, .int .i64 3]) ∧ Below W.heap.size W W' := by
  have HR := hid (fed2_r W (.pointer (some ⟨b, 0, none⟩)))
  have HE := hid (fed2_e W (.pointer (some ⟨b, 0, none⟩)))
  have HB := hid (fed2_below W (.pointer (some ⟨b, 0, none⟩)))
  obtain ⟨W2, hW2⟩ : ∃ x, fed2 W (.pointer (some ⟨b, 0, none⟩)) = x := ⟨_, rfl⟩
  rw [hW2] at HR HE HB
  have c0 := HR.out.cell
  have ce := HE.out.cell
  have fe := HE.out.frozen
  have cs : W2.cell? ⟨b, 0, none⟩ = some (.int .u8 4) := (World.cell?_of_block (HB.out.block b hb)).trans h
  have HM := hid (made_any W2 b 4 cs (by decide))
  clear h
  go_enter_defers Tryd.func17, Tryd.ntmps17
  go_upto_region 1 with fail
  show Code.wp _ _ _ _ (fed2 W (.pointer (some ⟨b, 0, none⟩)))
  rw [hW2]
  clear hW2
  go_wp2_with (go_at_call 30; refine HM.out.mono ?_; rintro e W2 ⟨rfl, rfl⟩)
  exact ⟨_, feed_end (HE.out.set (.int .i64 3)) _ rfl, rfl, HB.out.setCell (p := ⟨W.heap.size + 1, 0, none⟩) (Nat.le_succ _) _⟩
set_option maxRecDepth 100000 in
set_option maxHeartbeats 4000000 in
theorem feed_brk (W : World) (b : Nat) (k : Nat) (s : ByteArray) (hb : b < W.heap.size) (h : W.cell? ⟨b, 0, none⟩ = some (.int .u8 5)) (h1 : W.cell? ⟨b, 1, none⟩ = some (.int .i64 k)) : Calls Tryd.prog 17 #[.pointer (some ⟨b, 0, none⟩), .string s] W fun e W' => e = .returned (.tuple #[.int .i64 0, .bool false, .int .i64 k]) ∧ Below W.heap.size W W' := by
  have HR := hid (fed2_r W (.pointer (some ⟨b, 0, none⟩)))
  have HE := hid (fed2_e W (.pointer (some ⟨b, 0, none⟩)))
  have HB := hid (fed2_below W (.pointer (some ⟨b, 0, none⟩)))
  obtain ⟨W2, hW2⟩ : ∃ x, fed2 W (.pointer (some ⟨b, 0, none⟩)) = x := ⟨_, rfl⟩
  rw [hW2] at HR HE HB
  have c0 := HR.out.cell
  have cs : W2.cell? ⟨b, 0, none⟩ = some (.int .u8 5) := (World.cell?_of_block (HB.out.block b hb)).trans h
  have HC := hid (show W2.cell? ⟨b, 1, none⟩ = some (.int .i64 k) from (World.cell?_of_block (HB.out.block b hb)).trans h1)
  have HM := hid (made_any W2 b 5 cs (by decide))
  clear h h1
  go_enter_defers Tryd.func17, Tryd.ntmps17
  go_upto_region 1 with fail
  show Code.wp _ _ _ _ (fed2 W (.pointer (some ⟨b, 0, none⟩)))
  rw [hW2]
  clear hW2
  go_upto_region 6 with (go_at_call 30; refine HM.out.mono ?_; rintro e W2 ⟨rfl, rfl⟩)
  have hS : W2.heap[W.heap.size]? = some (.cells #[.pointer (some ⟨b, 0, none⟩)] 45 (0, 0)) ∧ W2.cell? ⟨b, 1, none⟩ = some (.int .i64 k) := ⟨HR.out, HC.out⟩
  refine E.wp_region_last (fun X => X.heap[W.heap.size]? = some (.cells #[.pointer (some ⟨b, 0, none⟩)] 45 (0, 0)) ∧ X.cell? ⟨b, 1, none⟩ = some (.int .i64 k)) [(0, true), (1, true), (2, true), (3, true), (4, true), (5, true)] 6 _ rfl (by kernel_rfl) (by kernel_rfl) hS ?_
  simp only [E.selS, List.filterMap_cons, List.filterMap_nil, List.getElem?_cons_succ, List.getElem?_cons_zero, Option.map_some]
  clear hS c0 cs
  refine E.wpS_val (.pointer (some ⟨b, 0, none⟩)) (by rfl) (fun X hS => by have q1 := cell_of_row X W.heap.size 0 _ _ _ hS.1; simp only [List.getElem?_toArray, List.getElem?_cons_zero] at q1; go_simp) ?_
  simp only [Act.put, List.setIfInBounds_toArray, List.set_cons_succ, List.set_cons_zero]
  refine E.wpS_val (.pointer (some ⟨b, 0, none⟩)) (by rfl) (fun X hS => by go_simp) ?_
  simp only [Act.put, List.setIfInBounds_toArray, List.set_cons_succ, List.set_cons_zero]
  refine E.wpS_val (.pointer (some ⟨b, 1, none⟩)) (by rfl) (fun X hS => by go_simp) ?_
  simp only [Act.put, List.setIfInBounds_toArray, List.set_cons_succ, List.set_cons_zero]
  refine E.wpS_val (.int .i64 k) (by rfl) (fun X hS => by have q1 := hS.2; go_simp) ?_
  simp only [Act.put, List.setIfInBounds_toArray, List.set_cons_succ, List.set_cons_zero]
  refine E.wpS_val (.int .i64 0) (by rfl) (fun X hS => by go_simp) ?_
  simp only [Act.put, List.setIfInBounds_toArray, List.set_cons_succ, List.set_cons_zero]
  refine E.wpS_val (.bool false) (by rfl) (fun X hS => by go_simp) ?_
  simp only [Act.put, List.setIfInBounds_toArray, List.set_cons_succ, List.set_cons_zero]
  show wpList _ _ _ [_] _ (World.drew W2)
  have HE2 : Hid (Boxed (World.drew W2) (W.heap.size + 1) 28 (.int .i64 0)) := HE.out
  have HB2 := hid (below_drew HB.out)
  obtain ⟨wd, hwd⟩ : ∃ x, World.drew W2 = x := ⟨_, rfl⟩
  rw [hwd] at HE2 HB2 ⊢
  clear hwd HE HB HR HC HM
  have ce := HE2.out.cell
  have fe := HE2.out.frozen
  go_wp2
  refine ⟨rfl, ?_⟩
  go_wp2
  exact ⟨_, feed_end (HE2.out.set (.int .i64 k)) _ rfl, rfl, HB2.out.setCell (p := ⟨W.heap.size + 1, 0, none⟩) (Nat.le_succ _) _⟩
end Go.Proofs.YtacbfbhhhofifaaDoor.Hd
