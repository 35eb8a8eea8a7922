/- head: what is wrong is recovered. (Stage 19.) -/
import Derived.Test.YtacbfbhhhofifaaDoorHPJ
import Derived.Recover
import Derived.Defers
import Derived.RangeFuncBox
namespace Go.Proofs.YtacbfbhhhofifaaDoor.Hd
open Go.RowKit
open Go.Proofs.YtacbfbhhhofifaaDoor.F (bn bn_length bn_append bn_inj bn_get byte_bd hid bn_extract isEmpty_false isEmpty_true str_eq same_eq)
set_option linter.unusedVariables false

theorem Bel.boxed {base : Nat} {W W' : World} (h : Bel base W W') {B : Nat} {t : TypeId} {u : Value} (hb : Boxed W B t u) (h1 : t ≠ 62) (h2 : t ≠ 5) (h3 : t ≠ 40) : Boxed W' B t u :=
  (h.no B _ _ _ hb h1 h2 h3).trans hb
theorem boxed_setA {W : World} {B B' : Nat} {t t' : TypeId} {v x : Value} (h : Boxed W B t v) (h' : Boxed W B' t' x) (ht : t ≠ t') (u : Value) : Boxed (W.setCell ⟨B', 0, none⟩ u) B t v :=
  (Below.heap_setCell W ⟨B', 0, none⟩ u B (fun e => by subst e; have h1 : W.heap[B]? = _ := h; have h2 : W.heap[B]? = _ := h'; rw [h1] at h2; cases h2; exact ht rfl)).trans h
theorem Mem.apart {base : Nat} {W : World} {b : Nat} {st wr n : Int} {L : Value} {M T : ByteArray} {v : Int} {F : Value} {l : List Int} {fs : List Fb} (h : Mem base W b st wr n L M T v F l fs) {B : Nat} {t : TypeId} {u : Value} (hb : Boxed W B t u) (ht : t ≠ 62) : B ≠ b := by
  rintro rfl
  have h1 : W.heap[B]? = _ := hb
  have h2 := h.row
  rw [h1] at h2
  injection h2 with h2
  injection h2 with _ h2
  exact ht h2
/-- A box beside the reader is set. -/
theorem Mem.setBox {base : Nat} {W : World} {b : Nat} {st wr n : Int} {L : Value} {M T : ByteArray} {v : Int} {F : Value} {l : List Int} {fs : List Fb} (h : Mem base W b st wr n L M T v F l fs) {B : Nat} {t : TypeId} {u : Value} (hb : Boxed W B t u) (h1 : t ≠ 62) (h2 : t ≠ 5) (h3 : t ≠ 40) (x : Value) : Mem base (W.setCell ⟨B, 0, none⟩ x) b st wr n L M T v F l fs := by
  have hB : W.heap[B]? = _ := hb
  refine ⟨h.hb, (Below.heap_setCell _ _ _ _ (Ne.symm (h.apart hb h1))).trans h.row, h.ln.keep fun g cur _ hg => Below.heap_setCell _ _ _ _ ?_, h.fl.keepT fun g cur _ hg => Below.heap_setCell _ _ _ _ ?_⟩
  · rintro rfl; rw [hg] at hB; cases hB; exact h2 rfl
  · rintro rfl; rw [hg] at hB; cases hB; exact h3 rfl
set_option maxRecDepth 100000 in
set_option maxHeartbeats 4000000 in
theorem catch_panicking (base Be Br b : Nat) (e1 : base ≤ Be) (y : Int) (k n : Nat) (w : World) (he : Boxed w Be 28 (.int .i64 y)) (hr : Boxed w Br 45 (.pointer (some ⟨b, 0, none⟩))) (hm : Ruin base w b n) :
    CallsD Tryd.prog 31 #[.pointer (some ⟨Be, 0, none⟩), .pointer (some ⟨Br, 0, none⟩)] (.panicking (faultV k)) w fun e u' w' =>
      e = .returned (.tuple #[]) ∧ u' = .panicking [{ v := .iface 63 (.int .i64 k), recovered := true }] ∧ Boxed w' Be 28 (.int .i64 k) ∧ Mem base w' b 5 k n (.slice none 0 0) ⟨#[]⟩ ⟨#[]⟩ 0 (.slice none 0 0) [] [] ∧ Below base w w' := by
  obtain ⟨st, wr, L, M, T, v, F, l, fs, hm⟩ := hm
  have c1 := he.cell
  have f1 := he.frozen
  have c2 := hr.cell
  have f2 := hr.frozen
  unfold faultV
  refine callsD_of_wpS Tryd.func31 rfl fun c₀ cs hu => ?_
  apply wpS_seq
  apply wpS_region
  simp [wpOpsS, go_sem, recoverD, hu, Tryd.ntmps31, Exit.thenS]
  refine wpS_of_wp ?_
  have hta : ∀ W, (Instr.typeAssert (.iface 63 (.int .i64 k)) 20 63 false).run Tryd.prog W = .ok (.int .i64 k) W := fun W => by kernel_rfl
  simp only [Array.replicate_succ, Array.replicate_zero, List.push_toArray, List.append_toArray, List.nil_append, List.cons_append, List.setIfInBounds_toArray, List.set_cons_zero, List.set_cons_succ]
  have HM := hid (hm.setBox he (by decide) (by decide) (by decide) (.int .i64 k))
  have HE := hid (he.set (.int .i64 k))
  have HR := hid (boxed_setA hr he (by decide) (.int .i64 k))
  have HB : Hid (Below base w (w.setCell ⟨Be, 0, none⟩ (.int .i64 k))) := (Below.refl base w).setCell (p := ⟨Be, 0, none⟩) e1 _
  clear hm he hr
  go_upto_region 3 with fail
  obtain ⟨W, hW⟩ : ∃ W, w.setCell ⟨Be, 0, none⟩ (.int .i64 k) = W := ⟨_, rfl⟩
  rw [hW] at HM HE HR HB ⊢
  clear hW
  have hS : W.heap[Br]? = some (.cells #[.pointer (some ⟨b, 0, none⟩)] 45 (0, 0)) ∧ W.heap[Be]? = some (.cells #[.int .i64 k] 28 (0, 0)) ∧ W.cell? ⟨b, 2, none⟩ = some (.int .i64 n) := ⟨HR.out, HE.out, HM.out.cell 2⟩
  refine E.wp_region_last (fun W => W.heap[Br]? = some (.cells #[.pointer (some ⟨b, 0, none⟩)] 45 (0, 0)) ∧ W.heap[Be]? = some (.cells #[.int .i64 k] 28 (0, 0)) ∧ W.cell? ⟨b, 2, none⟩ = some (.int .i64 n)) [(0, true), (1, true), (2, true), (3, true), (4, true), (5, true), (6, true), (7, true)] 8 _ rfl (by kernel_rfl) (by kernel_rfl) hS ?_
  simp only [E.selS, List.filterMap_cons, List.filterMap_nil, List.getElem?_cons_succ, List.getElem?_cons_zero, Option.map_some]
  clear hS c1 f1 c2 f2
  refine E.wpS_val (.pointer (some ⟨b, 0, none⟩)) (by rfl) (fun W hS => by have q1 := cell_of_row W Br 0 _ _ _ hS.1; simp only [List.getElem?_toArray, List.getElem?_cons_zero] at q1; go_simp) ?_
  simp only [Act.put, List.setIfInBounds_toArray, List.set_cons_succ, List.set_cons_zero]
  refine E.wpS_val (.int .i64 k) (by rfl) (fun W hS => by have q1 := cell_of_row W Be 0 _ _ _ hS.2.1; simp only [List.getElem?_toArray, List.getElem?_cons_zero] at q1; go_simp) ?_
  simp only [Act.put, List.setIfInBounds_toArray, List.set_cons_succ, List.set_cons_zero]
  refine E.wpS_val (.pointer (some ⟨b, 0, none⟩)) (by rfl) (fun W hS => by have q1 := cell_of_row W Br 0 _ _ _ hS.1; simp only [List.getElem?_toArray, List.getElem?_cons_zero] at q1; go_simp) ?_
  simp only [Act.put, List.setIfInBounds_toArray, List.set_cons_succ, List.set_cons_zero]
  refine E.wpS_val (.pointer (some ⟨b, 0, none⟩)) (by rfl) (fun W hS => by go_simp) ?_
  simp only [Act.put, List.setIfInBounds_toArray, List.set_cons_succ, List.set_cons_zero]
  refine E.wpS_val (.pointer (some ⟨b, 2, none⟩)) (by rfl) (fun W hS => by go_simp) ?_
  simp only [Act.put, List.setIfInBounds_toArray, List.set_cons_succ, List.set_cons_zero]
  refine E.wpS_val (.int .i64 n) (by rfl) (fun W hS => by have q1 := hS.2.2; go_simp) ?_
  simp only [Act.put, List.setIfInBounds_toArray, List.set_cons_succ, List.set_cons_zero]
  refine E.wpS_val (.agg #[.int .u8 5, .int .i64 k, .int .i64 n, .slice none 0 0, .string ⟨#[]⟩, .string ⟨#[]⟩, .int .u8 0, .slice none 0 0]) (by rfl) (fun W hS => by go_simp) ?_
  simp only [Act.put, List.setIfInBounds_toArray, List.set_cons_succ, List.set_cons_zero]
  refine E.wpS_val (.pointer (some ⟨b, 0, none⟩)) (by rfl) (fun W hS => by go_simp) ?_
  simp only [Act.put, List.setIfInBounds_toArray, List.set_cons_succ, List.set_cons_zero]
  have HM2 := hid HM.out.drew
  show wpList _ _ _ [_] _ (World.drew W)
  obtain ⟨wd, hwd⟩ : ∃ x, World.drew W = x := ⟨_, rfl⟩
  have HE2 : Hid (Boxed (World.drew W) Be 28 (.int .i64 k)) := HE.out
  have HB2 := hid (below_drew HB.out)
  rw [hwd] at HM2 HE2 HB2 ⊢
  clear hwd HM HE HR HB
  go_wp2_with (refine wpList_store_row rfl 62 (.tmp 15) (.tmp 14) rfl b (rw8 5 k n (.slice none 0 0) ⟨#[]⟩ ⟨#[]⟩ 0 (.slice none 0 0)) rfl rfl 62 _ HM2.out.row (by kernel_rfl) rfl (by simp [rw8, Value.oneCell']) ?_)
  refine ⟨rfl, ?_⟩
  obtain ⟨m9, b9, _⟩ := HM2.out.set 5 k n (.slice none 0 0) ⟨#[]⟩ ⟨#[]⟩ 0 (.slice none 0 0) [] [] (LnOwn.nil _ _) (FldOwn.nil _ _)
  have HE9 : Boxed (wd.setRow b (rw8 5 k n (.slice none 0 0) ⟨#[]⟩ ⟨#[]⟩ 0 (.slice none 0 0))) Be 28 (.int .i64 k) := (setRow_other _ _ _ _ (HM2.out.apart HE2.out (by decide))).trans HE2.out
  have HBB := HB2.out.trans b9.lo
  obtain ⟨V, hV⟩ : ∃ V, wd.setRow b (rw8 5 k n (.slice none 0 0) ⟨#[]⟩ ⟨#[]⟩ 0 (.slice none 0 0)) = V := ⟨_, rfl⟩
  rw [hV] at m9 HE9 HBB ⊢
  show bodyPostS Tryd.prog Tryd.f31 c₀ cs _ Exit.normal _ _ _
  simp [bodyPostS, results, Tryd.results31]
  exact ⟨HE9, m9, HBB⟩
set_option maxRecDepth 100000 in
set_option maxHeartbeats 2000000 in
theorem catch_idle (Be Br : Nat) (w : World) :
    CallsD Tryd.prog 31 #[.pointer (some ⟨Be, 0, none⟩), .pointer (some ⟨Br, 0, none⟩)] .returning w fun e u' w' => e = .returned (.tuple #[]) ∧ u' = .returning ∧ w' = w := by
  refine callsD_of_wpS Tryd.func31 rfl fun c₀ cs hu => ?_
  apply wpS_seq
  apply wpS_region
  simp [wpOpsS, go_sem, recoverD, hu, Tryd.ntmps31, Exit.thenS]
  refine wpS_of_wp ?_
  simp only [Array.replicate_succ, Array.replicate_zero, List.push_toArray, List.append_toArray, List.nil_append, List.cons_append, List.setIfInBounds_toArray, List.set_cons_zero, List.set_cons_succ]
  go_wp2
  cases c₀
  simp_all [bodyPostS, results, Tryd.results31]
end Go.Proofs.YtacbfbhhhofifaaDoor.Hd
