/- lex.Lex: what ends it is recovered; its results. (Stage 15.) -/
import Derived.Test.YtphkdagapoonjaaGreatDoorLPL
import Derived.Recover
import Derived.RecoverIn
import Derived.Defers
import Derived.DefersIn
import Derived.RegionIn
import Derived.Laws.ResultCell
import Derived.Deep.MidRow
namespace Go.Proofs.YtphkdagapoonjaaGreatDoor.Lx
open Go.RowKit
open Go.Proofs.YtphkdagapoonjaaGreatDoor.F (bn bn_length bn_append bn_inj bn_get byte_bd hid bn_extract isEmpty_false isEmpty_true str_eq same_eq)
open Go.Proofs.YtphkdagapoonjaaGreatDoor.U (nx enc encs scal val Bytes)
set_option linter.unusedVariables false

/-- A fault, as it lies in memory. -/
abbrev fcs (e l a : Int) : Array Value := #[.int .i64 e, .int .i64 l, .int .i64 a]
theorem finfo (e l a : Int) : (Tryz.prog.info? 26).map (·.size) = some (fcs e l a).size := by kernel_rfl
theorem fone (e l a : Int) : (fcs e l a).all (·.oneCell') = true := by simp [fcs, Value.oneCell']
def Fb (w : World) (B : Nat) (e l a : Int) : Prop := w.heap[B]? = some (Obj.cells (fcs e l a) 26 (0, 0))
theorem Fb.cells {w : World} {B : Nat} {e l a : Int} (h : Fb w B e l a) : w.cell? ⟨B, 0, none⟩ = some (.int .i64 e) ∧ w.cell? ⟨B, 1, none⟩ = some (.int .i64 l) ∧ w.cell? ⟨B, 2, none⟩ = some (.int .i64 a) :=
  ⟨cell_of_row _ _ _ _ _ _ h, cell_of_row _ _ _ _ _ _ h, cell_of_row _ _ _ _ _ _ h⟩
theorem Fb.set {w : World} {B B' : Nat} {e l a : Int} {T : TypeId} {v : Value} (h : Fb w B e l a) (hv : Boxed w B' T v) (hT : T ≠ 26) (u : Value) : Fb (w.setCell ⟨B', 0, none⟩ u) B e l a := by
  have h1 : w.heap[B']? = some (Obj.cells #[v] T (0, 0)) := hv
  have h2 : w.heap[B]? = some (Obj.cells (fcs e l a) 26 (0, 0)) := h
  refine (Below.heap_setCell _ _ _ _ (fun e => ?_)).trans h2
  rw [e, h1] at h2
  injection h2 with h2; injection h2 with _ h2; exact hT h2
theorem boxed_row {w : World} {B B' : Nat} {T : TypeId} {v : Value} {e l a : Int} (hv : Boxed w B T v) (h : Fb w B' e l a) (hT : T ≠ 26) (cs : Array Value) : Boxed (w.setRow B' cs) B T v := by
  have h1 : w.heap[B]? = some (Obj.cells #[v] T (0, 0)) := hv
  have h2 : w.heap[B']? = some (Obj.cells (fcs e l a) 26 (0, 0)) := h
  refine (setRow_other _ _ _ _ (fun e => ?_)).trans h1
  rw [e, h2] at h1
  injection h1 with h1; injection h1 with _ h1; exact hT h1.symm
theorem Fb.row {w : World} {B : Nat} {e l a : Int} (h : Fb w B e l a) (e' l' a' : Int) : Fb (w.setRow B (fcs e' l' a')) B e' l' a' := setRow_heap _ _ _ _ _ (0, 0) h
theorem below_row {B : Nat} {a w : World} (h : Below B a w) {g : Nat} (hg : B ≤ g) (cs : Array Value) : Below B a (w.setRow g cs) := by
  refine ⟨h.os, h.tape, h.output, ?_, fun k hk => ?_⟩
  · rw [setRow_size]; exact h.size
  · rw [setRow_other _ _ _ _ (by omega)]; exact h.block k hk
theorem results_cells {fn : Func} {p u : Tmp} {ty tz : TypeId} (h : fn.results = #[.cell p ty, .cell u tz]) (tmps : Array Value) (P : Program) (w : World) :
    (results fn tmps).run P w =
      ((asAddr (tmps.getD p undef)).run P w).andThen fun a w₁ => ((loadVar ty a).run P w₁).andThen fun v w₂ => ((asAddr (tmps.getD u undef)).run P w₂).andThen fun b w₃ => ((loadVar tz b).run P w₃).andThen fun x w₄ => .ok (.tuple #[v, x]) w₄ := by
  simp only [results, h]
  simp [Sem.run_bind, Result.andThen]
/-- The last of labels. -/
theorem lex_results {w : World} {Bl Bf : Nat} {v : Value} {e l a : Int} (hl : Boxed w Bl 23 v) (hf : Fb w Bf e l a) (hv : ∃ ad n c, v = .slice ad n c) (tmps : Array Value)
    (h2 : tmps.getD 2 undef = .pointer (some ⟨Bl, 0, none⟩)) (h3 : tmps.getD 3 undef = .pointer (some ⟨Bf, 0, none⟩)) :
    (results Tryz.f6 tmps).run Tryz.prog w = .ok (.tuple #[v, .agg (fcs e l a)]) w := by
  obtain ⟨ad, n, c, rfl⟩ := hv
  have c1 := hl.cell
  rw [results_cells (p := 2) (u := 3) (ty := 23) (tz := 26) rfl, h2, h3]
  have hl1 : (loadVar 23 ⟨Bl, 0, none⟩).run Tryz.prog w = .ok (.slice ad n c) w := by go_simp
  have hl2 : (loadVar 26 ⟨Bf, 0, none⟩).run Tryz.prog w = .ok (.agg (fcs e l a)) w := run_loadVar_row w Bf 26 26 (fcs e l a) (0, 0) _ hf Tryz.underlying26 rfl (finfo ..)
  simp [asAddr, Result.andThen, hl1, hl2]
theorem cell_row {w : World} {g : Nat} {cs : Array Value} {t : TypeId} (h : w.heap[g]? = some (Obj.cells cs t (0, 0))) (k : Nat) (v : Value) : (w.setCell ⟨g, k, none⟩ v).heap[g]? = some (Obj.cells (cs.setIfInBounds k v) t (0, 0)) := by
  rw [setCell_eq_setRow w g k cs t (0, 0) v h]
  exact setRow_heap _ _ _ _ _ (0, 0) h
theorem three {w : World} {B : Nat} {x0 x1 x2 : Int} (h : Fb w B x0 x1 x2) (e l a : Int) :
    Fb (((w.setCell ⟨B, 0, none⟩ (.int .i64 e)).setCell ⟨B, 1, none⟩ (.int .i64 l)).setCell ⟨B, 2, none⟩ (.int .i64 a)) B e l a ∧
    (∀ (Bl : Nat) (T : TypeId) (v : Value), Boxed w Bl T v → T ≠ 26 → Boxed (((w.setCell ⟨B, 0, none⟩ (.int .i64 e)).setCell ⟨B, 1, none⟩ (.int .i64 l)).setCell ⟨B, 2, none⟩ (.int .i64 a)) Bl T v) ∧
    (∀ (C : Nat) (a0 : World), C ≤ B → Below C a0 w → Below C a0 (((w.setCell ⟨B, 0, none⟩ (.int .i64 e)).setCell ⟨B, 1, none⟩ (.int .i64 l)).setCell ⟨B, 2, none⟩ (.int .i64 a))) := by
  refine ⟨cell_row (cell_row (cell_row h 0 (.int .i64 e)) 1 (.int .i64 l)) 2 (.int .i64 a), fun Bl T v hv hT => ?_, fun C a0 hC hb => ((hb.setCell (p := ⟨B, 0, none⟩) hC _).setCell (p := ⟨B, 1, none⟩) hC _).setCell (p := ⟨B, 2, none⟩) hC _⟩
  have hne : Bl ≠ B := by
    intro e
    have h1 : w.heap[Bl]? = some (Obj.cells #[v] T (0, 0)) := hv
    have h2 : w.heap[B]? = some (Obj.cells (fcs x0 x1 x2) 26 (0, 0)) := h
    rw [e, h2] at h1
    injection h1 with h1; injection h1 with _ h1; exact hT h1.symm
  exact (Below.heap_setCell _ _ _ _ hne).trans ((Below.heap_setCell _ _ _ _ hne).trans ((Below.heap_setCell _ _ _ _ hne).trans hv))
set_option maxRecDepth 100000 in
set_option maxHeartbeats 4000000 in
theorem lex_caught (n B Bl Bf : Nat) (b1 : B ≤ Bl) (b2 : B ≤ Bf) (v : Value) (e l a : Int) (x0 x1 x2 : Int) (w : World) (hl : Boxed w Bl 23 v) (hf : Fb w Bf x0 x1 x2) (hv : ∃ ad n c, v = .slice ad n c) :
    CallsDIn Fence.wide n Tryz.prog 14 #[.pointer (some ⟨Bl, 0, none⟩), .pointer (some ⟨Bf, 0, none⟩)] (.panicking (faultV e l a)) w fun en u' w' =>
      en = .returned (.tuple #[]) ∧ u' = .panicking [{ v := .iface 41 (.agg (fcs e l a)), recovered := true }] ∧ Boxed w' Bl 23 (.slice none 0 0) ∧ Fb w' Bf e l a ∧ Below B w w' := by
  obtain ⟨ad, k, c, rfl⟩ := hv
  have c1 := hl.cell
  have f1 := hl.frozen
  have HL := hid hl
  have HF := hid hf
  unfold faultV
  refine callsDIn_of_wpSIn Tryz.func14 rfl trivial fun c₀ cs hu => ?_
  apply wpSIn_seq
  apply wpSIn_region
  simp [wpOpsSIn, go_sem, recoverD, hu, Tryz.ntmps14, Exit.thenS]
  refine wpSIn_of_wpIn rfl (wpIn_wide.2 ?_)
  have hta : ∀ W, (Instr.typeAssert (.iface 41 (.agg (fcs e l a))) 20 41 false).run Tryz.prog W = .ok (.agg (fcs e l a)) W := fun W => by kernel_rfl
  simp only [Array.replicate_succ, Array.replicate_zero, List.push_toArray, List.append_toArray, List.nil_append, List.cons_append, List.setIfInBounds_toArray, List.set_cons_zero, List.set_cons_succ]
  obtain ⟨W1, hW1⟩ : ∃ W1, w.setCell ⟨Bl, 0, none⟩ (.slice none 0 0) = W1 := ⟨_, rfl⟩
  have hd : w.drew.setCell ⟨Bl, 0, none⟩ (.slice none 0 0) = W1.drew := by rw [← hW1]; rfl
  have HL1 : Hid (Boxed W1 Bl 23 (.slice none 0 0)) := by rw [← hW1]; exact Boxed.set _ HL.out
  have HF1 : Hid (Fb W1 Bf x0 x1 x2) := by rw [← hW1]; exact HF.out.set HL.out (by decide) _
  have HB1 : Hid (Below B w W1) := by rw [← hW1]; exact (Below.refl B w).setCell (p := ⟨Bl, 0, none⟩) b1 _
  obtain ⟨g0, g1, g2⟩ := HF1.out.cells
  have j0 : W1.frozen? ⟨Bf, 0, none⟩ = false := Lib.frozen_of_heap HF1.out 0
  have j1 : W1.frozen? ⟨Bf, 1, none⟩ = false := Lib.frozen_of_heap HF1.out 1
  have j2 : W1.frozen? ⟨Bf, 2, none⟩ = false := Lib.frozen_of_heap HF1.out 2
  clear hl hf
  go_wp2
  go_region
  obtain ⟨t1, t2, t3⟩ := three HF1.out e l a
  have u2 := t2 Bl 23 _ HL1.out (by decide)
  have u3 := t3 B w b2 HB1.out
  show bodyPostS Tryz.prog Tryz.f14 c₀ cs _ Exit.normal _ _ _
  obtain ⟨V, hV⟩ : ∃ V, ((W1.setCell ⟨Bf, 0, none⟩ (.int .i64 e)).setCell ⟨Bf, 1, none⟩ (.int .i64 l)).setCell ⟨Bf, 2, none⟩ (.int .i64 a) = V := ⟨_, rfl⟩
  rw [hV] at t1 u2 u3 ⊢
  have v1 : Fb V.drew Bf e l a := t1
  have v2 : Boxed V.drew Bl 23 (.slice none 0 0) := u2
  have v3 := u3.drew
  simp [bodyPostS, results, Tryz.results14]
  exact ⟨v2, v1, v3⟩
set_option maxRecDepth 100000 in
set_option maxHeartbeats 2000000 in
theorem lex_idle (n Bl Bf : Nat) (w : World) :
    CallsDIn Fence.wide n Tryz.prog 14 #[.pointer (some ⟨Bl, 0, none⟩), .pointer (some ⟨Bf, 0, none⟩)] .returning w fun en u' w' => en = .returned (.tuple #[]) ∧ u' = .returning ∧ w' = w := by
  refine callsDIn_of_wpSIn Tryz.func14 rfl trivial fun c₀ cs hu => ?_
  apply wpSIn_seq
  apply wpSIn_region
  simp [wpOpsSIn, go_sem, recoverD, hu, Tryz.ntmps14, Exit.thenS]
  refine wpSIn_of_wpIn rfl (wpIn_wide.2 ?_)
  simp only [Array.replicate_succ, Array.replicate_zero, List.push_toArray, List.append_toArray, List.nil_append, List.cons_append, List.setIfInBounds_toArray, List.set_cons_zero, List.set_cons_succ]
  go_wp2
  cases c₀
  simp_all [bodyPostS, results, Tryz.results14]
end Go.Proofs.YtphkdagapoonjaaGreatDoor.Lx
