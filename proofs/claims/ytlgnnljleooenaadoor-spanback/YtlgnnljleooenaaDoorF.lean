/- What the frames share: what the listed tables hold, and what a slice of spans that came in leads to. -/
import Derived.Test.YtlgnnljleooenaaDoorRows
import Derived.Test.YtlgnnljleooenaaDoorN
import Derived.ProofKit
import Derived.LaidMore
import Derived.OpenShut
import Derived.Stop.Joined
import Derived.Lib.LaidTab
import Derived.Deep.SlicePairs
namespace Go.Proofs.YtlgnnljleooenaaDoor
open Go.ChangeShapes Go.WideShapes Go.ChangeAt Go.RowKit
set_option linter.unusedVariables false

abbrev laid3 : List (String × DataW Unit) := Rows.spanOneRow.laid
/-- The second listed variable's name. -/
abbrev nm64 : String := ((Rows.spanOneRow.laid.map (·.1)).drop 1).headD default
def tab64 : List Int := [0, 1, 56, 2, 57, 49, 28, 3, 61, 58, 42, 50, 38, 29, 17, 4, 62, 47, 59, 36, 45, 43, 51, 22, 53, 39, 33, 30, 24, 18, 12, 5, 63, 55, 48, 27, 60, 41, 37, 16, 46, 35, 44, 21, 52, 32, 23, 11, 54, 26, 40, 15, 34, 20, 31, 10, 25, 14, 19, 9, 13, 8, 7, 6]
theorem own : ownKnob Tryd.prog.godebug = none := by kernel_rfl
theorem laidOut : laidOutB Tryd.prog = true := by kernel_rfl
theorem g64 : Tryd.prog.globalNamed nm64 = some 2 := by kernel_rfl
theorem t64 : (Tryd.prog.globals[2]?).map (·.type) = some 119 := by kernel_rfl
theorem of_laid {W : World} (h : laidMetH Tryd.prog laid3 W) : Tab W := by
  rw [MakeChecks.laidMetH_plain _ _ _ (by kernel_rfl)] at h
  obtain ⟨ps, ⟨g0, t0, cs0, f0, p0, q0, hg0, ht0, hv0, hd0, ⟨g1, t1, cs1, f1, p1, q1, hg1, ht1, hv1, hd1, _, _⟩, _⟩, _, _⟩ := h
  obtain rfl := Option.some.inj (g64.symm.trans hg1)
  obtain rfl := Option.some.inj (t64.symm.trans ht1)
  have hT : Lib.TabIs Tryd.prog W nm64 .u8 tab64 := by
    unfold Lib.TabIs
    refine hv1.trans ?_
    rw [← Lib.cells_of_tab (zs := tab64) Tryd.underlying119 Tryd.underlying5 (by kernel_rfl) (by kernel_rfl) hd1]
  exact hT.cell g64 15 (by decide)
theorem door_met (os : Os) (args : Array Value) : laidMetH Tryd.prog laid3 ((World.doorLaid Tryd.prog 4000 os).forCall (fun _ _ => 0) ⟨#[], args, []⟩).memory :=
  laidMetH_of_parts3 (fuel := 8) (laidMet_of_run' 8 (by kernel_rfl) (by kernel_rfl)) (by kernel_rfl) (by kernel_rfl)

theorem open_spans {H : Type} {enc : TypeId × Value → H} {W : World} {base fuel : Nat} {spare : Nat → Bool} {held : Bool} {a : Option Addr} {len cap : Nat} {x : DataW H × List MemPlace}
    (h : DataW.trod enc Tryd.prog W base spare held fuel 22 [.slice a len cap] = some x) : ∃ l : List Sp, l.length = len ∧ len ≤ maxLen ∧ SpansAt W (.slice a len cap) l := by
  have hu44 : Tryd.prog.underlying 44 = some (.struct (Tryd.prog.fieldsOf 44)) := by kernel_rfl
  have hf : (Tryd.prog.fieldsOf 44).toList.map (fun f => (f.type, f.offset)) = [(21, 0), (21, 1)] := by kernel_rfl
  obtain ⟨f, g, hfg, h1, h2⟩ : ∃ f g, (Tryd.prog.fieldsOf 44) = #[f, g] ∧ (f.type, f.offset) = (21, 0) ∧ (g.type, g.offset) = (21, 1) := by
    generalize hL : (Tryd.prog.fieldsOf 44) = L at hf
    obtain ⟨L⟩ := L
    rcases L with _ | ⟨f, _ | ⟨g, _ | ⟨h, L⟩⟩⟩ <;> simp at hf
    exact ⟨f, g, rfl, by simp [hf], by simp [hf]⟩
  simp only [Prod.mk.injEq] at h1 h2
  rw [hfg] at hu44
  have c21 : Tryd.prog.cellsOf 21 = 1 := by kernel_rfl
  rcases Go.Deep.open_slice_pairs Tryd.underlying22 hu44 (by kernel_rfl) h1.2 h2.2 (by rw [h1.1]; exact c21) (by rw [h2.1]; exact c21) h with ⟨hcs, _⟩ | ⟨ad, l, c, m, n, V0, V1, D0, D1, P0, P1, hcs, _, hl, hm, hmm, _, hc⟩
  · simp only [List.cons.injEq, Value.slice.injEq, and_true] at hcs
    obtain ⟨rfl, rfl, rfl⟩ := hcs
    exact ⟨[], rfl, Nat.zero_le _, none, 0, rfl, fun _ => rfl, fun h => by simp at h⟩
  · simp only [List.cons.injEq, Value.slice.injEq, and_true] at hcs
    obtain ⟨rfl, rfl, rfl⟩ := hcs
    have hlm : len ≤ m := by rw [hmm]; split <;> omega
    have ex : ∀ i, i < len → ∃ s : Sp, V0 i = .int .i32 s.1 ∧ V1 i = .int .i32 s.2 := by
      intro i hi
      obtain ⟨-, -, hd0, hd1⟩ := hc i (by omega)
      rw [h1.1] at hd0
      rw [h2.1] at hd1
      obtain ⟨k0, e0, _⟩ := DataW.trod_int Tryd.underlying21 hd0
      obtain ⟨k1, e1, _⟩ := DataW.trod_int Tryd.underlying21 hd1
      exact ⟨(k0, k1), by simpa using e0, by simpa using e1⟩
    obtain ⟨F, hF⟩ : ∃ F : Nat → Sp, ∀ i, i < len → V0 i = .int .i32 (F i).1 ∧ V1 i = .int .i32 (F i).2 := by
      refine ⟨fun i => if hi : i < len then Classical.choose (ex i hi) else (0, 0), fun i hi => ?_⟩
      simp only [hi, dif_pos]
      exact Classical.choose_spec (ex i hi)
    refine ⟨(List.range len).map F, by simp, by omega, some ad, cap, by simp, (fun e => by cases e), fun hp => ?_⟩
    simp only [List.length_map, List.length_range] at hp ⊢
    obtain ⟨b, off, spot⟩ := ad
    have hspot : spot = none := by
      have := (hc 0 (by omega)).1
      rw [Nat.zero_mul] at this
      simpa [Addr.add] using World.cell?_spot this
    subst hspot
    refine ⟨b, off, rfl, fun j hj => ?_⟩
    obtain ⟨c0, c1, -, -⟩ := hc j (by omega)
    rw [addr_add, (hF j hj).1] at c0
    rw [addr_add, (hF j hj).2] at c1
    have e : ((List.range len).map F)[j]?.getD (0, 0) = F j := by simp [hj]
    rw [e]
    exact ⟨c0, by rw [Nat.add_assoc]; exact c1⟩
end Go.Proofs.YtlgnnljleooenaaDoor
