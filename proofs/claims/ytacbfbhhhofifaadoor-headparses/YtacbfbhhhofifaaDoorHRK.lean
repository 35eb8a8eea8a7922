/- A first place, once more; a struct answered with a number. (Stage 19, 20.) -/
import Derived.Test.YtacbfbhhhofifaaDoorHRC
import Derived.Deep.WholeRow
import Derived.Laws.ResultCell
namespace Go.Proofs.YtacbfbhhhofifaaDoor.Hd
open Go.RowKit
open Go.Proofs.YtacbfbhhhofifaaDoor.F (bn bn_length bn_append bn_inj bn_get byte_bd hid bn_extract isEmpty_false isEmpty_true str_eq same_eq)
set_option linter.unusedVariables false

theorem bn_mid (s : ByteArray) (i j : Nat) : bn (s.extract i j) = ((bn s).drop i).take (j - i) := by
  unfold bn
  have e : (s.extract i j).data.toList = (s.data.toList.drop i).take (j - i) := by
    rw [ByteArray.data_extract, Array.toList_extract]
  rw [e, List.map_take, List.map_drop]
theorem fnd_off (l : List Int) (c : Int) (i : Nat) : fnd l c i = (fnd (l.drop i) c 0).map (· + i) := by
  unfold fnd
  rw [List.drop_zero, Option.map_map]
  congr 1
theorem dW_nil {p : Int → Bool} : ∀ l : List Int, (∀ x ∈ l, p x = true) → l.dropWhile p = []
  | [], _ => rfl
  | x :: l, h => by rw [List.dropWhile_cons, if_pos (h x (List.mem_cons_self ..))]; exact dW_nil l fun y hy => h y (List.mem_cons_of_mem _ hy)
theorem fnd_no {l : List Int} {c : Int} (h : fnd l c 0 = none) : l.dropWhile (nb c) = [] := by
  rw [fnd_none, List.all_eq_true] at h
  exact dW_nil l h
theorem fnd_yes : ∀ {l : List Int} {c : Int} {a : Nat}, fnd l c 0 = some a → a < l.length ∧ l.takeWhile (nb c) = l.take a ∧ l.dropWhile (nb c) = l.drop a
  | [], c, a, h => by rw [fnd_end (Nat.zero_le _)] at h; cases h
  | x :: l, c, a, h => by
    rw [fnd_step (by simp)] at h
    by_cases e : x = c
    · rw [if_pos (by simpa using e)] at h
      obtain rfl : 0 = a := by simpa using h
      have hb : ¬ nb c x = true := by unfold nb; simp [e]
      exact ⟨by simp, by rw [List.takeWhile_cons, if_neg hb]; rfl, by rw [List.dropWhile_cons, if_neg hb]; rfl⟩
    · rw [if_neg (by simpa using e), fnd_off] at h
      have hb : nb c x = true := by unfold nb; simp [e]
      cases h2 : fnd ((x :: l).drop (0 + 1)) c 0 with
      | none => rw [h2] at h; cases h
      | some b =>
        rw [h2] at h
        have h3 : b + (0 + 1) = a := by simpa using h
        obtain rfl : b + 1 = a := by omega
        obtain ⟨i1, i2, i3⟩ := fnd_yes (l := l) h2
        refine ⟨by simp only [List.length_cons]; omega, ?_, ?_⟩
        · rw [List.takeWhile_cons, if_pos hb, i2]; rfl
        · rw [List.dropWhile_cons, if_pos hb, i3]; rfl
theorem fnd_next {l : List Int} {a b : Nat} {c : Int} (h : fnd l c (a + 1) = some b) : a + 1 ≤ b ∧ fnd (l.drop (a + 1)) c 0 = some (b - (a + 1)) := by
  rw [fnd_off] at h
  cases h2 : fnd (l.drop (a + 1)) c 0 with
  | none => rw [h2] at h; cases h
  | some k =>
    rw [h2] at h
    have h3 : k + (a + 1) = b := by simpa using h
    exact ⟨by omega, by congr 1; omega⟩
theorem fnd_next_no {l : List Int} {a : Nat} {c : Int} (h : fnd l c (a + 1) = none) : fnd (l.drop (a + 1)) c 0 = none := by
  rw [fnd_off] at h
  cases h2 : fnd (l.drop (a + 1)) c 0 with
  | none => rfl
  | some k => rw [h2] at h; cases h
theorem results_hd {fn : Func} {p u : Tmp} {ty : TypeId} (h : fn.results = #[.cell p ty, .tmp u]) (tmps : Array Value) (w : World) (g : Nat) (t : TypeId) (cs : Array Value) (fr : Nat × Nat) (fs : Array Field)
    (hp : tmps.getD p undef = .pointer (some ⟨g, 0, none⟩)) (hg : w.heap[g]? = some (.cells cs t fr))
    (hu : Tryd.prog.underlying ty = some (.struct fs)) (hi : (Tryd.prog.info? ty).map (·.size) = some cs.size) :
    (results fn tmps).run Tryd.prog w = .ok (.tuple #[.agg cs, tmps.getD u undef]) w := by
  rw [results_cell_tmp h]
  have hp' : tmps[p]?.getD undef = .pointer (some ⟨g, 0, none⟩) := by simpa using hp
  simp [hp', asAddr, run_loadVar_row w g t ty cs fr (.struct fs) hg hu rfl hi]
end Go.Proofs.YtacbfbhhhofifaaDoor.Hd
