/- The contracts of the document's Find and Map. -/
import Derived.Test.YtcgfbejcehiolaaDO
import Derived.Deep.MidRow
namespace Go.Proofs.Ytcgfbejcehiolaa.D
open Go.RowKit Go.Lib Go.Sort Go.Shelf
set_option linter.unusedVariables false

def rz : Rr := (0, 0, 0, 0, 0, 0, 0, 0, 0, false, 0)
def inRr (r : Int) (x : Rr) : Bool := decide (x.1 ≤ r ∧ r ≤ x.2.1)
def rpk (d : List Rr) (r : Int) : Rr := (d.find? (inRr r)).getD rz
def rfnd (r : Int) : Rr := rpk rtab r
theorem rpk_hit {d : List Rr} {k : Nat} {r : Int} (hk : k < d.length) (h : (d[k]?.getD rz).1 ≤ r ∧ r ≤ (d[k]?.getD rz).2.1) : rpk (d.drop k) r = d[k]?.getD rz := by
  rw [List.drop_eq_getElem_cons hk]
  rw [List.getElem?_eq_getElem hk] at h ⊢
  simp only [Option.getD_some] at h ⊢
  unfold rpk
  rw [List.find?_cons_of_pos (by simpa [inRr] using h)]
  rfl
theorem rpk_miss {d : List Rr} {k : Nat} {r : Int} (hk : k < d.length) (h : ¬ ((d[k]?.getD rz).1 ≤ r ∧ r ≤ (d[k]?.getD rz).2.1)) : rpk (d.drop k) r = rpk (d.drop (k + 1)) r := by
  rw [List.drop_eq_getElem_cons hk]
  rw [List.getElem?_eq_getElem hk] at h
  simp only [Option.getD_some] at h
  unfold rpk
  rw [List.find?_cons_of_neg (by simpa [inRr] using h)]
theorem rpk_end {d : List Rr} {k : Nat} {r : Int} (hk : d.length ≤ k) : rpk (d.drop k) r = rz := by
  rw [List.drop_of_length_le hk]; rfl
theorem flat11_get (l : List Rr) : ∀ j i, j < l.length → i < 11 → (flat11 l)[j * 11 + i]? = (cells11 (l[j]?.getD rz))[i]? := by
  induction l with
  | nil => intro j i hj; simp at hj
  | cons s l ih =>
    intro j i hj hi
    have e : flat11 (s :: l) = cells11 s ++ flat11 l := rfl
    have hl8 : (cells11 s).length = 11 := rfl
    rcases j with _ | j
    · rw [e, List.getElem?_append_left (by omega)]
      simp
    · have h := ih j i (by simpa using hj) hi
      rw [e, List.getElem?_append_right (by omega), hl8, show (j + 1) * 11 + i - 11 = j * 11 + i by omega, h]
      simp
theorem rtab_len : rtab.length = 88 := by decide

set_option maxRecDepth 100000 in
set_option maxHeartbeats 1600000 in
theorem rfind_any (r : Int) (w : World) :
    Calls Try.prog 19 #[.int .i32 r] w fun e W' => e = .returned (.agg (cells11 (rfnd r)).toArray) ∧ Below w.heap.size w W' := by
  obtain ⟨F, hF⟩ : ∃ F, F = rfnd r := ⟨_, rfl⟩
  have HF : Hid (rpk (rtab.drop 0) r = F) := hF.symm
  rw [← hF]
  clear hF
  have HI : Hid ((Try.prog.info? 30).map (·.size) = some 11) := by show _ = _; kernel_rfl
  go_enter Try.func19, Try.ntmps19
  go_wp2_with fail
  refine (rows_any _).mono ?_
  rintro e w1 ⟨⟨v, rfl, hown⟩, hB1⟩
  have hcell1 : w1.heap[w.heap.size]? = some (.cells #[.int .i32 0, .int .i32 0, .int .u8 0, .int .i32 0, .int .i32 0, .int .i32 0, .int .u8 0, .int .u8 0, .int .u8 0, .bool false, .int .u8 0] 30) := by
    rw [hB1.block _ (by simp)]; exact heap_alloc_last w _
  have hBw : Below w.heap.size w w1 := ((Below.refl _ w).alloc (Nat.le_refl _) _).trans (hB1.mono (by simp))
  obtain ⟨g, cap, rfl⟩ : ∃ g cap, v = .slice (some ⟨g, 0, none⟩) 88 cap := by
    rcases hown.2 with ⟨_, h⟩ | ⟨g, cap, cur, rfl, _⟩
    · omega
    · exact ⟨g, cap, rfl⟩
  have HC : Hid (∀ k i, k < 88 → i < 11 → w1.cell? ⟨g, k * 11 + i, none⟩ = (cells11 (rtab[k]?.getD rz))[i]?) := by
    intro k i hk hi
    rw [hown.cellAt (k * 11 + i) (by omega), flat11_get rtab k i (by rw [rtab_len]; omega) hi]
  have HCELL := hid' hcell1
  have HBW := hid' hBw
  clear hcell1 hBw hB1 hown
  have hfin : Hid (∀ (cs : Array Value) (tm : Array Value), tm.getD 2 undef = .pointer (some ⟨w.heap.size, 0, none⟩) → cs.size = 11 → (results Try.f19 tm).run Try.prog (w1.setRow w.heap.size cs) = .ok (.agg cs) (w1.setRow w.heap.size cs)) := by
    intro cs tm h1 h2
    exact results_cell_row Try.results19 tm _ w.heap.size 30 cs (0, 0) _ h1 (setRow_heap w1 _ _ cs 30 (0, 0) HCELL.out) Try.underlying30 rfl (by rw [h2]; exact HI.out)
  go_wp2_with fail
  go_loop [4] (fun i => ∃ k : Nat, k ≤ 88 ∧ i = .int .i64 k ∧ Hid (rpk (rtab.drop k) r = F)) (fun i => 88 - (intOf i).toNat)
  case atStart => exact ⟨0, by omega, rfl, HF⟩
  case round =>
    obtain ⟨k, hk, rfl, HR⟩ := hrel
    clear HF
    by_cases hlt : k < 88
    · have hlt' : (k : Int) < 88 := by omega
      obtain ⟨x, hx⟩ : ∃ x, x = rtab[k]?.getD rz := ⟨_, rfl⟩
      have hcells := fun i hi => HC.out k i hlt hi
      rw [← hx] at hcells
      have hhit := @rpk_hit rtab k r (by rw [rtab_len]; exact hlt)
      have hmiss := @rpk_miss rtab k r (by rw [rtab_len]; exact hlt)
      rw [← hx] at hhit hmiss
      obtain ⟨x0, x1, x2, x3, x4, x5, x6, x7, x8, x9, x10⟩ := x
      have c0 : w1.cell? ⟨g, k * 11, none⟩ = some (.int .i32 x0) := hcells 0 (by omega)
      have c1 : w1.cell? ⟨g, k * 11 + 1, none⟩ = some (.int .i32 x1) := hcells 1 (by omega)
      obtain ⟨cs, hcs⟩ : ∃ cs : List Value, cs = cells11 (x0, x1, x2, x3, x4, x5, x6, x7, x8, x9, x10) := ⟨_, rfl⟩
      have HRA : Hid (w1.rangeAt g (k * 11) cs) := by
        intro j v hv
        have hj : j < 11 := by have := (List.getElem?_eq_some_iff.1 hv).1; rw [hcs] at this; simpa [cells11] using this
        rw [hcells j hj, ← hv, hcs]
      have HCS : Hid (cs.toArray.size = 11) := by show _ = _; rw [hcs]; rfl
      have HCO : Hid (cs.toArray.all (·.oneCell') = true) := by show _ = _; rw [hcs]; kernel_rfl
      have HCE := hid' hcs
      dsimp only at hhit hmiss
      have HH := hid' hhit
      have HM := hid' hmiss
      clear hx hhit hmiss hcells hcs
      by_cases h1 : x0 ≤ r
      · have h1b : decide (x0 ≤ r) = true := by simpa using h1
        by_cases h2 : r ≤ x1
        · have h2b : decide (r ≤ x1) = true := by simpa using h2
          have HE : Hid (F = (x0, x1, x2, x3, x4, x5, x6, x7, x8, x9, x10)) := by show _ = _; rw [← HR.out, HH.out ⟨h1, h2⟩]
          clear HR HH HM
          go_wp2_with ((refine wpList_load_mid rfl 30 (.tmp 30) rfl g (k * 11) (by rfl) cs _ HRA.out Try.underlying30 (by rfl) (by exact HI.out.trans (by rw [← HCS.out]; rfl)) ?_; refine wpList_store_row rfl 30 (.tmp 2) (.tmp 31) rfl w.heap.size cs.toArray (by rfl) (by rfl) 30 _ (by exact HCELL.out) (by exact HI.out.trans (by rw [HCS.out])) (by exact HCS.out.symm) (by exact HCO.out) (wpList_nil ?_)))
          exact bodyPost_ret (hfin.out cs.toArray _ rfl HCS.out) rfl ⟨by rw [HE.out, HCE.out], below_setRow HBW.out (Nat.le_refl _)⟩
        · have h2b : decide (r ≤ x1) = false := by simpa using h2
          have HE : Hid (rpk (rtab.drop (k + 1)) r = F) := by show _ = _; rw [← HM.out (fun h => h2 h.2)]; exact HR.out
          clear HR HH HM
          go_wp2
          go_round
          case rel => exact ⟨k + 1, by omega, by go_num, HE⟩
          case measure => simp [intOf]; omega
      · have h1b : decide (x0 ≤ r) = false := by simpa using h1
        have HE : Hid (rpk (rtab.drop (k + 1)) r = F) := by show _ = _; rw [← HM.out (fun h => h1 h.1)]; exact HR.out
        clear HR HH HM
        go_wp2
        go_round
        case rel => exact ⟨k + 1, by omega, by go_num, HE⟩
        case measure => simp [intOf]; omega
    · have hlt' : ¬ (k : Int) < 88 := by omega
      have HE : Hid (F = rz) := by show _ = _; rw [← HR.out]; exact rpk_end (by rw [rtab_len]; omega)
      clear HR
      go_wp2_with ((refine wpList_store_row rfl 30 (.tmp 2) (.tmp 32) rfl w.heap.size #[.int .i32 0, .int .i32 0, .int .u8 0, .int .i32 0, .int .i32 0, .int .i32 0, .int .u8 0, .int .u8 0, .int .u8 0, .bool false, .int .u8 0] rfl rfl 30 _ (by exact HCELL.out) (by exact HI.out) (by rfl) (by kernel_rfl) (wpList_nil ?_)))
      exact bodyPost_ret (hfin.out _ _ rfl rfl) rfl ⟨by rw [HE.out]; rfl, below_setRow HBW.out (Nat.le_refl _)⟩
end Go.Proofs.Ytcgfbejcehiolaa.D
