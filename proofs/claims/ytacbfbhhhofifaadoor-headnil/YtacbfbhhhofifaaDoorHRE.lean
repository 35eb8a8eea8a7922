/- The document's Field. (Stage 19.) -/
import Derived.Test.YtacbfbhhhofifaaDoorHRK
import Derived.Test.YtacbfbhhhofifaaDoorGP
import Derived.Laws.CopyOwn
import Derived.Laws.Tables
namespace Go.Proofs.YtacbfbhhhofifaaDoor.Hd
open Go.RowKit
open Go.Proofs.YtacbfbhhhofifaaDoor.F (bn bn_length bn_append bn_inj bn_get byte_bd hid bn_extract isEmpty_false isEmpty_true str_eq same_eq)
set_option linter.unusedVariables false

theorem fld_no {l : List Int} (h : fnd l 58 0 = none) : fld l = none := by
  unfold fld
  simp only
  rw [if_pos (.inl (fnd_no h))]
theorem fld_of {l : List Int} {a : Nat} (h : fnd l 58 0 = some a) : a < l.length ∧ fld l = if tok (l.take a) = false ∨ (l.drop (a + 1)).all vc = false then none else some (sml (l.take a), trm (l.drop (a + 1))) := by
  obtain ⟨i1, i2, i3⟩ := fnd_yes h
  have ea : l.drop a ≠ [] := by intro e; have := congrArg List.length e; simp at this; omega
  have e1 : (l.drop a).drop 1 = l.drop (a + 1) := by rw [List.drop_drop]
  refine ⟨i1, ?_⟩
  unfold fld
  simp only
  rw [i2, i3, e1]
  simp only [ea, false_or]
def FdR (s : ByteArray) (e : Ending) : Prop := ∃ (N V : ByteArray) (ok : Bool), (ok = false → fld (bn s) = none) ∧ (ok = true → fld (bn s) = some (bn N, bn V)) ∧ e = .returned (.tuple #[.agg #[.string N, .string V], .bool ok])
theorem FdR.no {s : ByteArray} (h : fld (bn s) = none) : FdR s (.returned (.tuple #[.agg #[.string ⟨#[]⟩, .string ⟨#[]⟩], .bool false])) := ⟨⟨#[]⟩, ⟨#[]⟩, false, fun _ => h, (fun h => by cases h), rfl⟩
theorem below_drew {B : Nat} {w w' : World} (h : Below B w w') : Below B w w'.drew := ⟨h.os, h.tape, h.output, h.size, h.block⟩
theorem store_rowA (w : World) (g : Nat) (t ty : TypeId) (old cells : Array Value) (hg : w.heap[g]? = some (.cells old t (0, 0))) (hi : (Tryd.prog.info? ty).map (·.size) = some cells.size)
    (ho : old.size = cells.size) (h1 : cells.all (·.oneCell') = true) :
    (Instr.storeAt ty (.pointer (some ⟨g, 0, none⟩)) (.agg cells)).run Tryd.prog w = .ok () (w.setRow g cells) := by
  simp only [Instr.storeAt, Instr.sureAddr, Sem.run_bind, Sem.run_pure, Result.andThen_ok, run_storeVar_row w g t ty old cells hg hi ho h1]
theorem info_fd (a b : Value) : (Tryd.prog.info? 40).map (·.size) = some (#[a, b] : Array Value).size := by kernel_rfl
set_option maxRecDepth 100000 in
set_option maxHeartbeats 4000000 in
theorem rfield_any (s : ByteArray) (hs : s.size ≤ 1000000) (w : World) : Calls Tryd.prog 16 #[.string s] w fun e W' => FdR s e ∧ Below w.heap.size w W' := by
  have HF1 : Hid (∀ W, Calls Tryd.prog 27 #[.string s, .int .u8 58, .int .i64 0] W fun e W' => e = .returned (.int .i64 (opt (fnd (bn s) 58 0))) ∧ W' = W) := fun W => rfind_any s hs 58 0 (by omega) W
  cases ha : fnd (bn s) 58 0 with
  | none =>
    have HN : Hid (fld (bn s) = none) := fld_no ha
    rw [ha] at HF1
    go_enter Tryd.func16, Tryd.ntmps16
    go_wp2_with fail
    refine (HF1.out _).mono ?_
    rintro e w5 ⟨rfl, rfl⟩
    have hn : opt none = -1 := rfl
    go_wp2
    exact bodyPost_ret (results_hd Tryd.results16 _ _ w.heap.size 40 _ (0, 0) _ rfl (heap_alloc_last w _) Tryd.underlying40 (info_fd _ _)) rfl ⟨FdR.no HN.out, (Below.refl _ w).alloc (Nat.le_refl _) _⟩
  | some a =>
    rw [ha] at HF1
    obtain ⟨hal, hE⟩ := fld_of ha
    rw [bn_length] at hal
    have HE := hid hE
    have HTK : Hid (∀ W, Calls Tryd.prog 13 #[.string (s.extract 0 a)] W fun e W' => e = .returned (.bool (tok (bn (s.extract 0 a)))) ∧ W' = W) := fun W => rtoken_any (s.extract 0 a) (by simp; omega) W
    have HTA : Hid (bn (s.extract 0 a) = (bn s).take a) := bn_take s a (by omega)
    have hn : opt (some a) = (a : Int) := rfl
    clear ha hE
    go_enter Tryd.func16, Tryd.ntmps16
    go_wp2_with fail
    refine (HF1.out _).mono ?_
    rintro e w5 ⟨rfl, rfl⟩
    clear HF1
    rw [hn]
    have ha0 : ¬ (a : Int) < 0 := by omega
    have hz0 : decide ((a : Int) < 0) = false := decide_eq_false ha0
    go_wp2_with fail
    refine (HTK.out _).mono ?_
    rintro e w5 ⟨rfl, rfl⟩
    clear HTK
    cases ht : tok (bn (s.extract 0 a)) with
    | false =>
      have HN : Hid (fld (bn s) = none) := by show _ = _; rw [HE.out, if_pos (.inl (by rw [← HTA.out]; exact ht))]
      clear HE ht
      go_wp2
      exact bodyPost_ret (results_hd Tryd.results16 _ _ w.heap.size 40 _ (0, 0) _ rfl (heap_alloc_last w _) Tryd.underlying40 (info_fd _ _)) rfl ⟨FdR.no HN.out, (Below.refl _ w).alloc (Nat.le_refl _) _⟩
    | true =>
      have HT := hid (by rw [HTA.out] at ht; exact ht : tok ((bn s).take a) = true)
      clear ht
      go_wp2_with fail
      have HVI : Hid (∀ i, a + 1 ≤ i → i < s.size → ∀ y, (bn s)[i]?.getD 0 = y → vc y = false → fld (bn s) = none) := fun i h1 h2 y hy hv => by
        have hh : ((bn s).drop (a + 1)).all vc = false := by
          refine Bool.eq_false_iff.2 fun hall => ?_
          rw [List.all_eq_true] at hall
          have hl : i < (bn s).length := by rw [bn_length]; omega
          have := hall y (by
            rw [← hy, List.getElem?_eq_getElem hl, Option.getD_some, List.mem_iff_getElem]
            refine ⟨i - (a + 1), by simp; omega, ?_⟩
            simp only [List.getElem_drop]
            congr 1
            omega)
          rw [hv] at this; cases this
        show _ = _
        rw [HE.out, if_pos (.inr hh)]
      have HVA : Hid ((∀ i, a + 1 ≤ i → i < s.size → vc ((bn s)[i]?.getD 0) = true) → ((bn s).drop (a + 1)).all vc = true) := fun h => by
        rw [List.all_eq_true]
        intro x hx
        rw [List.mem_iff_getElem] at hx
        obtain ⟨k, hk, rfl⟩ := hx
        have hk2 : k + (a + 1) < s.size := by rw [List.length_drop, bn_length] at hk; omega
        have hl : a + 1 + k < (bn s).length := by rw [bn_length]; omega
        have := h (a + 1 + k) (by omega) (by omega)
        rw [List.getElem?_eq_getElem hl] at this
        simpa using this
      have HGT := hid (bn_get s)
      have HBY := hid (fun j (h : j < s.size) => byte_bd (s := s) h)
      go_loopw [5] (fun v5 wr => ∃ i : Nat, a + 1 ≤ i ∧ i ≤ s.size ∧ v5 = .int .i64 (i : Int) ∧ Hid (∀ j, a + 1 ≤ j → j < i → vc ((bn s)[j]?.getD 0) = true) ∧ wr = w.alloc (.cells #[.string ⟨#[]⟩, .string ⟨#[]⟩] 40)) (fun v5 _ => s.size - (intOf v5).toNat)
      case atStart => exact ⟨a + 1, Nat.le_refl _, by omega, by go_num, fun j h1 h2 => absurd h2 (by omega), rfl⟩
      case round =>
        obtain ⟨i, hi1, hi2, rfl, HR, rfl⟩ := hrel
        by_cases hlt : i < s.size
        · have hltz : (i : Int) < (s.size : Int) := by omega
          have hg := (HGT.out i hlt).symm
          obtain ⟨q0, q1⟩ := HBY.out i hlt
          have HNO := hid (HVI.out i hi1 hlt)
          obtain ⟨y, hy⟩ : ∃ y, (bn s)[i]?.getD 0 = y := ⟨_, rfl⟩
          have HY := hid hy
          rw [hy] at hg q0 q1
          clear hy HGT HBY HVI HVA HE HTA HT
          by_cases h32 : y < 32
          · by_cases h9 : y = 9
            · have HV : Hid (vc y = true) := by show _ = _; unfold vc; exact decide_eq_true (by omega)
              clear HNO
              go_wp2
              go_roundw
              case rel => exact ⟨i + 1, by omega, by omega, by go_num, fun j h1 h2 => by
                by_cases h : j < i
                · exact HR.out j h1 h
                · obtain rfl : j = i := by omega
                  rw [HY.out]; exact HV.out, by first | rfl | trivial⟩
              case measure => simp [intOf]; omega
            · have HN : Hid (fld (bn s) = none) := HNO.out y HY.out (by unfold vc; exact decide_eq_false (by omega))
              have b9 : (y == 9) = false := by simpa using h9
              clear HNO HR
              go_wp2
              exact bodyPost_ret (results_hd Tryd.results16 _ _ w.heap.size 40 _ (0, 0) _ rfl (heap_alloc_last w _) Tryd.underlying40 (info_fd _ _)) rfl ⟨FdR.no HN.out, (Below.refl _ w).alloc (Nat.le_refl _) _⟩
          · by_cases h127 : y = 127
            · have HN : Hid (fld (bn s) = none) := HNO.out y HY.out (by unfold vc; exact decide_eq_false (by omega))
              clear HNO HR
              go_wp2
              exact bodyPost_ret (results_hd Tryd.results16 _ _ w.heap.size 40 _ (0, 0) _ rfl (heap_alloc_last w _) Tryd.underlying40 (info_fd _ _)) rfl ⟨FdR.no HN.out, (Below.refl _ w).alloc (Nat.le_refl _) _⟩
            · have HV : Hid (vc y = true) := by show _ = _; unfold vc; exact decide_eq_true (by omega)
              have b127 : (y == 127) = false := by simpa using h127
              clear HNO
              go_wp2
              go_roundw
              case rel => exact ⟨i + 1, by omega, by omega, by go_num, fun j h1 h2 => by
                by_cases h : j < i
                · exact HR.out j h1 h
                · obtain rfl : j = i := by omega
                  rw [HY.out]; exact HV.out, by first | rfl | trivial⟩
              case measure => simp [intOf]; omega
        · have hltz : ¬ (i : Int) < (s.size : Int) := by omega
          have HAV := hid (HVA.out fun j h1 h2 => HR.out j h1 (by omega))
          have HN := hid (HE.out.trans (if_neg (by rintro (h | h); rw [HT.out] at h; cases h; rw [HAV.out] at h; cases h)))
          have HX := hid (bn_extract s (a + 1))
          clear HR HVI HVA HE HGT HBY HAV HT
          go_wp2_with fail
          have hw1 : IntKind.i64.wrap ((a : Int) + 1) = (a : Int) + 1 := by simp [IntKind.wrap, IntKind.bits, IntKind.signed]; omega
          refine E.wp_region_pick [0, 1, 2, 4, 5, 6, 7] [3, 8, 9, 10, 11] (by kernel_rfl) (by kernel_rfl) ?_
          simp only [E.sel, List.filterMap_cons, List.filterMap_nil, List.getElem?_cons_succ, List.getElem?_cons_zero]
          refine E.wpFree_val (.string s) rfl (fun W => by go_simp) ?_
          refine E.wpFree_val (.int .i64 (a : Int)) rfl (fun W => by go_simp) ?_
          refine E.wpFree_val (.string (s.extract 0 a)) rfl (fun W => by go_simp <;> omega) ?_
          refine E.wpFree_val (.string s) rfl (fun W => by go_simp) ?_
          refine E.wpFree_val (.int .i64 (a : Int)) rfl (fun W => by go_simp) ?_
          refine E.wpFree_val (.int .i64 ((a : Int) + 1)) rfl (fun W => by go_simp <;> first | exact hw1 | omega) ?_
          refine E.wpFree_val (.string (s.extract (a + 1) s.size)) rfl (fun W => by go_simp <;> omega) ?_
          refine E.wpFree_nil ?_
          show wpList _ _ _ _ _ (World.drew _)
          go_wp2_with fail
          refine (rsmall_any (s.extract 0 a) (by simp; omega) _).mono ?_
          rintro e w6 ⟨⟨N, hNb, rfl⟩, B6⟩
          have hrow : w6.heap[w.heap.size]? = some (.cells #[.string ⟨#[]⟩, .string ⟨#[]⟩] 40 (0, 0)) := (B6.block _ (by simp)).trans (heap_alloc_last w _)
          have HB6 : Hid (Below w.heap.size w w6) := Below.trans (below_drew ((Below.refl _ w).alloc (Nat.le_refl _) _)) (B6.mono (by simp))
          have HNB := hid hNb
          clear B6 hNb
          go_wp2_with fail
          refine (rtrim_any (s.extract (a + 1) s.size) (by simp; omega) _).mono ?_
          rintro e w7 ⟨⟨V, hV, rfl⟩, rfl⟩
          have HVB := hid hV
          clear hV
          rename_i X hX
          refine hX _ _ ?_
          refine wpList_build rfl 40 _ rfl (by kernel_rfl) ?_
          refine wpList_store_row rfl 40 (.tmp 2) (.tmp 52) rfl w.heap.size #[.string N, .string V] ?hx ?hy 40 #[.string ⟨#[]⟩, .string ⟨#[]⟩] hrow (info_fd _ _) rfl (by simp [Value.oneCell']) ?_
          case hx => first | rfl | kernel_rfl
          case hy => first | rfl | kernel_rfl | (trace_state; sorry)
          go_wp2
          refine ⟨rfl, ?_⟩
          go_wp2
          refine bodyPost_ret (results_hd Tryd.results16 _ _ w.heap.size 40 #[.string N, .string V] (0, 0) _ rfl (setRow_heap _ _ _ _ _ _ hrow) Tryd.underlying40 (info_fd _ _)) rfl ⟨⟨N, V, true, (fun h => by cases h), fun _ => ?_, rfl⟩, below_setRow HB6.out (Nat.le_refl _) _⟩
          rw [HN.out, HNB.out, HVB.out, HTA.out, HX.out]
end Go.Proofs.YtacbfbhhhofifaaDoor.Hd
