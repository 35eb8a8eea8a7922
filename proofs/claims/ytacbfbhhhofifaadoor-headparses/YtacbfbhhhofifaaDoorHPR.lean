/- head: Get. (Stage 19.) -/
import Derived.Test.YtacbfbhhhofifaaDoorHPQ
import Derived.Test.YtacbfbhhhofifaaDoorHRI
namespace Go.Proofs.YtacbfbhhhofifaaDoor.Hd
open Go.RowKit
open Go.Proofs.YtacbfbhhhofifaaDoor.F (bn bn_length bn_append bn_inj bn_get byte_bd hid bn_extract isEmpty_false isEmpty_true str_eq same_eq)
set_option linter.unusedVariables false

theorem FldAt.range {w : World} {b off n cap : Nat} {fs : List Fb} (h : FldAt w (.slice (some ⟨b, off, none⟩) n cap) fs) {j : Nat} (hj : j < fs.length) : w.rangeAt b (off + j * 2) [.string (fs[j]?.getD z2).x, .string (fs[j]?.getD z2).y] := fun k u hk => by
  obtain ⟨h0, h1⟩ := h.cell hj
  have hl := (List.getElem?_eq_some_iff.1 hk).1
  match k, hl with
  | 0, _ => rw [Nat.add_zero, h0]; exact hk
  | 1, _ => rw [h1]; exact hk
  | n + 2, hl => simp at hl; omega
set_option maxRecDepth 100000 in
set_option maxHeartbeats 8000000 in
theorem get_any (M T : ByteArray) (v : Int) (F : Value) (fs : List Fb) (name : ByteArray) (w : World) (hF : FldAt w F fs) (hl : fs.length ≤ 1000000) (hfw : ∀ x ∈ fs, x.y.size ≤ 140737488351232) : Calls Tryd.prog 14 #[.agg #[.string M, .string T, .int .u8 v, F], .string name] w fun e W' => (∃ u, e = .returned u ∧ StrAt W' u (gots fs name)) ∧ Below w.heap.size w W' := by
  obtain ⟨ao, cap, rfl, hca, hcells⟩ := id hF
  have HC := hid hcells
  have HFA := hid hF
  have HFW := hid hfw
  clear hcells hF hfw
  have HST := hid (gots_step fs name)
  go_enter Tryd.func14, Tryd.ntmps14
  go_wp2_with fail
  go_loopw [5, 11] (fun v5 v11 wr => ∃ i : Nat, i ≤ fs.length ∧ v11 = .int .i64 (i : Int) ∧ StrOwn wr (w.heap.size + 1) v5 (gots (fs.take i) name) ∧ Below w.heap.size w wr ∧ w.heap.size + 1 ≤ wr.heap.size) (fun _ v11 _ => fs.length - (intOf v11).toNat)
  case atStart => exact ⟨0, Nat.zero_le _, rfl, StrOwn.nil _ _, (Below.refl _ w).alloc (Nat.le_refl _) _, by simp⟩
  case round =>
    obtain ⟨i, hi, rfl, ho, hb, hsz⟩ := hrel
    have HO := hid ho
    have HB := hid hb
    clear ho hb
    obtain ⟨ao5, cap5, rfl⟩ := HO.out.form
    by_cases hlt : i < fs.length
    · have hltz : (i : Int) < (fs.length : Int) := by omega
      obtain ⟨b, off, rfl, _⟩ := HC.out (by omega)
      have HRNG := hid ((HFA.out.below HB.out).range hlt)
      have HS := hid (HST.out i hlt)
      have HY := hid (HFW.out (fs[i]?.getD z2) (by rw [List.getElem?_eq_getElem hlt]; exact List.getElem_mem hlt))
      obtain ⟨⟨X, Y⟩, hx⟩ : ∃ x, fs[i]?.getD z2 = x := ⟨_, rfl⟩
      rw [hx] at HRNG HS HY
      replace HY : Hid (Y.size ≤ 140737488351232) := HY
      replace HRNG : Hid (wr.rangeAt b (off + i * 2) [.string X, .string Y]) := HRNG
      replace HS : Hid (gots (fs.take (i + 1)) name = gots (fs.take i) name ++ (if bn X = bn name then [Y] else [])) := HS
      have HLEN : Hid ((gots (fs.take i) name).length + [Y].length ≤ 1000000000) := by
        show _ ≤ _
        have := gots_len (fs.take i) name
        rw [List.length_take] at this
        simp; omega
      clear hx HC HST HFW
      go_upto_region 5 with (refine wpList_load_mid rfl 40 (.tmp 13) rfl b (off + i * 2) rfl [.string X, .string Y] _ HRNG.out Tryd.underlying40 rfl (by kernel_rfl) ?_)
      have hBA := (Below.refl wr.heap.size wr).alloc (Nat.le_refl _) (.cells #[.string X, .string Y] 40)
      have hrow := heap_alloc_last wr (.cells #[.string X, .string Y] 40)
      have d0 := cell_of_row _ _ 0 _ _ _ hrow
      have d1 := cell_of_row _ _ 1 _ _ _ hrow
      simp only [List.getElem?_toArray, List.getElem?_cons_succ, List.getElem?_cons_zero] at d0 d1
      have HB1 := hid (HB.out.trans (hBA.mono (by omega)))
      have HO1 := hid (HO.out.alloc (.cells #[.string X, .string Y] 40))
      have hsz1 : w.heap.size + 1 ≤ (wr.alloc (.cells #[.string X, .string Y] 40)).heap.size := by simp; omega
      obtain ⟨g, hg⟩ : ∃ g, wr.heap.size = g := ⟨_, rfl⟩
      obtain ⟨w1, hw1⟩ : ∃ x, wr.alloc (.cells #[.string X, .string Y] 40) = x := ⟨_, rfl⟩
      rw [hw1] at d0 d1 HB1 HO1 hsz1 ⊢
      rw [hg] at d0 d1
      try simp only [hg]
      clear hw1 hBA hrow HB HO HRNG hg
      by_cases hn : bn X = bn name
      · have hq : X = name := bn_inj hn
        subst hq
        rw [if_pos rfl] at HS
        have HCL := hid (clone_any Y (by have := HY.out; omega) w1)
        go_wp2_with fail
        refine HCL.out.mono ?_
        rintro e w2 ⟨rfl, hB2⟩
        have HB2 := hid (HB1.out.trans (hB2.mono (by omega)))
        have HO2 := hid (HO1.out.keep (fun j _ hj => hB2.block j hj))
        have hsz2 : w.heap.size + 1 ≤ w2.heap.size := Nat.le_trans hsz1 hB2.size
        have HSA := hid (str_new w2 Y)
        have hsz3 : w.heap.size + 1 ≤ (w2.alloc (.cells #[.string Y] 9)).heap.size := by simp; omega
        have HB3 := hid (HB2.out.alloc (by omega) (.cells #[.string Y] 9))
        have HO3 := hid (HO2.out.alloc (.cells #[.string Y] 9))
        clear hB2 HB1 HO1 d0 d1 HCL HFA HB2 HO2
        go_wp2_with (at_builtin; refine wpList_append_strs rfl _ _ rfl (w.heap.size + 1) _ (gots (fs.take i) X) rfl HO3.out _ [Y] rfl HSA.out HLEN.out hsz3 ?_; intro v' w9 r' g'; have HB9 := hid (str_grow HB3.out (by omega) (by omega) HO3.out g'); have hsz9 := g'.size; have HO9 := hid r'; clear r' g')
        go_wp2
        go_roundw
        case rel => exact ⟨i + 1, by omega, by go_num, by rw [HS.out]; exact HO9.out, HB9.out, by omega⟩
        case measure => simp [intOf]; omega
      · have hq : (X.toList == name.toList) = false := by rw [str_eq]; exact decide_eq_false hn
        rw [if_neg hn, List.append_nil] at HS
        clear HFA hn d1
        go_wp2
        go_roundw
        case rel => exact ⟨i + 1, by omega, by go_num, by rw [HS.out]; exact HO1.out, HB1.out, hsz1⟩
        case measure => simp [intOf]; omega
    · have hltz : ¬ (i : Int) < (fs.length : Int) := by omega
      obtain rfl : i = fs.length := by omega
      have HO2 := HO.out
      rw [show fs.take fs.length = fs from List.take_length] at HO2
      have HA := hid HO2.at
      clear HO2 HFA HC HST HFW
      go_wp2
      go_ret
      exact ⟨⟨_, rfl, by first | exact HA.out | (rw [List.take_length]; exact HA.out)⟩, HB.out⟩
end Go.Proofs.YtacbfbhhhofifaaDoor.Hd
