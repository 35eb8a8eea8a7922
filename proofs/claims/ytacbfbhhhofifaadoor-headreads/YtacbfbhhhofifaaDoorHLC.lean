/- fed: bytes in pieces. (Stage 19.) -/
import Derived.Test.YtacbfbhhhofifaaDoorHLB
namespace Go.Proofs.YtacbfbhhhofifaaDoor.Hd
open Go.RowKit
open Go.Proofs.YtacbfbhhhofifaaDoor.F (bn bn_length bn_append bn_inj bn_get byte_bd hid bn_extract isEmpty_false isEmpty_true str_eq same_eq)
set_option linter.unusedVariables false

theorem go0_small (l : List Int) : (go s0 l).n ≤ 16385 ∧ (go s0 l).e ≤ 195 := go_small l s0 (by decide) (by decide) (.inl (by decide))
theorem take_mid (l : List Int) (a n : Nat) (h : a + n ≤ l.length) : l.take a ++ (l.drop a).take n = l.take (a + n) := by
  rw [List.take_add]
/-- Numbers that were handed in. -/
def U16s (W : World) (v : Value) (ps : List Nat) : Prop := ∃ (a : Option Addr) (cap : Nat), v = .slice a ps.length cap ∧ (0 < ps.length → ∃ b off, a = some ⟨b, off, none⟩ ∧ ∀ j, j < ps.length → W.cell? ⟨b, off + j, none⟩ = some (.int .u16 ((ps[j]?.getD 0 : Nat) : Int)))
theorem cell_kept {w W : World} {a : Addr} {v : Value} (h : w.cell? a = some v) (hb : Below w.heap.size w W) : W.cell? a = some v := by
  rw [← h]
  exact World.cell?_of_block (hb.block _ (World.block_lt_of_cell? w a h))
set_option maxRecDepth 100000 in
set_option maxHeartbeats 8000000 in
theorem fed_any {Rd : Nat → World → Value → List Int → Prop} (C : Ctr Rd) (s : ByteArray) (hs : s.size ≤ 40000) (pv : Value) (ps : List Nat) (hps : ∀ j : Nat, ps[j]?.getD 0 < 65536) (hpl : ps.length ≤ 1000) (w : World) (hU : U16s w pv ps) : Calls Tryd.prog 8 #[.string s, pv] w fun e W' => e = .returned (.bool true) ∧ Below w.heap.size w W' := by
  have HC := hid C
  obtain ⟨ao, cap, rfl, hU⟩ := hU
  have HU := hid hU
  have HPS := hid hps
  clear hU hps
  go_enter Tryd.func8, Tryd.ntmps8
  go_wp2_with fail
  refine (HC.out.new _).mono ?_
  rintro e w1 ⟨⟨p, rfl, hR⟩, hB⟩
  have HR1 := hid hR
  have HB1 := hid hB
  clear hR hB
  go_wp2_with fail
  go_loopw [6, 7, 8] (fun v6 v7 v8 wr => ∃ (k i : Nat) (ov : Bool), k ≤ s.size ∧ v6 = .int .i64 (k : Int) ∧ v7 = .bool ov ∧ v8 = .int .i64 (i : Int) ∧ i ≤ 4 * ps.length + 9 ∧ (i ≤ 4 * ps.length + 8 ∨ ov = true ∨ k = s.size) ∧ Hid (ov = false → ¬ overS ((bn s).take k)) ∧ Hid (Rd w.heap.size wr (.pointer (some p)) ((bn s).take k)) ∧ Hid (Below w.heap.size w wr)) (fun v6 v7 v8 _ => match v7 with | .bool true => 0 | _ => if (intOf v6).toNat < s.size then 4 * ps.length + 10 - (intOf v8).toNat else 0)
  case atStart => exact ⟨0, 0, false, Nat.zero_le _, rfl, rfl, rfl, Nat.zero_le _, .inl (Nat.zero_le _), fun _ => nil_over, HR1.out, HB1.out⟩
  case round =>
    obtain ⟨k, i, ov, hk, rfl, rfl, rfl, hi, hi2, HOV, HR, HB⟩ := hrel
    by_cases hlt : k < s.size
    rotate_left
    · have hltz : ¬ (k : Int) < (s.size : Int) := by omega
      clear HOV HR
      go_wp2
      go_ret
      exact ⟨rfl, HB.out⟩
    have hltz : (k : Int) < (s.size : Int) := by omega
    cases ov with
    | true =>
      clear HOV HR
      go_wp2
      go_ret
      exact ⟨rfl, HB.out⟩
    | false =>
      have hi3 : i ≤ 4 * ps.length + 8 := by
        rcases hi2 with h | h | h
        · exact h
        · cases h
        · omega
      have HNO := hid (HOV.out rfl)
      clear HOV hi2
      go_upto_if 39 with fail
      go_cut [9] from 33 to 50 (fun v9 wc => (∃ N : Nat, v9 = .int .i64 (N : Int) ∧ N ≤ s.size - k ∧ (ps.length = 0 → N = s.size - k)) ∧ wc = wr)
      case first =>
        by_cases h0 : 0 < ps.length
        · obtain ⟨b, off, rfl, hc⟩ := HU.out h0
          obtain ⟨m, hm⟩ : ∃ m, i % ps.length = m := ⟨_, rfl⟩
          have hml : m < ps.length := by rw [← hm]; exact Nat.mod_lt _ h0
          have hmz : (i : Int) % (ps.length : Int) = (m : Int) := by rw [← hm]; omega
          have hcell := cell_kept (hc m hml) HB.out
          have hx := HPS.out m
          obtain ⟨x, hxe⟩ : ∃ x, ps[m]?.getD 0 = x := ⟨_, rfl⟩
          rw [hxe] at hcell hx
          have h0z : 0 < (ps.length : Int) := by omega
          have hmlz : (m : Int) < (ps.length : Int) := by omega
          clear hc hm hxe HU HPS HR HB HNO
          obtain ⟨z, hz⟩ : ∃ z, x % 5000 = z := ⟨_, rfl⟩
          have hzz : (x : Int) % 5000 = (z : Int) := by omega
          clear hz
          go_wp2
          · go_meet
            case rel => exact ⟨⟨_, rfl, by omega, fun h => by omega⟩, by first | rfl | trivial⟩
          · go_meet
            case rel => exact ⟨⟨s.size - k, by congr 1; omega, by omega, fun h => by omega⟩, by first | rfl | trivial⟩
        · have h0z : ¬ 0 < (ps.length : Int) := by omega
          clear HR HB HNO HU HPS
          go_wp2
          go_meet
          case rel => exact ⟨⟨s.size - k, by congr 1; omega, Nat.le_refl _, fun _ => rfl⟩, by first | rfl | trivial⟩
      case rest =>
        obtain ⟨⟨N, rfl, hN, hN0⟩, rfl⟩ := hcut
        go_upto_region 12 with fail
        obtain ⟨u, hu⟩ : ∃ u, decide (0 < ps.length ∧ 4 * ps.length + 8 ≤ i) = u := ⟨_, rfl⟩
        have HUU := hid hu
        clear hu
        go_cut [61] from 51 to 61 (fun v61 wx => v61 = .bool u ∧ wx = wc)
        case first =>
          clear HR HB HNO HU HPS hN hN0
          by_cases h0 : 0 < ps.length
          · have h0z : 0 < (ps.length : Int) := by omega
            by_cases h8 : 4 * ps.length + 8 ≤ i
            · have h8z : 4 * (ps.length : Int) + 8 ≤ (i : Int) := by omega
              have HX : Hid (u = true) := by show _ = _; rw [← HUU.out]; exact decide_eq_true ⟨h0, h8⟩
              clear HUU
              go_wp2
              go_meet
              case rel => exact ⟨by rw [HX.out] <;> rfl, by first | rfl | trivial⟩
            · have h8z : ¬ 4 * (ps.length : Int) + 8 ≤ (i : Int) := by omega
              have h8d : decide (4 * (ps.length : Int) + 8 ≤ (i : Int)) = false := decide_eq_false h8z
              have HX : Hid (u = false) := by show _ = _; rw [← HUU.out]; exact decide_eq_false (fun h => h8 h.2)
              clear HUU
              go_wp2
              go_meet
              case rel => exact ⟨by rw [HX.out] <;> first | rfl | (congr 1; simp; omega), by first | rfl | trivial⟩
          · have h0z : ¬ 0 < (ps.length : Int) := by omega
            have HX : Hid (u = false) := by show _ = _; rw [← HUU.out]; exact decide_eq_false (fun h => h0 h.1)
            clear HUU
            go_wp2
            go_meet
            case rel => exact ⟨by rw [HX.out] <;> rfl, by first | rfl | trivial⟩
        case rest =>
          obtain ⟨rfl, rfl⟩ := hcut
          go_upto_if 61 with fail
          go_cut [9] from 62 to 65 (fun v9 wx => (∃ N' : Nat, v9 = .int .i64 (N' : Int) ∧ N' ≤ s.size - k ∧ (ps.length = 0 ∨ 4 * ps.length + 8 ≤ i → N' = s.size - k)) ∧ wx = wc)
          case first =>
            clear HR HB HNO HU HPS
            cases u with
            | true =>
              clear HUU
              go_wp2
              go_meet
              case rel => exact ⟨⟨s.size - k, by congr 1; omega, Nat.le_refl _, fun _ => rfl⟩, by first | rfl | trivial⟩
            | false =>
              go_wp2
              go_meet
              case rel => exact ⟨⟨N, rfl, hN, fun h => by
                rcases h with h | h
                · exact hN0 h
                · have := HUU.out
                  rw [decide_eq_false_iff_not] at this
                  exact hN0 (Nat.eq_zero_of_not_pos fun hp => this ⟨hp, h⟩)⟩, by first | rfl | trivial⟩
          case rest =>
            obtain ⟨⟨K, rfl, hK, hK0⟩, rfl⟩ := hcut
            clear HUU HU HPS hN hN0
            have hkK : k + K ≤ s.size := by omega
            have hlk : ((bn s).take k).length = k := by rw [List.length_take, bn_length]; omega
            obtain ⟨m, hm⟩ : ∃ m, s.extract k (k + K) = m := ⟨_, rfl⟩
            have hms : m.size = K := by rw [← hm, ByteArray.size_extract]; omega
            have HLM : Hid ((bn s).take k ++ bn m = (bn s).take (k + K)) := by
              show _ = _
              rw [← hm, bn_mid, show k + K - k = K by omega]
              exact take_mid _ _ _ (by rw [bn_length]; omega)
            have hsl : ∀ W, (Instr.slice 9 (.string s) (some (.int .i64 (k : Int))) (some (.int .i64 ((k : Int) + (K : Int)))) none).run Tryd.prog W = .ok (.string m) W := fun W => by
              have := run_slice_string (P := Tryd.prog) W 9 s .i64 .i64 (k : Int) ((k + K : Nat) : Int) Tryd.underlying9 (by omega) (by omega) (by omega)
              rw [← hm]
              rw [show ((k + K : Nat) : Int) = (k : Int) + (K : Int) by omega, show ((k : Int) + (K : Int)).toNat = k + K by omega, Int.toNat_natCast] at this
              exact this
            obtain ⟨L, hL⟩ : ∃ L, s.extract 0 (k + K) = L := ⟨_, rfl⟩
            have hLs : L.size ≤ 1000000 := by rw [← hL, ByteArray.size_extract]; omega
            have HLB : Hid (bn L = (bn s).take (k + K)) := by show _ = _; rw [← hL]; exact bn_take s _ hkK
            have hsl2 : ∀ W, (Instr.slice 9 (.string s) none (some (.int .i64 ((k : Int) + (K : Int)))) none).run Tryd.prog W = .ok (.string L) W := fun W => by
              have := run_slice_string_h (P := Tryd.prog) W 9 s Tryd.underlying9 .i64 ((k + K : Nat) : Int) (by omega) (by omega)
              rw [← hL]
              rw [show ((k + K : Nat) : Int) = (k : Int) + (K : Int) by omega, show ((k : Int) + (K : Int)).toNat = k + K by omega] at this
              exact this
            clear hm hL
            have hwb := HC.out.base _ _ _ _ HR.out
            obtain ⟨q, hq⟩ : ∃ q, go s0 ((bn s).take (k + K)) = q := ⟨_, rfl⟩
            have hqn : q.n ≤ k + K := by
              have := (go0_n ((bn s).take (k + K))).1
              rw [hq, List.length_take, bn_length] at this
              omega
            have HQN : Hid (¬ overS ((bn s).take (k + K)) → q.n = k + K) := fun h => by
              have := (go0_n ((bn s).take (k + K))).2 h
              rw [hq, List.length_take, bn_length] at this
              omega
            have HQD := hid (go_de ((bn s).take (k + K)) s0 (.inl rfl))
            have hqs := go0_small ((bn s).take (k + K))
            rw [hq] at HQD hqs
            go_wp2_with fail
            refine (HC.out.feed _ _ _ _ m HR.out (by omega) (by omega)).mono ?_
            rintro e w2 ⟨hf, hR, hB, _⟩
            unfold FeR at hf
            unfold took at hR
            rw [if_neg HNO.out, HLM.out, hq] at hf hR
            rw [hlk] at hf
            rw [List.take_take, Nat.min_eq_left hqn] at hR
            subst hf
            have HR2 := hid hR
            have HB2 := hid (HB.out.trans hB)
            clear hR hB HR HB HLM hsl hwb
            go_wp2_with fail
            refine (rrun_any L hLs _).mono ?_
            rintro e w3 ⟨⟨hv, he, hh⟩, hB⟩
            rw [HLB.out, hq] at he hh
            subst he
            have HR3 := hid (HC.out.keep _ _ _ _ _ HR2.out hB)
            have HB3 := hid (HB2.out.trans (hB.mono (HC.out.base _ _ _ _ HR2.out)))
            have HH := hid hh
            obtain ⟨M, T, v, F, fs, rfl, ⟨aF, cF, rfl, _, _⟩, _, _, _, _⟩ := id hh
            clear hh hB HR2 HB2 hsl2 HLB
            obtain ⟨n, hn⟩ : ∃ n, q.n = n := ⟨_, rfl⟩
            obtain ⟨d, hd⟩ : ∃ d, q.d = d := ⟨_, rfl⟩
            obtain ⟨x, hx⟩ : ∃ x, q.e = x := ⟨_, rfl⟩
            rw [hn] at hqn HQN HR3 hqs
            rw [hd] at HQD HH
            rw [hx] at HQD hqs
            obtain ⟨hqs1, hqs2⟩ := hqs
            have HOVQ : Hid (overS ((bn s).take (k + K)) ↔ d = true ∨ x ≠ 0) := by show _ ↔ _; unfold overS; rw [hq, hd, hx]
            go_upto_region 16 with fail
            have hwn : IntKind.i64.wrap ((n : Int) - (k : Int)) = (n : Int) - (k : Int) := by simp [IntKind.wrap, IntKind.bits, IntKind.signed]; omega
            have HRA := hid (HC.out.keep _ _ _ _ _ HR3.out ((Below.refl _ w3).alloc (Nat.le_refl _) (.cells #[.string M, .string T, .int .u8 v, .slice aF fs.length cF] 27)))
            have HHA := hid (HH.out.below ((Below.refl _ w3).alloc (Nat.le_refl _) (.cells #[.string M, .string T, .int .u8 v, .slice aF fs.length cF] 27)))
            have HBA := hid (HB3.out.alloc (HC.out.base _ _ _ _ HR3.out) (.cells #[.string M, .string T, .int .u8 v, .slice aF fs.length cF] 27))
            clear HR3 HH HB3
            refine E.wp_region_script (fun W => W.heap[w3.heap.size]? = some (.cells #[.string M, .string T, .int .u8 v, .slice aF fs.length cF] 27 (0, 0))) [(0, true), (1, true), (2, true), (3, true), (4, true), (5, true), (6, true), (7, true), (8, true), (9, true), (10, true), (11, true), (12, true), (13, true), (14, true), (15, true), (16, true), (18, true), (17, false), (19, false), (20, true), (21, true), (22, true), (23, true), (25, true), (24, false), (26, true), (27, true)] (by kernel_rfl) (by kernel_rfl) (heap_alloc_last w3 _) ?_
            simp only [E.selS, List.filterMap_cons, List.filterMap_nil, List.getElem?_cons_succ, List.getElem?_cons_zero, Option.map_some]
            refine E.wpS_val (.int .i64 ((n : Int) - (k : Int))) (by rfl) (fun W hS => by go_simp <;> first | exact hwn | omega) ?_
            simp only [Act.put, List.setIfInBounds_toArray, List.set_cons_succ, List.set_cons_zero]
            refine E.wpS_val (.int .i64 (n : Int)) (by rfl) (fun W hS => by go_simp <;> omega) ?_
            simp only [Act.put, List.setIfInBounds_toArray, List.set_cons_succ, List.set_cons_zero]
            refine E.wpS_val (.int .i64 (k : Int)) (by rfl) (fun W hS => by go_simp <;> omega) ?_
            simp only [Act.put, List.setIfInBounds_toArray, List.set_cons_succ, List.set_cons_zero]
            refine E.wpS_val (.int .i64 ((n : Int) - (k : Int))) (by rfl) (fun W hS => by go_simp <;> first | exact hwn | omega) ?_
            simp only [Act.put, List.setIfInBounds_toArray, List.set_cons_succ, List.set_cons_zero]
            refine E.wpS_val (.bool false) (by rfl) (fun W hS => by go_simp <;> omega) ?_
            simp only [Act.put, List.setIfInBounds_toArray, List.set_cons_succ, List.set_cons_zero]
            refine E.wpS_val (.bool false) (by rfl) (fun W hS => by go_simp <;> omega) ?_
            simp only [Act.put, List.setIfInBounds_toArray, List.set_cons_succ, List.set_cons_zero]
            refine E.wpS_val (.bool d) (by rfl) (fun W hS => by go_simp <;> omega) ?_
            simp only [Act.put, List.setIfInBounds_toArray, List.set_cons_succ, List.set_cons_zero]
            refine E.wpS_val (.bool d) (by rfl) (fun W hS => by go_simp <;> omega) ?_
            simp only [Act.put, List.setIfInBounds_toArray, List.set_cons_succ, List.set_cons_zero]
            refine E.wpS_val (.bool false) (by rfl) (fun W hS => by go_simp <;> omega) ?_
            simp only [Act.put, List.setIfInBounds_toArray, List.set_cons_succ, List.set_cons_zero]
            refine E.wpS_val (.bool false) (by rfl) (fun W hS => by go_simp <;> omega) ?_
            simp only [Act.put, List.setIfInBounds_toArray, List.set_cons_succ, List.set_cons_zero]
            refine E.wpS_val (.bool false) (by rfl) (fun W hS => by go_simp <;> omega) ?_
            simp only [Act.put, List.setIfInBounds_toArray, List.set_cons_succ, List.set_cons_zero]
            refine E.wpS_val (.int .i64 (x : Int)) (by rfl) (fun W hS => by go_simp <;> omega) ?_
            simp only [Act.put, List.setIfInBounds_toArray, List.set_cons_succ, List.set_cons_zero]
            refine E.wpS_val (.int .i64 (x : Int)) (by rfl) (fun W hS => by go_simp <;> omega) ?_
            simp only [Act.put, List.setIfInBounds_toArray, List.set_cons_succ, List.set_cons_zero]
            refine E.wpS_val (.bool false) (by rfl) (fun W hS => by go_simp <;> omega) ?_
            simp only [Act.put, List.setIfInBounds_toArray, List.set_cons_succ, List.set_cons_zero]
            refine E.wpS_val (.bool false) (by rfl) (fun W hS => by go_simp <;> omega) ?_
            simp only [Act.put, List.setIfInBounds_toArray, List.set_cons_succ, List.set_cons_zero]
            refine E.wpS_val (.bool false) (by rfl) (fun W hS => by go_simp <;> omega) ?_
            simp only [Act.put, List.setIfInBounds_toArray, List.set_cons_succ, List.set_cons_zero]
            refine E.wpS_val (.pointer (some p)) (by rfl) (fun W hS => by go_simp <;> omega) ?_
            simp only [Act.put, List.setIfInBounds_toArray, List.set_cons_succ, List.set_cons_zero]
            refine E.wpS_val (.agg #[.string M, .string T, .int .u8 v, .slice aF fs.length cF]) (by rfl) (fun W hS => by have k0 := cell_of_row W _ 0 _ _ _ hS; have k1 := cell_of_row W _ 1 _ _ _ hS; have k2 := cell_of_row W _ 2 _ _ _ hS; have k3 := cell_of_row W _ 3 _ _ _ hS; simp only [List.getElem?_toArray, List.getElem?_cons_succ, List.getElem?_cons_zero] at k0 k1 k2 k3; go_simp) ?_
            simp only [Act.put, List.setIfInBounds_toArray, List.set_cons_succ, List.set_cons_zero]
            have HRD := hid (HC.out.keep _ _ _ _ _ HRA.out (below_drew (Below.refl _ _)))
            have HHD := hid (HHA.out.below (below_drew (Below.refl _ _)))
            have HBD := hid (below_drew HBA.out)
            have HSD : Hid ((World.drew (w3.alloc (.cells #[.string M, .string T, .int .u8 v, .slice aF fs.length cF] 27))).heap[w3.heap.size]? = some (.cells #[.string M, .string T, .int .u8 v, .slice aF fs.length cF] 27 (0, 0))) := heap_alloc_last w3 _
            have HGQ : Hid (go s0 ((bn s).take n) = q) := by
              have := go_took ((bn s).take (k + K)) s0
              rw [hq, show q.n - s0.n = q.n from Nat.sub_zero _, hn, List.take_take, Nat.min_eq_left hqn] at this
              exact this
            have hwb3 := HC.out.base _ _ _ _ HRD.out
            clear HRA HHA HBA
            show wpList _ _ _ [_] _ _
            go_wp2_with fail
            refine (HC.out.head _ _ _ _ HRD.out).mono ?_
            rintro e w4 ⟨⟨hv2, rfl, hh2⟩, hR, hB⟩
            rw [HGQ.out, hd] at hh2
            have HR4 := hid hR
            have HH4 := hid (HHD.out.below hB)
            have HS4 := hid (kept HSD.out hB)
            have HB4 := hid (HBD.out.trans (hB.mono hwb3))
            have HH2 := hid hh2
            clear hR hB hh2 HRD HHD HBD HSD hwb3
            go_wp2_with fail
            refine ⟨rfl, HS4.out, ?_⟩
            show wpList _ _ _ [_] _ _
            go_wp2_with fail
            refine (rsame_any _ _ _ _ _ HH2.out HH4.out).mono ?_
            rintro e w5 ⟨⟨r, rfl, hr⟩, hB⟩
            obtain rfl := hr.2 rfl
            have hwb4 := HC.out.base _ _ _ _ HR4.out
            have HR5 := hid (HC.out.keep _ _ _ _ _ HR4.out hB)
            have HS5 := hid (kept HS4.out hB)
            have HB5 := hid (HB4.out.trans (hB.mono hwb4))
            clear hB hr HR4 HH4 HS4 HB4 HH2 hwb4
            go_wp2_with fail
            refine ⟨rfl, HS5.out, ?_⟩
            refine E.wpS_val (.bool false) (by rfl) (fun W hS => by go_simp <;> omega) ?_
            simp only [Act.put, List.setIfInBounds_toArray, List.set_cons_succ, List.set_cons_zero]
            refine E.wpS_val (.bool false) (by rfl) (fun W hS => by go_simp <;> omega) ?_
            simp only [Act.put, List.setIfInBounds_toArray, List.set_cons_succ, List.set_cons_zero]
            refine E.wpS_val (.bool false) (by rfl) (fun W hS => by go_simp <;> omega) ?_
            simp only [Act.put, List.setIfInBounds_toArray, List.set_cons_succ, List.set_cons_zero]
            refine E.wpS_val (.pointer (some p)) (by rfl) (fun W hS => by go_simp <;> omega) ?_
            simp only [Act.put, List.setIfInBounds_toArray, List.set_cons_succ, List.set_cons_zero]
            refine E.wpS_val (.int .i64 (n : Int)) (by rfl) (fun W hS => by go_simp <;> omega) ?_
            simp only [Act.put, List.setIfInBounds_toArray, List.set_cons_succ, List.set_cons_zero]
            have hwb5 := HC.out.base _ _ _ _ HR5.out
            have hln : ((bn s).take n).length = n := by rw [List.length_take, bn_length]; omega
            show wpList _ _ _ [_] _ _
            go_wp2_with fail
            refine (HC.out.bytes _ _ _ _ HR5.out).mono ?_
            rintro e w6 ⟨rfl, hR, hB⟩
            rw [hln]
            have HR6 := hid hR
            have HS6 := hid (kept HS5.out hB)
            have HB6 := hid (HB5.out.trans (hB.mono hwb5))
            clear hB hR HR5 HS5 HB5 hwb5 hln
            go_wp2_with fail
            refine ⟨rfl, HS6.out, ?_⟩
            refine E.wpS_val (.bool false) (by rfl) (fun W hS => by go_simp <;> omega) ?_
            simp only [Act.put, List.setIfInBounds_toArray, List.set_cons_succ, List.set_cons_zero]
            refine E.wpS_val (.bool false) (by rfl) (fun W hS => by go_simp <;> omega) ?_
            simp only [Act.put, List.setIfInBounds_toArray, List.set_cons_succ, List.set_cons_zero]
            have HON : Hid (overS ((bn s).take n) ↔ d = true ∨ x ≠ 0) := by show _ ↔ _; unfold overS; rw [HGQ.out, hd, hx]
            have hmk : (k : Int).toNat = k := by simp
            unfold E.wpS
            by_cases hx0 : x = 0
            · have hxz : ((x : Int) != 0) = false := by rw [hx0]; rfl
              have hxz2 : (x : Int) = 0 := by omega
              cases d with
              | true =>
                clear hx0
                go_wp2
                go_roundw
                case rel => exact ⟨n, i + 1, true, by omega, rfl, rfl, by go_num, by omega, .inr (.inl rfl), fun h => by (cases h), HR6.out, HB6.out⟩
                case measure => simp [intOf, hlt]; omega
              | false =>
                have HNV : Hid (¬ overS ((bn s).take n)) := fun h => by
                  rcases HON.out.1 h with h | h
                  · cases h
                  · exact h hx0
                have hnk : n = k + K := HQN.out fun h => by
                  rcases HOVQ.out.1 h with h | h
                  · cases h
                  · exact h hx0
                clear hx0
                go_wp2
                go_roundw
                case rel => exact ⟨n, i + 1, false, by omega, rfl, rfl, by go_num, by omega, by
                  by_cases h8 : 4 * ps.length + 8 ≤ i
                  · right; right
                    have := hK0 (.inr h8)
                    omega
                  · left; omega, fun _ => HNV.out, HR6.out, HB6.out⟩
                case measure => simp [intOf, hlt]; split <;> omega
            · have hxz : ((x : Int) != 0) = true := by simp; omega
              have hdf : d = false := by
                rcases HQD.out with h | h
                · exact h
                · exact absurd h hx0
              subst hdf
              have HOV : Hid (overS ((bn s).take n)) := HON.out.2 (.inr hx0)
              clear hx0
              go_wp2_with fail
              refine (HC.out.feed _ _ _ _ ⟨#[120]⟩ HR6.out (by rw [List.length_take]; omega) (by decide)).mono ?_
              rintro e w7 ⟨hf, hR, hB, _⟩
              unfold FeR at hf
              unfold took at hR
              rw [if_pos HOV.out, HGQ.out, hd, if_neg (by decide), hx] at hf
              rw [if_pos HOV.out] at hR
              subst hf
              have HR7 := hid hR
              have HB7 := hid (HB6.out.trans hB)
              clear hR hB HR6 HB6
              go_wp2
              go_roundw
              case rel => exact ⟨n, i + 1, true, by omega, rfl, rfl, by go_num, by omega, .inr (.inl rfl), fun h => by (cases h), HR7.out, HB7.out⟩
              case measure => simp [intOf, hlt]; omega
set_option maxRecDepth 100000 in
set_option maxHeartbeats 4000000 in
theorem reads_walk {Rd : Nat → World → Value → List Int → Prop} (C : Ctr Rd) (s : ByteArray) (pv : Value) (ps : List Nat) (hps : ∀ j : Nat, ps[j]?.getD 0 < 65536) (hlen : ps.length ≤ 140737488351232) (hss : s.size ≤ 140737488351232) (w : World) (hU : U16s w pv ps) : Calls Tryd.prog 3 #[.string s, pv] w fun e W' => e = .returned (.bool true) ∧ Below w.heap.size w W' := by
  have HC := hid C
  have HF := hid (fun h1 h2 => fed_any C s h1 pv ps hps h2 w hU)
  obtain ⟨ao, cap, rfl, _⟩ := hU
  by_cases h1 : s.size ≤ 32768
  · have h1z : ¬ 32768 < (s.size : Int) := by omega
    have h1d : decide (32768 < (s.size : Int)) = false := decide_eq_false h1z
    by_cases h2 : ps.length ≤ 1000
    · have h2z : ¬ 1000 < (ps.length : Int) := by omega
      have HFD := hid (HF.out (by omega) h2)
      clear HF
      go_enter Tryd.func3, Tryd.ntmps3
      go_wp2_with fail
      refine HFD.out.mono ?_
      rintro e w1 ⟨rfl, hB⟩
      have HB := hid hB
      have hw1 := hB.size
      clear hB HFD
      go_wp2_with fail
      refine (alive_any HC.out _).mono ?_
      rintro e w2 ⟨rfl, hB⟩
      have HB2 := hid (HB.out.trans (hB.mono hw1))
      clear hB HB
      go_wp2
      go_ret
      exact ⟨rfl, HB2.out⟩
    · have h2z : 1000 < (ps.length : Int) := by omega
      clear HF
      go_enter Tryd.func3, Tryd.ntmps3
      go_wp2_with fail
      refine (alive_any HC.out _).mono ?_
      rintro e w2 ⟨rfl, hB⟩
      have HB2 := hid hB
      clear hB
      go_wp2
      go_ret
      exact ⟨rfl, HB2.out⟩
  · have h1z : 32768 < (s.size : Int) := by omega
    clear HF
    go_enter Tryd.func3, Tryd.ntmps3
    go_wp2_with fail
    refine (alive_any HC.out _).mono ?_
    rintro e w2 ⟨rfl, hB⟩
    have HB2 := hid hB
    clear hB
    go_wp2
    go_ret
    exact ⟨rfl, HB2.out⟩
end Go.Proofs.YtacbfbhhhofifaaDoor.Hd
