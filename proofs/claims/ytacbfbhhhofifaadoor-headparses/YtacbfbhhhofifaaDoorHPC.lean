/- isOf by three questions; head.Token. (Stage 19.) -/
import Derived.Test.YtacbfbhhhofifaaDoorHPA
namespace Go.Proofs.YtacbfbhhhofifaaDoor.Hd
open Go.RowKit
open Go.Proofs.YtacbfbhhhofifaaDoor.F (bn bn_length bn_append bn_inj bn_get byte_bd hid bn_extract isEmpty_false isEmpty_true str_eq same_eq)
set_option linter.unusedVariables false

theorem seen_any (c : Int) (w : World) : Calls Tryd.prog 48 #[.int .u8 c] w fun e W' => e = .returned (.bool (vis c)) ∧ W' = w := by
  by_cases h1 : 33 ≤ c
  · by_cases h2 : c ≤ 126
    · have HV : Hid (vis c = true) := by show _ = _; unfold vis; exact decide_eq_true ⟨h1, h2⟩
      go_enter Tryd.func48, Tryd.ntmps48
      go_wp2
      go_ret
      exact ⟨by rw [HV.out] <;> rfl, rfl⟩
    · have HV : Hid (vis c = false) := by show _ = _; unfold vis; exact decide_eq_false (fun h => h2 h.2)
      go_enter Tryd.func48, Tryd.ntmps48
      go_wp2
      go_ret
      exact ⟨by rw [HV.out] <;> rfl, rfl⟩
  · have HV : Hid (vis c = false) := by show _ = _; unfold vis; exact decide_eq_false (fun h => h1 h.1)
    go_enter Tryd.func48, Tryd.ntmps48
    go_wp2
    go_ret
    exact ⟨by rw [HV.out] <;> rfl, rfl⟩
theorem digit_any (c : Int) (w : World) : Calls Tryd.prog 59 #[.int .u8 c] w fun e W' => e = .returned (.bool (dig c)) ∧ W' = w := by
  by_cases h1 : 48 ≤ c
  · by_cases h2 : c ≤ 57
    · have HV : Hid (dig c = true) := by show _ = _; unfold dig; exact decide_eq_true ⟨h1, h2⟩
      go_enter Tryd.func59, Tryd.ntmps59
      go_wp2
      go_ret
      exact ⟨by rw [HV.out] <;> rfl, rfl⟩
    · have HV : Hid (dig c = false) := by show _ = _; unfold dig; exact decide_eq_false (fun h => h2 h.2)
      go_enter Tryd.func59, Tryd.ntmps59
      go_wp2
      go_ret
      exact ⟨by rw [HV.out] <;> rfl, rfl⟩
  · have HV : Hid (dig c = false) := by show _ = _; unfold dig; exact decide_eq_false (fun h => h1 h.1)
    go_enter Tryd.func59, Tryd.ntmps59
    go_wp2
    go_ret
    exact ⟨by rw [HV.out] <;> rfl, rfl⟩
theorem value_any (c : Int) (w : World) : Calls Tryd.prog 50 #[.int .u8 c] w fun e W' => e = .returned (.bool (vc c)) ∧ W' = w := by
  by_cases h1 : c = 9
  · subst h1
    have HV : Hid (vc 9 = true) := rfl
    go_enter Tryd.func50, Tryd.ntmps50
    go_wp2
    go_ret
    exact ⟨by rw [HV.out] <;> rfl, rfl⟩
  · have e1 : (c == 9) = false := by simpa using h1
    by_cases h2 : 32 ≤ c
    · by_cases h3 : c = 127
      · subst h3
        have HV : Hid (vc 127 = false) := rfl
        go_enter Tryd.func50, Tryd.ntmps50
        go_wp2
        go_ret
        exact ⟨by rw [HV.out] <;> rfl, rfl⟩
      · have e3 : (c == 127) = false := by simpa using h3
        have e4 : (c != 127) = true := by simpa using h3
        have HV : Hid (vc c = true) := by show _ = _; unfold vc; exact decide_eq_true (by omega)
        go_enter Tryd.func50, Tryd.ntmps50
        go_wp2
        go_ret
        exact ⟨by rw [HV.out] <;> rfl, rfl⟩
    · have HV : Hid (vc c = false) := by show _ = _; unfold vc; exact decide_eq_false (by omega)
      go_enter Tryd.func50, Tryd.ntmps50
      go_wp2
      go_ret
      exact ⟨by rw [HV.out] <;> rfl, rfl⟩
set_option maxRecDepth 100000 in
theorem token1_any (b : Nat) (c : Int) (h0 : 0 ≤ c) (h1 : c ≤ 255) (w : World) (hb : w.heap[b]? = some (.cells tbl 54 (0, 0))) : Calls Tryd.prog 25 #[.int .u8 c, .pointer (some ⟨b, 0, none⟩)] w fun e W' => e = .returned (.bool (tc c)) ∧ W' = w := by
  have hc : w.cell? ⟨b, c.toNat, none⟩ = some (.bool (tc c)) := (cell_of_row _ _ _ _ _ _ hb).trans (tbl_at c h0 h1)
  have h256 : c < 256 := by omega
  obtain ⟨v, hv⟩ : ∃ v, tc c = v := ⟨_, rfl⟩
  rw [hv] at hc ⊢
  clear hv hb
  go_enter Tryd.func25, Tryd.ntmps25
  go_wp2
  go_ret
  exact ⟨rfl, rfl⟩
theorem all_step {s : ByteArray} {p : Int → Bool} {i : Nat} (h : i < s.size) (ha : ((bn s).take i).all p = true) (hp : p ((bn s)[i]?.getD 0) = true) : ((bn s).take (i + 1)).all p = true := by
  rw [F.take_one (bn s) i (by rw [bn_length]; exact h), List.all_append, ha]
  simpa using hp
theorem all_no {s : ByteArray} {p : Int → Bool} {i : Nat} (h : i < s.size) (hp : p ((bn s)[i]?.getD 0) = false) : (bn s).all p = false := by
  rw [List.all_eq_false]
  have hl : i < (bn s).length := by rw [bn_length]; exact h
  rw [List.getElem?_eq_getElem hl, Option.getD_some] at hp
  exact ⟨_, List.getElem_mem hl, by rw [hp]; simp⟩
set_option maxRecDepth 100000 in
set_option maxHeartbeats 4000000 in
theorem isOf_seen (s : ByteArray) (hs : s.size ≤ 1000000) (w : World) : Calls Tryd.prog 24 #[.string s, .func (.func 48) #[] #[]] w fun e W' => e = .returned (.bool ((bn s).all vis)) ∧ W' = w := by
  have HGT := hid (bn_get s)
  have HBY := hid (fun j (h : j < s.size) => byte_bd (s := s) h)
  have HST := hid (fun i h ha hp => all_step (s := s) (p := vis) (i := i) h ha hp)
  have HNO := hid (fun i h hp => all_no (s := s) (p := vis) (i := i) h hp)
  have HF := hid (seen_any)
  go_enter Tryd.func24, Tryd.ntmps24
  go_wp2_with fail
  go_loopw [8] (fun v8 wr => ∃ i : Nat, i ≤ s.size ∧ v8 = .int .i64 (i : Int) ∧ Hid (((bn s).take i).all vis = true) ∧ wr = w) (fun vi _ => s.size - (intOf vi).toNat)
  case atStart => exact ⟨0, Nat.zero_le _, rfl, rfl, rfl⟩
  case round =>
    obtain ⟨i, hi, rfl, HR, rfl⟩ := hrel
    by_cases hlt : i < s.size
    · have hltz : (i : Int) < (s.size : Int) := by omega
      have hg := (HGT.out i hlt).symm
      obtain ⟨q0, q1⟩ := HBY.out i hlt
      have HS1 := hid (HST.out i hlt HR.out)
      have HS2 := hid (HNO.out i hlt)
      obtain ⟨y, hy⟩ : ∃ y, (bn s)[i]?.getD 0 = y := ⟨_, rfl⟩
      rw [hy] at hg q0 q1 HS1 HS2
      have HFY := hid (HF.out y)
      clear hy HGT HBY HST HNO HF
      cases hp : vis y with
      | true =>
        have HE := hid (HS1.out hp)
        rw [hp] at HFY
        clear HS1 HS2 HR hp
        go_wp2_with (go_at_call 48; refine (HFY.out wr).mono ?_; rintro e w' ⟨rfl, rfl⟩)
        go_roundw
        case rel => exact ⟨i + 1, by omega, by go_num, HE, by first | rfl | trivial⟩
        case measure => simp [intOf]; omega
      | false =>
        have HE := hid (HS2.out hp)
        rw [hp] at HFY
        clear HS1 HS2 HR hp
        go_wp2_with (go_at_call 48; refine (HFY.out wr).mono ?_; rintro e w' ⟨rfl, rfl⟩)
        go_ret
        exact ⟨by rw [HE.out] <;> rfl, rfl⟩
    · have hltz : ¬ (i : Int) < (s.size : Int) := by omega
      obtain rfl : i = s.size := by omega
      have HE : Hid ((bn s).all vis = true) := by
        have := HR.out
        rw [List.take_of_length_le (by rw [bn_length]; exact Nat.le_refl _)] at this
        exact this
      clear HR
      go_wp2
      go_ret
      exact ⟨by rw [HE.out] <;> rfl, rfl⟩
set_option maxRecDepth 100000 in
set_option maxHeartbeats 4000000 in
theorem isOf_value (s : ByteArray) (hs : s.size ≤ 1000000) (w : World) : Calls Tryd.prog 24 #[.string s, .func (.func 50) #[] #[]] w fun e W' => e = .returned (.bool ((bn s).all vc)) ∧ W' = w := by
  have HGT := hid (bn_get s)
  have HBY := hid (fun j (h : j < s.size) => byte_bd (s := s) h)
  have HST := hid (fun i h ha hp => all_step (s := s) (p := vc) (i := i) h ha hp)
  have HNO := hid (fun i h hp => all_no (s := s) (p := vc) (i := i) h hp)
  have HF := hid (value_any)
  go_enter Tryd.func24, Tryd.ntmps24
  go_wp2_with fail
  go_loopw [8] (fun v8 wr => ∃ i : Nat, i ≤ s.size ∧ v8 = .int .i64 (i : Int) ∧ Hid (((bn s).take i).all vc = true) ∧ wr = w) (fun vi _ => s.size - (intOf vi).toNat)
  case atStart => exact ⟨0, Nat.zero_le _, rfl, rfl, rfl⟩
  case round =>
    obtain ⟨i, hi, rfl, HR, rfl⟩ := hrel
    by_cases hlt : i < s.size
    · have hltz : (i : Int) < (s.size : Int) := by omega
      have hg := (HGT.out i hlt).symm
      obtain ⟨q0, q1⟩ := HBY.out i hlt
      have HS1 := hid (HST.out i hlt HR.out)
      have HS2 := hid (HNO.out i hlt)
      obtain ⟨y, hy⟩ : ∃ y, (bn s)[i]?.getD 0 = y := ⟨_, rfl⟩
      rw [hy] at hg q0 q1 HS1 HS2
      have HFY := hid (HF.out y)
      clear hy HGT HBY HST HNO HF
      cases hp : vc y with
      | true =>
        have HE := hid (HS1.out hp)
        rw [hp] at HFY
        clear HS1 HS2 HR hp
        go_wp2_with (go_at_call 50; refine (HFY.out wr).mono ?_; rintro e w' ⟨rfl, rfl⟩)
        go_roundw
        case rel => exact ⟨i + 1, by omega, by go_num, HE, by first | rfl | trivial⟩
        case measure => simp [intOf]; omega
      | false =>
        have HE := hid (HS2.out hp)
        rw [hp] at HFY
        clear HS1 HS2 HR hp
        go_wp2_with (go_at_call 50; refine (HFY.out wr).mono ?_; rintro e w' ⟨rfl, rfl⟩)
        go_ret
        exact ⟨by rw [HE.out] <;> rfl, rfl⟩
    · have hltz : ¬ (i : Int) < (s.size : Int) := by omega
      obtain rfl : i = s.size := by omega
      have HE : Hid ((bn s).all vc = true) := by
        have := HR.out
        rw [List.take_of_length_le (by rw [bn_length]; exact Nat.le_refl _)] at this
        exact this
      clear HR
      go_wp2
      go_ret
      exact ⟨by rw [HE.out] <;> rfl, rfl⟩
set_option maxRecDepth 100000 in
set_option maxHeartbeats 4000000 in
theorem isOf_tok (s : ByteArray) (hs : s.size ≤ 1000000) (b : Nat) (w : World) (hb : w.heap[b]? = some (.cells tbl 54 (0, 0))) : Calls Tryd.prog 24 #[.string s, .func (.func 25) #[] #[.pointer (some ⟨b, 0, none⟩)]] w fun e W' => e = .returned (.bool ((bn s).all tc)) ∧ W' = w := by
  have HGT := hid (bn_get s)
  have HBY := hid (fun j (h : j < s.size) => byte_bd (s := s) h)
  have HST := hid (fun i h ha hp => all_step (s := s) (p := tc) (i := i) h ha hp)
  have HNO := hid (fun i h hp => all_no (s := s) (p := tc) (i := i) h hp)
  have HF := hid (fun (c : Int) (h0 : 0 ≤ c) (h1 : c ≤ 255) => token1_any b c h0 h1 w hb)
  go_enter Tryd.func24, Tryd.ntmps24
  go_wp2_with fail
  go_loopw [8] (fun v8 wr => ∃ i : Nat, i ≤ s.size ∧ v8 = .int .i64 (i : Int) ∧ Hid (((bn s).take i).all tc = true) ∧ wr = w) (fun vi _ => s.size - (intOf vi).toNat)
  case atStart => exact ⟨0, Nat.zero_le _, rfl, rfl, rfl⟩
  case round =>
    obtain ⟨i, hi, rfl, HR, rfl⟩ := hrel
    by_cases hlt : i < s.size
    · have hltz : (i : Int) < (s.size : Int) := by omega
      have hg := (HGT.out i hlt).symm
      obtain ⟨q0, q1⟩ := HBY.out i hlt
      have HS1 := hid (HST.out i hlt HR.out)
      have HS2 := hid (HNO.out i hlt)
      obtain ⟨y, hy⟩ : ∃ y, (bn s)[i]?.getD 0 = y := ⟨_, rfl⟩
      rw [hy] at hg q0 q1 HS1 HS2
      have HFY := hid (HF.out y q0 q1)
      clear hy HGT HBY HST HNO HF
      cases hp : tc y with
      | true =>
        have HE := hid (HS1.out hp)
        rw [hp] at HFY
        clear HS1 HS2 HR hp
        go_wp2_with (go_at_call 25; refine HFY.out.mono ?_; rintro e w' ⟨rfl, rfl⟩)
        go_roundw
        case rel => exact ⟨i + 1, by omega, by go_num, HE, by first | rfl | trivial⟩
        case measure => simp [intOf]; omega
      | false =>
        have HE := hid (HS2.out hp)
        rw [hp] at HFY
        clear HS1 HS2 HR hp
        go_wp2_with (go_at_call 25; refine HFY.out.mono ?_; rintro e w' ⟨rfl, rfl⟩)
        go_ret
        exact ⟨by rw [HE.out] <;> rfl, rfl⟩
    · have hltz : ¬ (i : Int) < (s.size : Int) := by omega
      obtain rfl : i = s.size := by omega
      have HE : Hid ((bn s).all tc = true) := by
        have := HR.out
        rw [List.take_of_length_le (by rw [bn_length]; exact Nat.le_refl _)] at this
        exact this
      clear HR
      go_wp2
      go_ret
      exact ⟨by rw [HE.out] <;> rfl, rfl⟩
set_option maxRecDepth 1000000 in
set_option maxHeartbeats 4000000 in
theorem token_any (s : ByteArray) (hs : s.size ≤ 1000000) (w : World) : Calls Tryd.prog 12 #[.string s] w fun e W' => e = .returned (.bool (tok (bn s))) ∧ Below w.heap.size w W' := by
  have hmf : ∀ (fn : Fn) (first cap : Array Value) (w : World), (Instr.makeFunc fn first cap).run Tryd.prog w = .ok (.func fn first cap) w := fun _ _ _ _ => rfl
  have hv : ∀ w, (zeroValue 54).run Tryd.prog w = .ok (.agg (Array.replicate 256 (.bool false))) w := fun w => by kernel_rfl
  have HI : Hid ((Tryd.prog.info? 54).map (·.size) = some 256) := hid (by kernel_rfl)
  have HT := hid (tokens_any w)
  go_enter Tryd.func12, Tryd.ntmps12
  go_upto_region 2 with (first
    | (go_at_call 23; refine HT.out.mono ?_; rintro e w1 ⟨rfl, hB⟩; have HB := hid hB; clear hB)
    | (refine wpList_store_row rfl 54 (.tmp 3) (.tmp 4) rfl w1.heap.size tbl rfl rfl 54 (Array.replicate 256 (.bool false)) (heap_alloc_last _ _) (HI.out.trans (congrArg some tbl_size.symm)) ((Array.size_replicate ..).trans tbl_size.symm) (Lib.setCells_one _) ?_))
  obtain ⟨wc, hwc⟩ : ∃ wc, (w1.alloc (.cells (Array.replicate 256 (.bool false)) 54)).setRow w1.heap.size tbl = wc := ⟨_, rfl⟩
  have hrow : wc.heap[w1.heap.size]? = some (.cells tbl 54 (0, 0)) := by rw [← hwc]; exact setRow_heap _ _ _ _ _ _ (heap_alloc_last _ _)
  have HBB : Hid (Below w.heap.size w wc) := by rw [← hwc]; exact below_setRow (HB.out.alloc HB.out.size _) HB.out.size _
  have HTK := hid (isOf_tok s hs w1.heap.size wc hrow)
  rw [hwc]
  clear hwc hrow hv HI HT
  by_cases h0 : s.size = 0
  · have hE := isEmpty_true s h0
    have HE : Hid (tok (bn s) = false) := by
      have : bn s = [] := List.length_eq_zero_iff.1 (by rw [bn_length]; exact h0)
      show _ = _
      rw [this]; rfl
    clear HTK
    go_wp2
    go_ret
    exact ⟨by rw [HE.out] <;> rfl, HBB.out⟩
  · have hE := isEmpty_false s (by omega)
    have HE : Hid (tok (bn s) = (bn s).all tc) := by
      have : bn s ≠ [] := fun e => h0 (by rw [← bn_length, e]; rfl)
      show _ = _
      unfold tok
      cases h : bn s with
      | nil => exact absurd h this
      | cons x l => rfl
    go_wp2_with (go_at_call 24; refine HTK.out.mono ?_; rintro e w' ⟨rfl, rfl⟩)
    go_ret
    exact ⟨by rw [HE.out] <;> rfl, HBB.out⟩
end Go.Proofs.YtacbfbhhhofifaaDoor.Hd
