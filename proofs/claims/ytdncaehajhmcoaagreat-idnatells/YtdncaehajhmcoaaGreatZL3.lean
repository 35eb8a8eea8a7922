/- Texts of one layer, one behind the other: LG LK. -/
import Derived.Test.YtdncaehajhmcoaaGreatZL2
/- The searches in a row, isNotValid, and the eight questions. -/
namespace Go.Proofs.YtdncaehajhmcoaaGreat.L
open Go.RowKit
set_option linter.unusedVariables false

theorem any_no {p : Int → Bool} {L : List Int} (h : ∀ j, j < L.length → p (L[j]?.getD 0) = false) : L.any p = false := by
  rw [Bool.eq_false_iff]
  intro hc
  obtain ⟨x, hx, hp⟩ := List.any_eq_true.1 hc
  obtain ⟨j, hj, rfl⟩ := List.mem_iff_getElem.1 hx
  have := h j hj
  rw [List.getElem?_eq_getElem hj] at this
  exact absurd hp (by simpa using this)
theorem any_yes {p : Int → Bool} {L : List Int} (j : Nat) (hj : j < L.length) (h : p (L[j]?.getD 0) = true) : L.any p = true := by
  rw [List.getElem?_eq_getElem hj] at h
  exact List.any_eq_true.2 ⟨_, List.getElem_mem hj, h⟩
/-- What a search answers. -/
def IdxR (b : Bool) (e : Ending) : Prop := ∃ k : Int, e = .returned (.int .i64 k) ∧ -1 ≤ k ∧ k ≤ 100000 ∧ decide (0 ≤ k) = b
set_option maxRecDepth 100000 in
set_option maxHeartbeats 2000000 in
theorem index_any (v : Value) (L : List Int) (x : Int) (w : World) (hlen : L.length ≤ 100000) (hv : U.IntsAt w v L) :
    Calls Tryz.prog 167 #[v, .int .i32 x] w fun e W' => IdxR (L.any fun r => decide (r = x)) e ∧ Below w.heap.size w W' := by
  obtain ⟨a, c, rfl, hf⟩ := ints_form hv
  have HF := hid hf
  have HNO := hid (any_no (p := fun r => decide (r = x)) (L := L))
  have HYES := hid (any_yes (p := fun r => decide (r = x)) (L := L))
  obtain ⟨n, hn⟩ : ∃ n, L.length = n := ⟨_, rfl⟩
  rw [hn] at hlen HF HNO HYES ⊢
  obtain ⟨R, hR⟩ : ∃ R, (L.any fun r => decide (r = x)) = R := ⟨_, rfl⟩
  rw [hR] at HNO HYES ⊢
  clear hv hf hn hR
  go_enter Tryz.func167, Tryz.ntmps167
  go_wp2_with fail
  go_loopw [8] (fun v8 wr => ∃ k : Nat, k ≤ n ∧ v8 = .int .i64 k ∧ Hid (∀ j, j < k → decide (L[j]?.getD 0 = x) = false) ∧ Hid (Below w.heap.size w wr)) (fun v8 _ => n - (intOf v8).toNat)
  case atStart => exact ⟨0, Nat.zero_le _, rfl, (fun j hj => by omega), Below.refl _ _⟩
  case round =>
    obtain ⟨k, hk, rfl, HA, HB⟩ := hrel
    by_cases hlt : k < n
    · obtain ⟨b, off, rfl, hck⟩ := cell_at HF.out HB.out k hlt
      have HX := hid (HYES.out k hlt)
      have HS : Hid (decide (L[k]?.getD 0 = x) = false → ∀ j, j < k + 1 → decide (L[j]?.getD 0 = x) = false) := fun h j hj => by
        by_cases e : j = k
        · rw [e]; exact h
        · exact HA.out j (by omega)
      obtain ⟨y, hy⟩ : ∃ y, L[k]?.getD 0 = y := ⟨_, rfl⟩
      rw [hy] at hck HX HS
      clear hy
      by_cases hq : x = y
      · subst hq
        have HR := hid (HX.out (decide_eq_true rfl))
        go_wp2
        go_ret
        exact ⟨⟨k, rfl, by omega, by omega, by rw [HR.out]; exact decide_eq_true (by omega)⟩, HB.out⟩
      · have hq1 : (x == y) = false := by simpa using hq
        have HR := hid (HS.out (decide_eq_false (fun h => hq h.symm)))
        go_wp2
        go_roundw
        case rel => exact ⟨k + 1, by omega, by go_num, HR, HB⟩
        case measure => simp [intOf]; omega
    · have HR := hid (HNO.out (fun j hj => HA.out j (by omega)))
      go_wp2
      go_ret
      exact ⟨⟨-1, rfl, by omega, by omega, by rw [HR.out]; rfl⟩, HB.out⟩
set_option maxRecDepth 100000 in
set_option maxHeartbeats 2000000 in
theorem contains_any (v : Value) (L : List Int) (x : Int) (w : World) (hlen : L.length ≤ 100000) (hv : U.IntsAt w v L) :
    Calls Tryz.prog 133 #[v, .int .i32 x] w fun e W' => e = .returned (.bool (L.any fun r => decide (r = x))) ∧ Below w.heap.size w W' := by
  have HC := hid (index_any v L x w hlen hv)
  obtain ⟨a, c, rfl, -⟩ := ints_form hv
  obtain ⟨n, hn⟩ : ∃ n, L.length = n := ⟨_, rfl⟩
  rw [hn] at HC ⊢
  clear hv hn
  go_enter Tryz.func133, Tryz.ntmps133
  go_wp2_with fail
  refine HC.out.mono ?_
  rintro e w1 ⟨⟨k, rfl, h1, h2, h3⟩, B1⟩
  have H3 := hid h3
  clear h3
  go_wp2
  go_ret
  exact ⟨by rw [← H3.out]; rfl, B1⟩
theorem status_c (r : Int) (w : World) : Calls Tryz.prog 44 #[.int .i32 r] w fun e W' => e = .returned (.int .u8 (sts r)) ∧ Below w.heap.size w W' := D.status_any r w
theorem mark_c (r : Int) (w : World) : Calls Tryz.prog 135 #[.int .i32 r] w fun e W' => e = .returned (.bool (mrk r)) ∧ Below w.heap.size w W' := D.mark_any r w
set_option maxRecDepth 100000 in
set_option maxHeartbeats 2000000 in
theorem notValid_any (r : Int) (w : World) :
    Calls Tryz.prog 137 #[.int .i32 r] w fun e W' => e = .returned (.bool (nval r)) ∧ Below w.heap.size w W' := by
  have HC := hid (status_c r w)
  have HN : Hid (nval r = (decide (sts r ≠ 1) && decide (sts r ≠ 4))) := rfl
  obtain ⟨s, hs⟩ : ∃ s, sts r = s := ⟨_, rfl⟩
  obtain ⟨R, hR⟩ : ∃ R, nval r = R := ⟨_, rfl⟩
  rw [hs] at HC HN
  rw [hR] at HN ⊢
  clear hs hR
  go_enter Tryz.func137, Tryz.ntmps137
  go_wp2_with fail
  refine HC.out.mono ?_
  rintro e w1 ⟨rfl, B1⟩
  go_wp2
  all_goals (go_ret; refine ⟨?_, B1⟩; rw [HN.out]; first | (simp_all; done) | (simp_all; rw [Bool.eq_iff_iff]; simp; done) | (simp_all; rw [Bool.eq_iff_iff]; simp; intros; omega))
set_option maxRecDepth 100000 in
set_option maxHeartbeats 2000000 in
theorem indexFunc_any (v : Value) (L : List Int) (w : World) (hlen : L.length ≤ 100000) (hv : U.IntsAt w v L) :
    Calls Tryz.prog 146 #[v, .func (.func 137) #[] #[]] w fun e W' => IdxR (L.any nval) e ∧ Below w.heap.size w W' := by
  obtain ⟨a, c, rfl, hf⟩ := ints_form hv
  have HF := hid hf
  have HNO := hid (any_no (p := nval) (L := L))
  have HYES := hid (any_yes (p := nval) (L := L))
  obtain ⟨n, hn⟩ : ∃ n, L.length = n := ⟨_, rfl⟩
  rw [hn] at hlen HF HNO HYES ⊢
  obtain ⟨R, hR⟩ : ∃ R, L.any nval = R := ⟨_, rfl⟩
  rw [hR] at HNO HYES ⊢
  clear hv hf hn hR
  go_enter Tryz.func146, Tryz.ntmps146
  go_wp2_with fail
  go_loopw [8] (fun v8 wr => ∃ k : Nat, k ≤ n ∧ v8 = .int .i64 k ∧ Hid (∀ j, j < k → nval (L[j]?.getD 0) = false) ∧ Hid (Below w.heap.size w wr)) (fun v8 _ => n - (intOf v8).toNat)
  case atStart => exact ⟨0, Nat.zero_le _, rfl, (fun j hj => by omega), Below.refl _ _⟩
  case round =>
    obtain ⟨k, hk, rfl, HA, HB⟩ := hrel
    by_cases hlt : k < n
    · obtain ⟨b, off, rfl, hck⟩ := cell_at HF.out HB.out k hlt
      have HX := hid (HYES.out k hlt)
      have HS : Hid (nval (L[k]?.getD 0) = false → ∀ j, j < k + 1 → nval (L[j]?.getD 0) = false) := fun h j hj => by
        by_cases e : j = k
        · rw [e]; exact h
        · exact HA.out j (by omega)
      have HC := hid (notValid_any (L[k]?.getD 0) wr)
      obtain ⟨t, ht⟩ : ∃ t, nval (L[k]?.getD 0) = t := ⟨_, rfl⟩
      rw [ht] at HX HS HC
      obtain ⟨y, hy⟩ : ∃ y, L[k]?.getD 0 = y := ⟨_, rfl⟩
      rw [hy] at hck HC
      clear hy ht
      cases t with
      | true =>
        have HR := hid (HX.out rfl)
        go_wp2_with (go_at_call 137; refine HC.out.mono ?_; rintro e w1 ⟨rfl, B1⟩)
        go_ret
        exact ⟨⟨k, rfl, by omega, by omega, by rw [HR.out]; exact decide_eq_true (by omega)⟩, HB.out.trans (B1.mono HB.out.size)⟩
      | false =>
        have HR := hid (HS.out rfl)
        go_wp2_with (go_at_call 137; refine HC.out.mono ?_; rintro e w1 ⟨rfl, B1⟩)
        go_roundw
        case rel => exact ⟨k + 1, by omega, by go_num, HR, HB.out.trans (B1.mono HB.out.size)⟩
        case measure => simp [intOf]; omega
    · have HR := hid (HNO.out (fun j hj => HA.out j (by omega)))
      go_wp2
      go_ret
      exact ⟨⟨-1, rfl, by omega, by omega, by rw [HR.out]; rfl⟩, HB.out⟩
set_option maxRecDepth 100000 in
set_option maxHeartbeats 2000000 in
theorem containsFunc_any (v : Value) (L : List Int) (w : World) (hlen : L.length ≤ 100000) (hv : U.IntsAt w v L) :
    Calls Tryz.prog 92 #[v, .func (.func 137) #[] #[]] w fun e W' => e = .returned (.bool (L.any nval)) ∧ Below w.heap.size w W' := by
  have HC := hid (indexFunc_any v L w hlen hv)
  obtain ⟨a, c, rfl, -⟩ := ints_form hv
  obtain ⟨n, hn⟩ : ∃ n, L.length = n := ⟨_, rfl⟩
  rw [hn] at HC ⊢
  clear hv hn
  go_enter Tryz.func92, Tryz.ntmps92
  go_wp2_with fail
  refine HC.out.mono ?_
  rintro e w1 ⟨⟨k, rfl, h1, h2, h3⟩, B1⟩
  have H3 := hid h3
  clear h3
  go_wp2
  go_ret
  exact ⟨by rw [← H3.out]; rfl, B1⟩
/-! ### The questions -/
set_option maxRecDepth 100000 in
set_option maxHeartbeats 2000000 in
theorem q1_any (B : Nat) (v : Value) (L : List Int) (w : World) (hlen : L.length ≤ 10000) (hb : Boxed w B 34 v) (hv : N.Row21 w v L) :
    Calls Tryz.prog 127 #[.pointer (some ⟨B, 0, none⟩)] w fun e W' => e = .returned (.bool (!decide (N.nfcI L = L))) ∧ Below w.heap.size w W' := by
  have HC := hid (N.is_any v L w hlen hv)
  obtain ⟨a, c, rfl, -⟩ := hv
  have hc := hb.cell
  obtain ⟨R, hR⟩ : ∃ R, decide (N.nfcI L = L) = R := ⟨_, rfl⟩
  rw [hR] at HC ⊢
  obtain ⟨n, hn⟩ : ∃ n, L.length = n := ⟨_, rfl⟩
  rw [hn] at HC hc
  clear hR hn hb
  go_enter Tryz.func127, Tryz.ntmps127
  go_wp2_with fail
  refine HC.out.mono ?_
  rintro e w1 ⟨rfl, B1⟩
  go_wp2
  go_ret
  exact ⟨rfl, B1⟩
set_option maxRecDepth 100000 in
set_option maxHeartbeats 4000000 in
theorem q2_any (B Bh : Nat) (v : Value) (hy : Bool) (L : List Int) (w : World) (hlen : L.length ≤ 10000) (hb : Boxed w B 34 v) (hh : Boxed w Bh 4 (.bool hy)) (hv : U.IntsAt w v L) :
    Calls Tryz.prog 129 #[.pointer (some ⟨Bh, 0, none⟩), .pointer (some ⟨B, 0, none⟩)] w fun e W' => e = .returned (.bool (hy && decide (4 ≤ L.length) && decide (L[2]?.getD 0 = 45) && decide (L[3]?.getD 0 = 45))) ∧ Below w.heap.size w W' := by
  obtain ⟨a, c, rfl, hf⟩ := ints_form hv
  have hc := hb.cell
  have hch := hh.cell
  have HF := hid hf
  obtain ⟨x, hx⟩ : ∃ x, L[2]?.getD 0 = x := ⟨_, rfl⟩
  obtain ⟨y, hyy⟩ : ∃ y, L[3]?.getD 0 = y := ⟨_, rfl⟩
  rw [hx, hyy]
  by_cases h4 : 4 ≤ L.length
  · obtain ⟨b, off, rfl, hcc⟩ := HF.out (by omega)
    have h2 := hcc 2 (by omega)
    have h3 := hcc 3 (by omega)
    rw [hx] at h2
    rw [hyy] at h3
    rw [decide_eq_true h4]
    obtain ⟨n, hn⟩ : ∃ n, L.length = n := ⟨_, rfl⟩
    rw [hn] at hc h4 hlen
    have h4z : (4 : Int) ≤ (n : Int) := by omega
    clear hx hyy hn hb hh hv hf HF hcc
    cases hy
    · go_enter Tryz.func129, Tryz.ntmps129
      go_wp2
      go_ret
      exact ⟨rfl, Below.refl _ _⟩
    · go_enter Tryz.func129, Tryz.ntmps129
      go_wp2
      all_goals (go_ret; refine ⟨?_, Below.refl _ _⟩; first | (simp_all; done) | (simp_all; rw [Bool.eq_iff_iff]; simp; done) | (simp_all; rw [Bool.eq_iff_iff]; simp; intros; omega))
  · rw [decide_eq_false h4]
    obtain ⟨n, hn⟩ : ∃ n, L.length = n := ⟨_, rfl⟩
    rw [hn] at hc h4 hlen
    have h4z : ¬ (4 : Int) ≤ (n : Int) := by omega
    clear hx hyy hn hb hh hv hf HF
    cases hy
    · go_enter Tryz.func129, Tryz.ntmps129
      go_wp2
      go_ret
      exact ⟨rfl, Below.refl _ _⟩
    · go_enter Tryz.func129, Tryz.ntmps129
      go_wp2
      go_ret
      exact ⟨rfl, Below.refl _ _⟩
set_option maxRecDepth 100000 in
set_option maxHeartbeats 4000000 in
theorem q3_any (Bh Bf Bz : Nat) (hy : Bool) (x y : Int) (w : World) (hh : Boxed w Bh 4 (.bool hy)) (hf : Boxed w Bf 21 (.int .i32 x)) (hz : Boxed w Bz 21 (.int .i32 y)) :
    Calls Tryz.prog 130 #[.pointer (some ⟨Bh, 0, none⟩), .pointer (some ⟨Bf, 0, none⟩), .pointer (some ⟨Bz, 0, none⟩)] w fun e W' => e = .returned (.bool (hy && (decide (x = 45) || decide (y = 45)))) ∧ Below w.heap.size w W' := by
  have hch := hh.cell
  have hcf := hf.cell
  have hcz := hz.cell
  clear hh hf hz
  cases hy
  · go_enter Tryz.func130, Tryz.ntmps130
    go_wp2
    go_ret
    exact ⟨rfl, Below.refl _ _⟩
  · go_enter Tryz.func130, Tryz.ntmps130
    go_wp2
    all_goals (go_ret; refine ⟨?_, Below.refl _ _⟩; first | (simp_all; done) | (simp_all; rw [Bool.eq_iff_iff]; simp; done) | (simp_all; rw [Bool.eq_iff_iff]; simp; intros; omega))
set_option maxRecDepth 100000 in
set_option maxHeartbeats 2000000 in
theorem q5_any (B : Nat) (v : Value) (L : List Int) (w : World) (hlen : L.length ≤ 10000) (hb : Boxed w B 34 v) (hv : U.IntsAt w v L) :
    Calls Tryz.prog 132 #[.pointer (some ⟨B, 0, none⟩)] w fun e W' => e = .returned (.bool (L.any fun r => decide (r = 46))) ∧ Below w.heap.size w W' := by
  have HC := hid (contains_any v L 46 w (by omega) hv)
  obtain ⟨a, c, rfl, -⟩ := ints_form hv
  have hc := hb.cell
  obtain ⟨R, hR⟩ : ∃ R, (L.any fun r => decide (r = 46)) = R := ⟨_, rfl⟩
  rw [hR] at HC ⊢
  obtain ⟨n, hn⟩ : ∃ n, L.length = n := ⟨_, rfl⟩
  rw [hn] at HC hc
  clear hR hn hb hv
  go_enter Tryz.func132, Tryz.ntmps132
  go_wp2_with fail
  refine HC.out.mono ?_
  rintro e w1 ⟨rfl, B1⟩
  go_wp2
  go_ret
  exact ⟨rfl, B1⟩
set_option maxRecDepth 100000 in
set_option maxHeartbeats 2000000 in
theorem q6_any (B : Nat) (x : Int) (w : World) (hb : Boxed w B 21 (.int .i32 x)) :
    Calls Tryz.prog 134 #[.pointer (some ⟨B, 0, none⟩)] w fun e W' => e = .returned (.bool (mrk x)) ∧ Below w.heap.size w W' := by
  have HC := hid (mark_c x w)
  have hc := hb.cell
  clear hb
  go_enter Tryz.func134, Tryz.ntmps134
  go_wp2_with fail
  refine HC.out.mono ?_
  rintro e w1 ⟨rfl, B1⟩
  go_wp2
  go_ret
  exact ⟨rfl, B1⟩
set_option maxRecDepth 100000 in
set_option maxHeartbeats 2000000 in
theorem q7_any (B : Nat) (v : Value) (L : List Int) (w : World) (hlen : L.length ≤ 10000) (hb : Boxed w B 34 v) (hv : U.IntsAt w v L) :
    Calls Tryz.prog 136 #[.pointer (some ⟨B, 0, none⟩)] w fun e W' => e = .returned (.bool (L.any nval)) ∧ Below w.heap.size w W' := by
  have HC := hid (containsFunc_any v L w (by omega) hv)
  obtain ⟨a, c, rfl, -⟩ := ints_form hv
  have hc := hb.cell
  obtain ⟨R, hR⟩ : ∃ R, L.any nval = R := ⟨_, rfl⟩
  rw [hR] at HC ⊢
  obtain ⟨n, hn⟩ : ∃ n, L.length = n := ⟨_, rfl⟩
  rw [hn] at HC hc
  clear hR hn hb hv
  go_enter Tryz.func136, Tryz.ntmps136
  go_wp2_with fail
  refine HC.out.mono ?_
  rintro e w1 ⟨rfl, B1⟩
  go_wp2
  go_ret
  exact ⟨rfl, B1⟩
set_option maxRecDepth 100000 in
set_option maxHeartbeats 2000000 in
theorem q8_any (B : Nat) (v : Value) (L : List Int) (w : World) (hlen : L.length ≤ 10000) (hb : Boxed w B 34 v) (hv : U.IntsAt w v L) :
    Calls Tryz.prog 138 #[.pointer (some ⟨B, 0, none⟩)] w fun e W' => e = .returned (.bool (!jok L)) ∧ Below w.heap.size w W' := by
  have HC := hid (joins_any v L w (by omega) hv)
  obtain ⟨a, c, rfl, -⟩ := ints_form hv
  have hc := hb.cell
  obtain ⟨R, hR⟩ : ∃ R, jok L = R := ⟨_, rfl⟩
  rw [hR] at HC ⊢
  obtain ⟨n, hn⟩ : ∃ n, L.length = n := ⟨_, rfl⟩
  rw [hn] at HC hc
  clear hR hn hb hv
  go_enter Tryz.func138, Tryz.ntmps138
  go_wp2_with fail
  refine HC.out.mono ?_
  rintro e w1 ⟨rfl, B1⟩
  go_wp2
  go_ret
  exact ⟨rfl, B1⟩
end Go.Proofs.YtdncaehajhmcoaaGreat.L
/- The document's bidi, Right, bit, Begins, may, Joins. -/
namespace Go.Proofs.YtdncaehajhmcoaaGreat.L
open Go.RowKit
set_option linter.unusedVariables false

theorem rfind_c (r : Int) : ∃ x0 x1 x3 x4 x5 x6 : Int, ∀ w : World, Calls Tryz.prog 40 #[.int .i32 r] w fun e W' => e = .returned (.agg #[.int .i32 x0, .int .i32 x1, .int .u8 (sts r), .int .i32 x3, .int .i32 x4, .int .i32 x5, .int .u8 x6, .int .u8 (bid r), .int .u8 (cls r), .bool (mrk r), .int .u8 (joi r)]) ∧ Below w.heap.size w W' := by
  have hp := D.fnd_prj r
  have hf := D.rfind_any r
  obtain ⟨⟨x0, x1, x2, x3, x4, x5, x6, x7, x8, x9, x10⟩, hx⟩ : ∃ x, x = D.rfnd r := ⟨_, rfl⟩
  rw [← hx] at hf hp
  refine ⟨x0, x1, x3, x4, x5, x6, fun w => ?_⟩
  unfold sts bid cls mrk joi
  rw [hp]
  exact hf w
section
variable (x0 x1 x2 x3 x4 x5 x6 x7 x8 x10 : Int) (x9 : Bool) (W : World)
theorem fld2 : (Instr.field 62 (.agg #[.int .i32 x0, .int .i32 x1, .int .u8 x2, .int .i32 x3, .int .i32 x4, .int .i32 x5, .int .u8 x6, .int .u8 x7, .int .u8 x8, .bool x9, .int .u8 x10]) 2).run Tryz.prog W = .ok (.int .u8 x2) W := by kernel_rfl
theorem fld7 : (Instr.field 62 (.agg #[.int .i32 x0, .int .i32 x1, .int .u8 x2, .int .i32 x3, .int .i32 x4, .int .i32 x5, .int .u8 x6, .int .u8 x7, .int .u8 x8, .bool x9, .int .u8 x10]) 7).run Tryz.prog W = .ok (.int .u8 x7) W := by kernel_rfl
theorem fld8 : (Instr.field 62 (.agg #[.int .i32 x0, .int .i32 x1, .int .u8 x2, .int .i32 x3, .int .i32 x4, .int .i32 x5, .int .u8 x6, .int .u8 x7, .int .u8 x8, .bool x9, .int .u8 x10]) 8).run Tryz.prog W = .ok (.int .u8 x8) W := by kernel_rfl
theorem fld9 : (Instr.field 62 (.agg #[.int .i32 x0, .int .i32 x1, .int .u8 x2, .int .i32 x3, .int .i32 x4, .int .i32 x5, .int .u8 x6, .int .u8 x7, .int .u8 x8, .bool x9, .int .u8 x10]) 9).run Tryz.prog W = .ok (.bool x9) W := by kernel_rfl
theorem fld10 : (Instr.field 62 (.agg #[.int .i32 x0, .int .i32 x1, .int .u8 x2, .int .i32 x3, .int .i32 x4, .int .i32 x5, .int .u8 x6, .int .u8 x7, .int .u8 x8, .bool x9, .int .u8 x10]) 10).run Tryz.prog W = .ok (.int .u8 x10) W := by kernel_rfl
end
set_option maxRecDepth 100000 in
set_option maxHeartbeats 1000000 in
theorem rbidi_any (r : Int) (w : World) :
    Calls Tryz.prog 48 #[.int .i32 r] w fun e W' => e = .returned (.int .u8 (bid r)) ∧ Below w.heap.size w W' := by
  obtain ⟨x0, x1, x3, x4, x5, x6, hf⟩ := rfind_c r
  have hfl := fld7 x0 x1 (sts r) x3 x4 x5 x6 (bid r) (cls r) (joi r) (mrk r)
  obtain ⟨y2, h2⟩ : ∃ y, sts r = y := ⟨_, rfl⟩
  obtain ⟨y7, h7⟩ : ∃ y, bid r = y := ⟨_, rfl⟩
  obtain ⟨y8, h8⟩ : ∃ y, cls r = y := ⟨_, rfl⟩
  obtain ⟨y9, h9⟩ : ∃ y, mrk r = y := ⟨_, rfl⟩
  obtain ⟨y10, h10⟩ : ∃ y, joi r = y := ⟨_, rfl⟩
  rw [h2, h7, h8, h9, h10] at hf hfl
  rw [h7]
  have HF := hid hf
  clear hf h2 h7 h8 h9 h10
  go_enter Tryz.func48, Tryz.ntmps48
  go_wp2_with fail
  refine (HF.out _).mono ?_
  rintro e w1 ⟨rfl, B1⟩
  go_wp2
  go_ret
  exact ⟨rfl, B1⟩
theorem goesR_yes (L : List Int) (j : Nat) (hj : j < L.length) (h : bid (L[j]?.getD 0) = 2 ∨ bid (L[j]?.getD 0) = 3 ∨ bid (L[j]?.getD 0) = 7) : goesR L = true := by
  unfold goesR has
  rcases h with h | h | h
  · rw [any_yes (p := fun r => decide (bid r = 2)) j hj (by simp [h])]; rfl
  · rw [any_yes (p := fun r => decide (bid r = 3)) j hj (by simp [h])]; simp
  · rw [any_yes (p := fun r => decide (bid r = 7)) j hj (by simp [h])]; simp
theorem goesR_no (L : List Int) (h : ∀ j, j < L.length → ¬ (bid (L[j]?.getD 0) = 2 ∨ bid (L[j]?.getD 0) = 3 ∨ bid (L[j]?.getD 0) = 7)) : goesR L = false := by
  unfold goesR has
  rw [any_no (p := fun r => decide (bid r = 2)) (fun j hj => decide_eq_false (fun e => h j hj (.inl e))), any_no (p := fun r => decide (bid r = 3)) (fun j hj => decide_eq_false (fun e => h j hj (.inr (.inl e)))), any_no (p := fun r => decide (bid r = 7)) (fun j hj => decide_eq_false (fun e => h j hj (.inr (.inr e))))]; rfl
set_option maxRecDepth 100000 in
set_option maxHeartbeats 4000000 in
theorem rright_any (v : Value) (L : List Int) (w : World) (hlen : L.length ≤ 100000) (hv : U.IntsAt w v L) :
    Calls Tryz.prog 21 #[v] w fun e W' => e = .returned (.bool (goesR L)) ∧ Below w.heap.size w W' := by
  obtain ⟨a, c, rfl, hf⟩ := ints_form hv
  have HF := hid hf
  have HYES := hid (goesR_yes L)
  have HNO := hid (goesR_no L)
  obtain ⟨n, hn⟩ : ∃ n, L.length = n := ⟨_, rfl⟩
  rw [hn] at hlen HF HYES HNO ⊢
  obtain ⟨R, hR⟩ : ∃ R, goesR L = R := ⟨_, rfl⟩
  rw [hR] at HNO HYES ⊢
  clear hv hf hn hR
  go_enter Tryz.func21, Tryz.ntmps21
  go_wp2_with fail
  go_loopw [3] (fun v3 wr => ∃ k : Nat, k ≤ n ∧ v3 = .int .i64 k ∧ Hid (∀ j, j < k → ¬ (bid (L[j]?.getD 0) = 2 ∨ bid (L[j]?.getD 0) = 3 ∨ bid (L[j]?.getD 0) = 7)) ∧ Hid (Below w.heap.size w wr)) (fun v3 _ => n - (intOf v3).toNat)
  case atStart => exact ⟨0, Nat.zero_le _, rfl, (fun j hj => by omega), Below.refl _ _⟩
  case round =>
    obtain ⟨k, hk, rfl, HA, HB⟩ := hrel
    by_cases hlt : k < n
    · obtain ⟨b, off, rfl, hck⟩ := cell_at HF.out HB.out k hlt
      have HX := hid (HYES.out k hlt)
      have HS : Hid (¬ (bid (L[k]?.getD 0) = 2 ∨ bid (L[k]?.getD 0) = 3 ∨ bid (L[k]?.getD 0) = 7) → ∀ j, j < k + 1 → ¬ (bid (L[j]?.getD 0) = 2 ∨ bid (L[j]?.getD 0) = 3 ∨ bid (L[j]?.getD 0) = 7)) := fun h j hj => by
        by_cases e : j = k
        · rw [e]; exact h
        · exact HA.out j (by omega)
      have HC := hid (rbidi_any (L[k]?.getD 0) wr)
      obtain ⟨z, hz⟩ : ∃ z, bid (L[k]?.getD 0) = z := ⟨_, rfl⟩
      rw [hz] at HX HS HC
      obtain ⟨y, hy⟩ : ∃ y, L[k]?.getD 0 = y := ⟨_, rfl⟩
      rw [hy] at hck HC
      clear hy hz
      by_cases hq : z = 2 ∨ z = 3 ∨ z = 7
      · have HR := hid (HX.out hq)
        rcases hq with rfl | rfl | rfl
        all_goals
          go_wp2_with (go_at_call 48; refine HC.out.mono ?_; rintro e w1 ⟨rfl, B1⟩)
          go_ret
          exact ⟨by rw [HR.out]; rfl, HB.out.trans (B1.mono HB.out.size)⟩
      · have HR := hid (HS.out hq)
        have h1 : (z == 2) = false := by simp; omega
        have h2 : (z == 3) = false := by simp; omega
        have h3 : (z == 7) = false := by simp; omega
        have e1 : ¬ z = 2 := by omega
        have e2 : ¬ z = 3 := by omega
        have e3 : ¬ z = 7 := by omega
        clear hq
        go_wp2_with (go_at_call 48; refine HC.out.mono ?_; rintro e w1 ⟨rfl, B1⟩)
        go_roundw
        case rel => exact ⟨k + 1, by omega, by go_num, HR, HB.out.trans (B1.mono HB.out.size)⟩
        case measure => simp [intOf]; omega
    · have HR := hid (HNO.out (fun j hj => HA.out j (by omega)))
      go_wp2
      go_ret
      exact ⟨by rw [HR.out]; rfl, HB.out⟩
set_option maxHeartbeats 400000 in
theorem rbit_any (b : Bool) (v : Int) (w : World) :
    Calls Tryz.prog 96 #[.bool b, .int .u16 v] w fun e W' => e = .returned (.int .u16 (bt b v)) ∧ W' = w := by
  cases b
  · go_enter Tryz.func96, Tryz.ntmps96
    go_wp2
    go_ret
    exact ⟨rfl, rfl⟩
  · go_enter Tryz.func96, Tryz.ntmps96
    go_wp2
    go_ret
    exact ⟨rfl, rfl⟩
theorem pre4_iff (L : List Int) (h : 4 ≤ L.length) : pre4 L = (((decide (L[0]?.getD 0 = 120) && decide (L[1]?.getD 0 = 110)) && decide (L[2]?.getD 0 = 45)) && decide (L[3]?.getD 0 = 45)) := by
  obtain ⟨a, b, c, d, t, rfl⟩ : ∃ a b c d t, L = a :: b :: c :: d :: t := by
    match L, h with
    | a :: b :: c :: d :: t, _ => exact ⟨a, b, c, d, t, rfl⟩
  unfold pre4
  simp [Bool.and_assoc]
theorem pre4_less (L : List Int) (h : ¬ 4 ≤ L.length) : pre4 L = false := by
  unfold pre4
  apply decide_eq_false
  intro e
  have := congrArg List.length e
  rw [List.length_take] at this
  simp at this; omega
set_option maxRecDepth 100000 in
set_option maxHeartbeats 4000000 in
theorem rbegins_any (v : Value) (L : List Int) (w : World) (hlen : L.length ≤ 100000) (hv : U.IntsAt w v L) :
    Calls Tryz.prog 68 #[v] w fun e W' => e = .returned (.bool (pre4 L)) ∧ W' = w := by
  obtain ⟨a, c, rfl, hf⟩ := ints_form hv
  by_cases h4 : 4 ≤ L.length
  · obtain ⟨b, off, rfl, hcc⟩ := hf (by omega)
    have h0 := hcc 0 (by omega)
    have h1 := hcc 1 (by omega)
    have h2 := hcc 2 (by omega)
    have h3 := hcc 3 (by omega)
    rw [Nat.add_zero] at h0
    have HP := hid (pre4_iff L h4)
    obtain ⟨y0, e0⟩ : ∃ y, L[0]?.getD 0 = y := ⟨_, rfl⟩
    obtain ⟨y1, e1⟩ : ∃ y, L[1]?.getD 0 = y := ⟨_, rfl⟩
    obtain ⟨y2, e2⟩ : ∃ y, L[2]?.getD 0 = y := ⟨_, rfl⟩
    obtain ⟨y3, e3⟩ : ∃ y, L[3]?.getD 0 = y := ⟨_, rfl⟩
    rw [e0, e1, e2, e3] at HP
    rw [e0] at h0
    rw [e1] at h1
    rw [e2] at h2
    rw [e3] at h3
    obtain ⟨R, hR⟩ : ∃ R, pre4 L = R := ⟨_, rfl⟩
    rw [hR] at HP ⊢
    obtain ⟨n, hn⟩ : ∃ n, L.length = n := ⟨_, rfl⟩
    rw [hn] at h4 hlen ⊢
    have h4z : (4 : Int) ≤ (n : Int) := by omega
    clear hR hn e0 e1 e2 e3 hcc hf hv
    go_enter Tryz.func68, Tryz.ntmps68
    go_wp2
    all_goals (go_ret; refine ⟨?_, rfl⟩; rw [HP.out]; first | (simp_all; done) | (simp_all; rw [Bool.eq_iff_iff]; simp; done) | (simp_all; rw [Bool.eq_iff_iff]; simp; intros; omega))
  · rw [pre4_less L h4]
    obtain ⟨n, hn⟩ : ∃ n, L.length = n := ⟨_, rfl⟩
    rw [hn] at h4 hlen ⊢
    have h4z : ¬ (4 : Int) ≤ (n : Int) := by omega
    clear hn hf hv
    go_enter Tryz.func68, Tryz.ntmps68
    go_wp2
    go_ret
    exact ⟨rfl, rfl⟩
end Go.Proofs.YtdncaehajhmcoaaGreat.L
