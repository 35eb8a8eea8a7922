/- Texts of one layer, one behind the other: DG DN. -/
import Derived.Test.YtdncaehajhmcoaaGreatZD3
/- The contracts of Decomp and Pair. -/
namespace Go.Proofs.YtdncaehajhmcoaaGreat.D
open Go.RowKit Go.Lib Go.Sort Go.Shelf
set_option linter.unusedVariables false

def z3 : Tri := (0, 0, 0)
def rising3 : List Tri → Bool
  | x :: y :: l => decide (x.1 < y.1) && rising3 (y :: l)
  | _ => true
theorem rising3_tail {x : Tri} {l : List Tri} (h : rising3 (x :: l) = true) : rising3 l = true := by
  cases l with
  | nil => rfl
  | cons y l => simp only [rising3, Bool.and_eq_true] at h; exact h.2
theorem rising3_all : ∀ {x : Tri} {l : List Tri}, rising3 (x :: l) = true → ∀ y ∈ l, x.1 < y.1
  | x, [], _, y, hy => by simp at hy
  | x, z :: l, h, y, hy => by
    have ht := rising3_tail h
    simp only [rising3, Bool.and_eq_true, decide_eq_true_eq] at h
    rcases List.mem_cons.1 hy with rfl | hy
    · exact h.1
    · have := rising3_all ht y hy
      omega
def ahead3 (d : List Tri) (r : Int) : Nat := d.countP (fun x => !decide (r ≤ x.1))
theorem ahead3_le (d : List Tri) (r : Int) : ahead3 d r ≤ d.length := List.countP_le_length
theorem find3_at : ∀ (d : List Tri) (r : Int), rising3 d = true →
    d.find? (fun x => x.1 == r) = if h : ahead3 d r < d.length then (if (d[ahead3 d r]).1 = r then some (d[ahead3 d r]) else none) else none
  | [], r, _ => by simp [ahead3]
  | x :: l, r, h => by
    have ht := rising3_tail h
    have ha := rising3_all h
    by_cases hx : r ≤ x.1
    · have h0 : ahead3 (x :: l) r = 0 := by
        unfold ahead3
        rw [List.countP_eq_zero]
        intro y hy
        rcases List.mem_cons.1 hy with rfl | hy
        · simpa using hx
        · have := ha y hy
          have : r ≤ y.1 := by omega
          simpa using this
      have hl : ahead3 (x :: l) r < (x :: l).length := by rw [h0]; simp
      rw [dif_pos hl]
      have he : (x :: l)[ahead3 (x :: l) r] = x := by simp [h0]
      rw [he]
      by_cases hlo : x.1 = r
      · rw [if_pos hlo, List.find?_cons_of_pos (by simpa using hlo)]
      · rw [if_neg hlo, List.find?_eq_none]
        intro y hy
        rcases List.mem_cons.1 hy with rfl | hy
        · simpa using hlo
        · have := ha y hy
          simp; omega
    · have h1 : ahead3 (x :: l) r = ahead3 l r + 1 := by
        unfold ahead3
        rw [List.countP_cons_of_pos (by simpa using hx)]
      rw [List.find?_cons_of_neg (by simp; omega), find3_at l r ht]
      by_cases hl : ahead3 l r < l.length
      · have hl' : ahead3 (x :: l) r < (x :: l).length := by rw [h1]; simpa using hl
        have he : (x :: l)[ahead3 (x :: l) r] = l[ahead3 l r] := by simp [h1]
        rw [dif_pos hl, dif_pos hl', he]
      · rw [dif_neg hl, dif_neg (by rw [h1]; simpa using hl)]
theorem mono_whole {d : List Tri} {r : Int} (hd : rising3 d = true) {a b : Nat} (hab : a ≤ b) (hb : b < d.length) (h : decide (r ≤ (d[a]?.getD z3).1) = true) : decide (r ≤ (d[b]?.getD z3).1) = true := by
  induction d generalizing a b with
  | nil => simp at hb
  | cons x l ih =>
    have ht := rising3_tail hd
    rcases b with _ | b
    · obtain rfl : a = 0 := by omega
      exact h
    · rcases a with _ | a
      · have hb' : b < l.length := by simpa using hb
        have := rising3_all hd (l[b]) (List.getElem_mem hb')
        simp only [List.getElem?_cons_zero, Option.getD_some, decide_eq_true_eq, List.getElem?_cons_succ, List.getElem?_eq_getElem hb'] at h ⊢
        omega
      · simp only [List.getElem?_cons_succ] at h ⊢
        exact ih ht (by omega) (by simpa using hb) h
theorem countP_ahead3 (d : List Tri) (r : Int) : (List.range d.length).countP (fun i => !decide (r ≤ (d[i]?.getD z3).1)) = ahead3 d r := by
  have : (List.range d.length).map (fun i => d[i]?.getD z3) = d := by
    apply List.ext_getElem
    · simp
    · intro i h1 h2
      simp [List.getElem?_eq_getElem h2]
  unfold ahead3
  conv => rhs; rw [← this, List.countP_map]
  rfl
theorem flat3_len (l : List Tri) : (flat3 l).length = l.length * 3 := by
  induction l with
  | nil => rfl
  | cons s l ih => simp only [flat3, List.flatMap_cons, List.length_append, List.length_cons] at ih ⊢; rw [ih]; simp [cells3]; omega
theorem flat3_get (l : List Tri) : ∀ j i, j < l.length → i < 3 → (flat3 l)[j * 3 + i]? = (cells3 (l[j]?.getD z3))[i]? := by
  induction l with
  | nil => intro j i hj; simp at hj
  | cons s l ih =>
    intro j i hj hi
    have e : flat3 (s :: l) = cells3 s ++ flat3 l := rfl
    have hl8 : (cells3 s).length = 3 := rfl
    rcases j with _ | j
    · rw [e, List.getElem?_append_left (by omega)]
      simp
    · have h := ih j i (by simpa using hj) hi
      rw [e, List.getElem?_append_right (by omega), hl8, show (j + 1) * 3 + i - 3 = j * 3 + i by omega, h]
      simp
theorem rising_prs : rising3 prs = true := by decide
/-- What a code point is taken apart into. -/
def dcp (r : Int) : List Int := if sgl r ≠ 0 then [sgl r] else match prs.find? (fun x => x.1 == r) with
  | some p => [p.2.1, p.2.2]
  | none => []

set_option maxRecDepth 100000 in
set_option maxHeartbeats 1600000 in
theorem decompc_any (br ba i : Nat) (y r : Int) (W : World) (hi : i < 80)
    (hr : W.cell? ⟨br, 0, none⟩ = some (.int .i32 r)) (hc : W.cell? ⟨ba, i * 3, none⟩ = some (.int .i32 y)) :
    Calls Tryz.prog 180 (#[.int .i64 i] ++ #[.pointer (some ⟨br, 0, none⟩), .pointer (some ⟨ba, 0, none⟩)]) W fun e w' => e = .returned (.bool (decide (r ≤ y))) ∧ ∃ q, w' = W.drewN q := by
  have hiz : (i : Int) < 80 := by omega
  go_enter Tryz.func180, Tryz.ntmps180
  go_wp2
  go_region
  all_goals go_wp2
  all_goals go_ret
  all_goals exact ⟨by first | rfl | simp, 1, rfl⟩

set_option maxRecDepth 100000 in
set_option maxHeartbeats 1600000 in
theorem decomp_any (r : Int) (w : World) : Calls Tryz.prog 162 #[.int .i32 r] w fun e W' => Ans (dcp r) w e W' := by
  obtain ⟨L, hL⟩ : ∃ L, L = dcp r := ⟨_, rfl⟩
  have HL := hid' hL
  rw [← hL]
  clear hL
  obtain ⟨S, hS⟩ : ∃ S, S = sgl r := ⟨_, rfl⟩
  have HS := hid' hS
  clear hS
  have hBx : Below w.heap.size w (w.alloc (.cells #[.int .i32 r] 21)) := (Below.refl _ w).alloc (Nat.le_refl _) _
  by_cases hs0 : S = 0
  · have HL2 : Hid (L = match prs.find? (fun x => x.1 == r) with | some p => [p.2.1, p.2.2] | none => []) := by show _ = _; rw [HL.out]; unfold dcp; rw [← HS.out, if_neg (by simpa using hs0)]
    subst hs0
    clear HL
    obtain ⟨z, hz, hzs⟩ : ∃ z : Array Value, (∀ w, (zeroValue 166).run Tryz.prog w = .ok (.agg z) w) ∧ z.size = 240 := by
      refine ⟨(flat3 (List.replicate 80 (0, 0, 0))).toArray, ?_, ?_⟩
      · exact (zero_of_info (P := Tryz.prog) (t := 166) (n := 240) (by kernel_rfl)).1
      · kernel_rfl
    obtain ⟨c, hc⟩ : ∃ c : Array Value, c = (flat3 prs).toArray := ⟨_, rfl⟩
    have HC := hid' hc
    have HCI : Hid ((Tryz.prog.info? 166).map (·.size) = some c.size) := by show _ = _; rw [hc]; kernel_rfl
    have HCS : Hid (z.size = c.size) := by show _ = _; rw [hzs, hc]; kernel_rfl
    have HCO : Hid (c.all (·.oneCell') = true) := by show _ = _; rw [hc]; kernel_rfl
    have hcall := prs_any
    rw [← hc] at hcall
    have HCALL := hid' hcall
    clear hc hzs hcall
    have HBX := hid' hBx
    clear hBx
    go_enter Tryz.func162, Tryz.ntmps162
    go_wp2_with fail
    refine (single_any r _).mono ?_
    rw [← HS.out]
    rintro e w0 ⟨rfl, hw0⟩
    have hc0 : w0.cell? ⟨w.heap.size, 0, none⟩ = some (.int .i32 r) := by rw [hw0]; exact cell_new_sl w _ _
    have hB0 : Below w.heap.size w w0 := by rw [hw0]; exact HBX.out
    have hs0 : w0.heap.size = w.heap.size + 1 := by rw [hw0]; simp
    clear hw0 HBX
    go_wp2_with fail
    refine (HCALL.out _).mono ?_
    rintro e w1 ⟨rfl, hB1⟩
    have hc1 : w1.cell? ⟨w.heap.size, 0, none⟩ = some (.int .i32 r) := (hB1.cell (p := ⟨w.heap.size, 0, none⟩) (by show w.heap.size < _; omega)).trans hc0
    have hBw1 : Below w.heap.size w w1 := hB0.trans (hB1.mono (by omega))
    have hs1 : w.heap.size + 1 ≤ w1.heap.size := by have := hB1.size; omega
    clear hB1 hB0 hc0 hs0
    go_wp2_with ((refine wpList_store_row rfl 166 (.tmp 4) (.tmp 12) rfl w1.heap.size c rfl rfl 166 z (by exact heap_alloc_last w1 _) (by exact HCI.out) (by exact HCS.out) (by exact HCO.out) (wpList_nil ?_); rw [World.setRow_alloc_new]))
    obtain ⟨W0, hW0⟩ : ∃ W0, W0 = w1.alloc (.cells c 166) := ⟨_, rfl⟩
    rw [← hW0]
    have hrow : W0.heap[w1.heap.size]? = some (.cells c 166) := by rw [hW0]; exact heap_alloc_last w1 _
    have hsize : W0.heap.size = w1.heap.size + 1 := by rw [hW0]; simp
    have cr : W0.cell? ⟨w.heap.size, 0, none⟩ = some (.int .i32 r) := by rw [hW0]; exact cell_alloc_sl _ hc1
    have cp : ∀ i j, i < 80 → j < 3 → W0.cell? ⟨w1.heap.size, i * 3 + j, none⟩ = (cells3 (prs[i]?.getD z3))[j]? := by
      intro i j hi hj
      rw [cell_of_row _ _ _ _ 166 (0, 0) hrow, HC.out, ← flat3_get prs i j hi hj]
      simp
    have hBw0 : Below w.heap.size w W0 := by rw [hW0]; exact hBw1.alloc hBw1.size _
    have eg : ∀ args w, (callFunc 180 args).run Tryz.prog w = .ok (.enter 180 args) w := enters_of Tryz.func180 (by kernel_rfl) rfl
    have hS := Any.sort_Search Tryz.search 180 #[.pointer (some ⟨w.heap.size, 0, none⟩), .pointer (some ⟨w1.heap.size, 0, none⟩)] prs.length (fun i => decide (r ≤ (prs[i]?.getD z3).1)) W0 eg (by decide)
      (fun m os i hi => (decompc_any w.heap.size w1.heap.size i _ r _ hi (cell_grown (by simp [hsize]; omega) cr m os) (cell_grown (by simp [hsize]) (cp i 0 hi (by omega)) m os)).mono
        fun _ _ ⟨he, q, hq⟩ => ⟨he, q, #[], by rw [hq, grow_empty]⟩) (fun a b hab hb h => mono_whole rising_prs hab hb h)
    rw [countP_ahead3] at hS
    have hS' : Calls Tryz.prog 155 #[.int .i64 80, .func (.func 180) #[] #[.pointer (some ⟨w.heap.size, 0, none⟩), .pointer (some ⟨w1.heap.size, 0, none⟩)]] W0 fun e w' => e = .returned (.int .i64 (ahead3 prs r : Nat)) ∧ ∃ q os, w' = grow (W0.drewN q) os := hS
    have hfa := find3_at prs r rising_prs
    obtain ⟨A, hA⟩ : ∃ A, A = ahead3 prs r := ⟨_, rfl⟩
    have hA1 : A ≤ 80 := by rw [hA]; exact ahead3_le prs r
    rw [← hA] at hS'
    have HA := hid' hA
    refine hS'.mono ?_
    rintro e w2 ⟨rfl, q, os, hw2⟩
    have hB2 : Below W0.heap.size W0 w2 := by rw [hw2]; exact below_grown_sl _ W0 q os (Nat.le_refl _)
    have hBw2 : Below w.heap.size w w2 := hBw0.trans (hB2.mono (by omega))
    have cr2 : w2.cell? ⟨w.heap.size, 0, none⟩ = some (.int .i32 r) := (hB2.cell (p := ⟨w.heap.size, 0, none⟩) (by show w.heap.size < _; omega)).trans cr
    have cp2 : ∀ i j, i < 80 → j < 3 → w2.cell? ⟨w1.heap.size, i * 3 + j, none⟩ = (cells3 (prs[i]?.getD z3))[j]? := fun i j hi hj => (hB2.cell (p := ⟨w1.heap.size, i * 3 + j, none⟩) (by show w1.heap.size < _; omega)).trans (cp i j hi hj)
    have HBW := hid' hBw2
    have HFA := hid' hfa
    have HCP := hid' cp2
    clear hS hS' hw2 hB2 hBw2 cr cp eg hrow hBw0 hW0 hfa cp2 hA hc1 hBw1
    by_cases hlt : A < 80
    · have hlt' : (A : Int) < 80 := by omega
      have hne : ((A : Int) == 80) = false := by simp; omega
      obtain ⟨x, hx⟩ : ∃ x, x = prs[A]?.getD z3 := ⟨_, rfl⟩
      have hcells := fun j hj => HCP.out A j hlt hj
      rw [← hx] at hcells
      have HP2 : Hid (prs.find? (fun x => x.1 == r) = if x.1 = r then some x else none) := by
        have := HFA.out
        have e : ahead3 prs r = A := HA.out.symm
        simp only [e] at this
        rw [dif_pos (show A < prs.length from hlt)] at this
        have e2 : prs[A]'(show A < prs.length from hlt) = x := by rw [hx, List.getElem?_eq_getElem (show A < prs.length from hlt)]; rfl
        rw [e2] at this
        exact this
      obtain ⟨x0, x1, x2⟩ := x
      have c0 : w2.cell? ⟨w1.heap.size, A * 3, none⟩ = some (.int .i32 x0) := hcells 0 (by omega)
      have c1 : w2.cell? ⟨w1.heap.size, A * 3 + 1, none⟩ = some (.int .i32 x1) := hcells 1 (by omega)
      have c2 : w2.cell? ⟨w1.heap.size, A * 3 + 2, none⟩ = some (.int .i32 x2) := hcells 2 (by omega)
      clear hcells hx HCP HFA
      by_cases he : x0 = r
      · subst he
        have HG : Hid (L = [x1, x2]) := by show _ = _; rw [HL2.out, HP2.out, if_pos rfl]
        clear HP2 HL2
        go_wp2_with fail
        go_quiet (fail)
        go_wp2
        go_region
        all_goals go_wp2
        all_goals go_ret
        exact Ans.two (W := w2.drewN (nq + 1)) HG.out (below_drewN HBW.out _)
      · have hneb : (r != x0) = true := by simp; omega
        have hneb2 : (r == x0) = false := by simp; omega
        have HG : Hid (L = []) := by show _ = _; rw [HL2.out, HP2.out, if_neg he]
        clear HP2 HL2
        go_wp2_with fail
        go_quiet (fail)
        go_wp2
        go_ret
        exact Ans.nil HG.out (below_drewN HBW.out _)
    · have hne : ((A : Int) == 80) = true := by simp; omega
      have HG : Hid (L = []) := by
        show _ = _
        have := HFA.out
        have e : ahead3 prs r = A := HA.out.symm
        simp only [e] at this
        rw [dif_neg (show ¬ A < prs.length from hlt)] at this
        rw [HL2.out, this]
      clear HCP HFA HL2
      go_wp2_with fail
      go_quiet (fail)
      go_wp2
      go_ret
      exact Ans.nil HG.out (below_drewN HBW.out _)
  · have HL2 : Hid (L = [S]) := by show _ = _; rw [HL.out]; unfold dcp; rw [← HS.out, if_pos hs0]
    have hdb : (S != 0) = true := by simpa using hs0
    have hdb2 : (S == 0) = false := by simpa using hs0
    clear HL
    go_enter Tryz.func162, Tryz.ntmps162
    go_wp2_with fail
    refine (single_any r _).mono ?_
    rw [← HS.out]
    rintro e w1 ⟨rfl, rfl⟩
    go_wp2
    go_ret
    have := Ans.one (w := w) (W := w.alloc (.cells #[.int .i32 r] 21)) HL2.out hBx
    rw [World.size_alloc] at this
    exact this

/-- The first pair with these two. -/
def prf (d : List Tri) (a b : Int) : Int × Bool := match d.find? (fun x => x.2.1 == a && x.2.2 == b) with
  | some p => (p.1, true)
  | none => (0, false)
theorem prf_hit {d : List Tri} {k : Nat} {a b : Int} (hk : k < d.length) (h : (d[k]?.getD z3).2.1 = a ∧ (d[k]?.getD z3).2.2 = b) : prf (d.drop k) a b = ((d[k]?.getD z3).1, true) := by
  rw [List.drop_eq_getElem_cons hk]
  rw [List.getElem?_eq_getElem hk] at h ⊢
  simp only [Option.getD_some] at h ⊢
  unfold prf
  rw [List.find?_cons_of_pos (by simp [h.1, h.2])]
theorem prf_miss {d : List Tri} {k : Nat} {a b : Int} (hk : k < d.length) (h : ¬ ((d[k]?.getD z3).2.1 = a ∧ (d[k]?.getD z3).2.2 = b)) : prf (d.drop k) a b = prf (d.drop (k + 1)) a b := by
  rw [List.drop_eq_getElem_cons hk]
  rw [List.getElem?_eq_getElem hk] at h
  simp only [Option.getD_some] at h
  unfold prf
  rw [List.find?_cons_of_neg (by simpa using h)]
theorem prf_end {d : List Tri} {k : Nat} {a b : Int} (hk : d.length ≤ k) : prf (d.drop k) a b = (0, false) := by
  rw [List.drop_of_length_le hk]; rfl

theorem flat3_cut (l : List Tri) (j : Nat) (hj : j < l.length) : (flat3 l).toArray.extract (j * 3) (j * 3 + 3) = (cells3 (l[j]?.getD z3)).toArray := by
  apply Array.ext_getElem?
  intro i
  by_cases hi : i < 3
  · have := flat3_get l j i hj hi
    rw [Array.getElem?_extract, if_pos (by simp [flat3_len]; omega)]
    simpa using this
  · rw [Array.getElem?_eq_none (by simp; omega), Array.getElem?_eq_none (by simp [cells3]; omega)]
theorem index40 (j : Nat) (hj : j < 80) (W : World) : (Instr.index 166 (.agg (flat3 prs).toArray) (.int .i64 (j : Int))).run Tryz.prog W = .ok (.agg (cells3 (prs[j]?.getD z3)).toArray) W := by
  rw [← flat3_cut prs j hj]
  generalize (flat3 prs).toArray = c
  simp [Instr.index, asIntOf, run_underlying Tryz.underlying166, part, Tryz.sizeOf165]
  intro h
  omega

set_option maxRecDepth 100000 in
set_option maxHeartbeats 1600000 in
theorem pair_any (a b : Int) (w : World) : Calls Tryz.prog 118 #[.int .i32 a, .int .i32 b] w fun e W' => e = .returned (.tuple #[.int .i32 (prf prs a b).1, .bool (prf prs a b).2]) ∧ Below w.heap.size w W' := by
  obtain ⟨⟨R1, R2⟩, hR⟩ : ∃ R, R = prf prs a b := ⟨_, rfl⟩
  have HR0 : Hid (prf (prs.drop 0) a b = (R1, R2)) := hR.symm
  rw [← hR]
  clear hR
  dsimp only
  obtain ⟨c, hc⟩ : ∃ c : Array Value, c = (flat3 prs).toArray := ⟨_, rfl⟩
  have hix := index40
  have hcall := prs_any
  rw [← hc] at hcall hix
  have HCALL := hid' hcall
  have HIX := hid' hix
  clear hc hcall hix
  have HI : Hid ((Tryz.prog.info? 165).map (·.size) = some 3) := by show _ = _; kernel_rfl
  go_enter Tryz.func118, Tryz.ntmps118
  go_wp2_with fail
  refine (HCALL.out _).mono ?_
  rintro e w1 ⟨rfl, hB1⟩
  go_wp2_with fail
  go_loopw [9] (fun i wr => ∃ k : Nat, k ≤ 80 ∧ i = .int .i64 k ∧ Below w.heap.size w wr ∧ Hid (prf (prs.drop k) a b = (R1, R2))) (fun i _ => 80 - (intOf i).toNat)
  case atStart => exact ⟨0, by omega, rfl, hB1, HR0⟩
  case round =>
    obtain ⟨k, hk, rfl, hB, HR⟩ := hrel
    clear HR0 hB1
    by_cases hlt : k < 80
    · have hlt' : (k : Int) < 80 := by omega
      have hix := HIX.out k hlt
      obtain ⟨⟨x0, x1, x2⟩, hx⟩ : ∃ x, x = prs[k]?.getD z3 := ⟨_, rfl⟩
      rw [← hx] at hix
      have hhit := @prf_hit prs k a b (show k < prs.length from hlt)
      have hmiss := @prf_miss prs k a b (show k < prs.length from hlt)
      rw [← hx] at hhit hmiss
      dsimp only at hhit hmiss
      have HH := hid' hhit
      have HM := hid' hmiss
      clear hx hhit hmiss
      simp only [cells3] at hix
      by_cases h1 : x1 = a
      · have h1b : (x1 == a) = true := by simpa using h1
        by_cases h2 : x2 = b
        · have h2b : (x2 == b) = true := by simpa using h2
          have HE : Hid (R1 = x0 ∧ R2 = true) := by
            have := HR.out
            rw [HH.out ⟨h1, h2⟩] at this
            cases this; exact ⟨rfl, rfl⟩
          clear HR HH HM h1 h2
          go_wp2
          go_ret2
          exact ⟨by rw [HE.out.1, HE.out.2]; rfl, hB.alloc hB.size _⟩
        · have h2b : (x2 == b) = false := by simpa using h2
          have HE : Hid (prf (prs.drop (k + 1)) a b = (R1, R2)) := by show _ = _; rw [← HM.out (fun h => h2 h.2)]; exact HR.out
          clear HR HH HM h1 h2
          go_wp2
          go_roundw
          case rel => exact ⟨k + 1, by omega, by go_num, hB.alloc hB.size _, HE⟩
          case measure => simp [intOf]; omega
      · have h1b : (x1 == a) = false := by simpa using h1
        have HE : Hid (prf (prs.drop (k + 1)) a b = (R1, R2)) := by show _ = _; rw [← HM.out (fun h => h1 h.1)]; exact HR.out
        clear HR HH HM h1
        go_wp2
        go_roundw
        case rel => exact ⟨k + 1, by omega, by go_num, hB.alloc hB.size _, HE⟩
        case measure => simp [intOf]; omega
    · have hlt' : ¬ (k : Int) < 80 := by omega
      have HE : Hid (R1 = 0 ∧ R2 = false) := by
        have := HR.out
        rw [prf_end (show prs.length ≤ k by show 80 ≤ k; omega)] at this
        cases this; exact ⟨rfl, rfl⟩
      clear HR
      go_wp2
      go_ret2
      exact ⟨by rw [HE.out.1, HE.out.2]; rfl, hB⟩
end Go.Proofs.YtdncaehajhmcoaaGreat.D
/- The document's tables: rows0 to rows2, pairs0, pairs1, Rows, Pairs. -/
namespace Go.Proofs.YtdncaehajhmcoaaGreat.D
open Go.RowKit Go.Lib Go.Sort Go.Shelf
set_option linter.unusedVariables false

theorem wpList_builds_g {α : Type} {P : Program} {ops : Array Oper} {Q : Exit → Act → World → Prop} {a : Act} {w : World} {l : List Oper} (n : Nat) (g : Act → α) (v : α)
    (hb : (runBuilds P (l.take n) a).map g = some v)
    (h : ∀ a', g a' = v → wpList P ops Q (l.drop n) a' w) : wpList P ops Q l a w := by
  cases hr : runBuilds P (l.take n) a with
  | none => rw [hr] at hb; cases hb
  | some a' =>
    rw [hr] at hb
    simp only [Option.map_some, Option.some.injEq] at hb
    have := wpList_builds (P := P) (ops := ops) (Q := Q) (w := w) (rest := l.drop n) (l.take n) a a' hr (h a' hb)
    rwa [List.take_append_drop] at this
theorem wpList_buildSlice {P : Program} {ops : Array Oper} {Q : Exit → Act → World → Prop} {a : Act} {w : World} {rest : List Oper} {o : Oper} (hg : o.guard = none) (t : TypeId) (len : Nat) (parts : Array (Nat × Operand)) (ho : o.op = .buildSlice t len parts)
    (e : TypeId) (hu : P.underlying t = some (.slice e)) (size : Nat) (hs : ∀ w, (sizeOf e).run P w = .ok size w) (z : Array Value) (hz : ∀ w, (zeroValue e).run P w = .ok (.agg z) w)
    (hn : len * size ≤ 16777216) (h0 : ¬ len * size = 0) (cells : Array Value)
    (hf : Instr.fill (fun i => some (i * size, size)) ((Array.range (len * size)).map (z[· % z.size]!)) (parts.map fun (i, x) => (i, a.eval x)).toList = some cells)
    (h : wpList P ops Q rest (a.put o.dst (.slice (some ⟨w.heap.size, 0, none⟩) len len)) (w.alloc (.cells cells e))) : wpList P ops Q (o :: rest) a w := by
  refine wpList_plain hg fun K hK => ?_
  unfold Oper.wp execOp
  have hr : (Instr.buildSlice t len (parts.map fun (i, x) => (i, a.eval x))).run P w = .ok (.slice (some ⟨w.heap.size, 0, none⟩) len len) (w.alloc (.cells cells e)) := by
    have hn' : ¬ len * size > 2 ^ 24 := by omega
    simp only [Instr.buildSlice, Sem.run_bind, run_underlying hu, hs, Result.andThen_ok, if_neg hn', if_neg h0, hz, Value.cells]
    simp only [Sem.run_pure, Result.andThen_ok, hf]
    simp [newRow]
  simp only [ho, Sem.run_bind, hr, Result.andThen_ok]
  exact hK _ _ h

set_option maxRecDepth 100000 in
set_option maxHeartbeats 1600000 in
theorem rows0_any (w : World) :
    Calls Tryz.prog 102 #[] w fun e W' => e = .returned (.slice (some ⟨w.heap.size, 0, none⟩) 30 30) ∧ W' = w.alloc (.cells (flat11 rows0).toArray 62) := by
  go_enter Tryz.func102, Tryz.ntmps102
  refine wp_seq (wp_region_lit ?_)
  refine wpList_plain rfl fun K hK => ?_
  refine hK _ _ (wpList_nil ?_)
  refine wp_seq (wp_region_lit ?_)
  refine wpList_builds_g 30 (fun a' => (Instr.fill (fun i => some (i * 11, 11)) ((Array.range (30 * 11)).map ((#[.int .i32 0, .int .i32 0, .int .u8 0, .int .i32 0, .int .i32 0, .int .i32 0, .int .u8 0, .int .u8 0, .int .u8 0, .bool false, .int .u8 0] : Array Value)[· % (#[.int .i32 0, .int .i32 0, .int .u8 0, .int .i32 0, .int .i32 0, .int .i32 0, .int .u8 0, .int .u8 0, .int .u8 0, .bool false, .int .u8 0] : Array Value).size]!)) ((#[(0, .tmp 1), (1, .tmp 2), (2, .tmp 3), (3, .tmp 4), (4, .tmp 5), (5, .tmp 6), (6, .tmp 7), (7, .tmp 8), (8, .tmp 9), (9, .tmp 10), (10, .tmp 11), (11, .tmp 12), (12, .tmp 13), (13, .tmp 14), (14, .tmp 15), (15, .tmp 16), (16, .tmp 17), (17, .tmp 18), (18, .tmp 19), (19, .tmp 20), (20, .tmp 21), (21, .tmp 22), (22, .tmp 23), (23, .tmp 24), (24, .tmp 25), (25, .tmp 26), (26, .tmp 27), (27, .tmp 28), (28, .tmp 29), (29, .tmp 30)] : Array (Nat × Operand)).map fun (i, x) => (i, a'.eval x)).toList, a'.tmps.size, a'.defers)) (some (flat11 rows0).toArray, 32, []) (by kernel_rfl) ?_
  intro a' ha
  simp only [Prod.mk.injEq] at ha
  obtain ⟨hf, hsz, hd⟩ := ha
  refine wpList_buildSlice rfl 90 30 _ rfl 62 Tryz.underlying90 11 Tryz.sizeOf62 _ Tryz.zeroValue62 (by omega) (by omega) (flat11 rows0).toArray hf ?_
  refine wpList_plain rfl fun K hK => ?_
  refine hK _ _ (wpList_nil ?_)
  refine wp_ret ?_
  refine bodyPost_ret (v := .slice (some ⟨w.heap.size, 0, none⟩) 30 30) ?_ hd ⟨rfl, rfl⟩
  simp [results, Tryz.results102, Act.put, Act.eval, hsz]

set_option maxRecDepth 100000 in
set_option maxHeartbeats 1600000 in
theorem rows1_any (w : World) :
    Calls Tryz.prog 103 #[] w fun e W' => e = .returned (.slice (some ⟨w.heap.size, 0, none⟩) 30 30) ∧ W' = w.alloc (.cells (flat11 rows1).toArray 62) := by
  go_enter Tryz.func103, Tryz.ntmps103
  refine wp_seq (wp_region_lit ?_)
  refine wpList_plain rfl fun K hK => ?_
  refine hK _ _ (wpList_nil ?_)
  refine wp_seq (wp_region_lit ?_)
  refine wpList_builds_g 30 (fun a' => (Instr.fill (fun i => some (i * 11, 11)) ((Array.range (30 * 11)).map ((#[.int .i32 0, .int .i32 0, .int .u8 0, .int .i32 0, .int .i32 0, .int .i32 0, .int .u8 0, .int .u8 0, .int .u8 0, .bool false, .int .u8 0] : Array Value)[· % (#[.int .i32 0, .int .i32 0, .int .u8 0, .int .i32 0, .int .i32 0, .int .i32 0, .int .u8 0, .int .u8 0, .int .u8 0, .bool false, .int .u8 0] : Array Value).size]!)) ((#[(0, .tmp 1), (1, .tmp 2), (2, .tmp 3), (3, .tmp 4), (4, .tmp 5), (5, .tmp 6), (6, .tmp 7), (7, .tmp 8), (8, .tmp 9), (9, .tmp 10), (10, .tmp 11), (11, .tmp 12), (12, .tmp 13), (13, .tmp 14), (14, .tmp 15), (15, .tmp 16), (16, .tmp 17), (17, .tmp 18), (18, .tmp 19), (19, .tmp 20), (20, .tmp 21), (21, .tmp 22), (22, .tmp 23), (23, .tmp 24), (24, .tmp 25), (25, .tmp 26), (26, .tmp 27), (27, .tmp 28), (28, .tmp 29), (29, .tmp 30)] : Array (Nat × Operand)).map fun (i, x) => (i, a'.eval x)).toList, a'.tmps.size, a'.defers)) (some (flat11 rows1).toArray, 32, []) (by kernel_rfl) ?_
  intro a' ha
  simp only [Prod.mk.injEq] at ha
  obtain ⟨hf, hsz, hd⟩ := ha
  refine wpList_buildSlice rfl 90 30 _ rfl 62 Tryz.underlying90 11 Tryz.sizeOf62 _ Tryz.zeroValue62 (by omega) (by omega) (flat11 rows1).toArray hf ?_
  refine wpList_plain rfl fun K hK => ?_
  refine hK _ _ (wpList_nil ?_)
  refine wp_ret ?_
  refine bodyPost_ret (v := .slice (some ⟨w.heap.size, 0, none⟩) 30 30) ?_ hd ⟨rfl, rfl⟩
  simp [results, Tryz.results103, Act.put, Act.eval, hsz]

set_option maxRecDepth 100000 in
set_option maxHeartbeats 1600000 in
theorem rows2_any (w : World) :
    Calls Tryz.prog 104 #[] w fun e W' => e = .returned (.slice (some ⟨w.heap.size, 0, none⟩) 28 28) ∧ W' = w.alloc (.cells (flat11 rows2).toArray 62) := by
  go_enter Tryz.func104, Tryz.ntmps104
  refine wp_seq (wp_region_lit ?_)
  refine wpList_plain rfl fun K hK => ?_
  refine hK _ _ (wpList_nil ?_)
  refine wp_seq (wp_region_lit ?_)
  refine wpList_builds_g 28 (fun a' => (Instr.fill (fun i => some (i * 11, 11)) ((Array.range (28 * 11)).map ((#[.int .i32 0, .int .i32 0, .int .u8 0, .int .i32 0, .int .i32 0, .int .i32 0, .int .u8 0, .int .u8 0, .int .u8 0, .bool false, .int .u8 0] : Array Value)[· % (#[.int .i32 0, .int .i32 0, .int .u8 0, .int .i32 0, .int .i32 0, .int .i32 0, .int .u8 0, .int .u8 0, .int .u8 0, .bool false, .int .u8 0] : Array Value).size]!)) ((#[(0, .tmp 1), (1, .tmp 2), (2, .tmp 3), (3, .tmp 4), (4, .tmp 5), (5, .tmp 6), (6, .tmp 7), (7, .tmp 8), (8, .tmp 9), (9, .tmp 10), (10, .tmp 11), (11, .tmp 12), (12, .tmp 13), (13, .tmp 14), (14, .tmp 15), (15, .tmp 16), (16, .tmp 17), (17, .tmp 18), (18, .tmp 19), (19, .tmp 20), (20, .tmp 21), (21, .tmp 22), (22, .tmp 23), (23, .tmp 24), (24, .tmp 25), (25, .tmp 26), (26, .tmp 27), (27, .tmp 28)] : Array (Nat × Operand)).map fun (i, x) => (i, a'.eval x)).toList, a'.tmps.size, a'.defers)) (some (flat11 rows2).toArray, 30, []) (by kernel_rfl) ?_
  intro a' ha
  simp only [Prod.mk.injEq] at ha
  obtain ⟨hf, hsz, hd⟩ := ha
  refine wpList_buildSlice rfl 90 28 _ rfl 62 Tryz.underlying90 11 Tryz.sizeOf62 _ Tryz.zeroValue62 (by omega) (by omega) (flat11 rows2).toArray hf ?_
  refine wpList_plain rfl fun K hK => ?_
  refine hK _ _ (wpList_nil ?_)
  refine wp_ret ?_
  refine bodyPost_ret (v := .slice (some ⟨w.heap.size, 0, none⟩) 28 28) ?_ hd ⟨rfl, rfl⟩
  simp [results, Tryz.results104, Act.put, Act.eval, hsz]

set_option maxRecDepth 100000 in
set_option maxHeartbeats 1600000 in
theorem pairs0_any (w : World) :
    Calls Tryz.prog 151 #[] w fun e W' => e = .returned (.slice (some ⟨w.heap.size, 0, none⟩) 40 40) ∧ W' = w.alloc (.cells (flat3 pairs0).toArray 125) := by
  go_enter Tryz.func151, Tryz.ntmps151
  refine wp_seq (wp_region_lit ?_)
  refine wpList_plain rfl fun K hK => ?_
  refine hK _ _ (wpList_nil ?_)
  refine wp_seq (wp_region_lit ?_)
  refine wpList_builds_g 40 (fun a' => (Instr.fill (fun i => some (i * 3, 3)) ((Array.range (40 * 3)).map ((#[.int .i32 0, .int .i32 0, .int .i32 0] : Array Value)[· % (#[.int .i32 0, .int .i32 0, .int .i32 0] : Array Value).size]!)) ((#[(0, .tmp 1), (1, .tmp 2), (2, .tmp 3), (3, .tmp 4), (4, .tmp 5), (5, .tmp 6), (6, .tmp 7), (7, .tmp 8), (8, .tmp 9), (9, .tmp 10), (10, .tmp 11), (11, .tmp 12), (12, .tmp 13), (13, .tmp 14), (14, .tmp 15), (15, .tmp 16), (16, .tmp 17), (17, .tmp 18), (18, .tmp 19), (19, .tmp 20), (20, .tmp 21), (21, .tmp 22), (22, .tmp 23), (23, .tmp 24), (24, .tmp 25), (25, .tmp 26), (26, .tmp 27), (27, .tmp 28), (28, .tmp 29), (29, .tmp 30), (30, .tmp 31), (31, .tmp 32), (32, .tmp 33), (33, .tmp 34), (34, .tmp 35), (35, .tmp 36), (36, .tmp 37), (37, .tmp 38), (38, .tmp 39), (39, .tmp 40)] : Array (Nat × Operand)).map fun (i, x) => (i, a'.eval x)).toList, a'.tmps.size, a'.defers)) (some (flat3 pairs0).toArray, 42, []) (by kernel_rfl) ?_
  intro a' ha
  simp only [Prod.mk.injEq] at ha
  obtain ⟨hf, hsz, hd⟩ := ha
  refine wpList_buildSlice rfl 123 40 _ rfl 125 Tryz.underlying123 3 Tryz.sizeOf125 _ Tryz.zeroValue125 (by omega) (by omega) (flat3 pairs0).toArray hf ?_
  refine wpList_plain rfl fun K hK => ?_
  refine hK _ _ (wpList_nil ?_)
  refine wp_ret ?_
  refine bodyPost_ret (v := .slice (some ⟨w.heap.size, 0, none⟩) 40 40) ?_ hd ⟨rfl, rfl⟩
  simp [results, Tryz.results151, Act.put, Act.eval, hsz]

set_option maxRecDepth 100000 in
set_option maxHeartbeats 1600000 in
theorem pairs1_any (w : World) :
    Calls Tryz.prog 152 #[] w fun e W' => e = .returned (.slice (some ⟨w.heap.size, 0, none⟩) 40 40) ∧ W' = w.alloc (.cells (flat3 pairs1).toArray 125) := by
  go_enter Tryz.func152, Tryz.ntmps152
  refine wp_seq (wp_region_lit ?_)
  refine wpList_plain rfl fun K hK => ?_
  refine hK _ _ (wpList_nil ?_)
  refine wp_seq (wp_region_lit ?_)
  refine wpList_builds_g 40 (fun a' => (Instr.fill (fun i => some (i * 3, 3)) ((Array.range (40 * 3)).map ((#[.int .i32 0, .int .i32 0, .int .i32 0] : Array Value)[· % (#[.int .i32 0, .int .i32 0, .int .i32 0] : Array Value).size]!)) ((#[(0, .tmp 1), (1, .tmp 2), (2, .tmp 3), (3, .tmp 4), (4, .tmp 5), (5, .tmp 6), (6, .tmp 7), (7, .tmp 8), (8, .tmp 9), (9, .tmp 10), (10, .tmp 11), (11, .tmp 12), (12, .tmp 13), (13, .tmp 14), (14, .tmp 15), (15, .tmp 16), (16, .tmp 17), (17, .tmp 18), (18, .tmp 19), (19, .tmp 20), (20, .tmp 21), (21, .tmp 22), (22, .tmp 23), (23, .tmp 24), (24, .tmp 25), (25, .tmp 26), (26, .tmp 27), (27, .tmp 28), (28, .tmp 29), (29, .tmp 30), (30, .tmp 31), (31, .tmp 32), (32, .tmp 33), (33, .tmp 34), (34, .tmp 35), (35, .tmp 36), (36, .tmp 37), (37, .tmp 38), (38, .tmp 39), (39, .tmp 40)] : Array (Nat × Operand)).map fun (i, x) => (i, a'.eval x)).toList, a'.tmps.size, a'.defers)) (some (flat3 pairs1).toArray, 42, []) (by kernel_rfl) ?_
  intro a' ha
  simp only [Prod.mk.injEq] at ha
  obtain ⟨hf, hsz, hd⟩ := ha
  refine wpList_buildSlice rfl 123 40 _ rfl 125 Tryz.underlying123 3 Tryz.sizeOf125 _ Tryz.zeroValue125 (by omega) (by omega) (flat3 pairs1).toArray hf ?_
  refine wpList_plain rfl fun K hK => ?_
  refine hK _ _ (wpList_nil ?_)
  refine wp_ret ?_
  refine bodyPost_ret (v := .slice (some ⟨w.heap.size, 0, none⟩) 40 40) ?_ hd ⟨rfl, rfl⟩
  simp [results, Tryz.results152, Act.put, Act.eval, hsz]
end Go.Proofs.YtdncaehajhmcoaaGreat.D
