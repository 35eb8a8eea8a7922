/- Texts of one layer, one behind the other: DD DK DG. -/
import Derived.Test.YtpkegjbmnilmdaaDoorZD2
/- What is told by a switch: distance, instead, single, Like, and the document's Like. -/
namespace Go.Proofs.YtpkegjbmnilmdaaDoor.D
open Go.RowKit Go.Lib Go.Sort Go.Shelf
set_option linter.unusedVariables false

/-- The slice value v leads to the numbers zs, all that its block holds. -/
def IntsAt (w : World) (v : Value) (zs : List Int) : Prop :=
  ∃ a cap, v = .slice a zs.length cap ∧ ((a = none → cap = 0) ∧ zs.length ≤ cap) ∧ (0 < zs.length → ∃ b, a = some ⟨b, 0, none⟩ ∧ w.heap[b]? = some (.cells (zs.map (Value.int .i32)).toArray 21 (0, 0)))
theorem IntsAt.below {A B : World} {n : Nat} (h : Below n A B) (hn : A.heap.size ≤ n) {v : Value} {l : List Int} : IntsAt A v l → IntsAt B v l
  | ⟨a, cap, e, hc, f⟩ => ⟨a, cap, e, hc, fun hp => by
      obtain ⟨b, e2, g⟩ := f hp
      exact ⟨b, e2, (h.block b (Nat.lt_of_lt_of_le (Array.getElem?_eq_some_iff.1 g).1 hn)).trans g⟩⟩
theorem IntsAt.nil (w : World) : IntsAt w (.slice none 0 0) [] := ⟨none, 0, rfl, ⟨fun _ => rfl, Nat.le_refl _⟩, fun h => by simp at h⟩
theorem IntsAt.new1 (w : World) (a : Int) : IntsAt (w.alloc (.cells #[.int .i32 a] 21)) (.slice (some ⟨w.heap.size, 0, none⟩) 1 1) [a] :=
  ⟨_, 1, rfl, ⟨(fun h => by cases h), Nat.le_refl _⟩, fun _ => ⟨w.heap.size, rfl, heap_alloc_last w _⟩⟩
theorem IntsAt.new2 (w : World) (a b : Int) : IntsAt (w.alloc (.cells #[.int .i32 a, .int .i32 b] 21)) (.slice (some ⟨w.heap.size, 0, none⟩) 2 2) [a, b] :=
  ⟨_, 2, rfl, ⟨(fun h => by cases h), Nat.le_refl _⟩, fun _ => ⟨w.heap.size, rfl, heap_alloc_last w _⟩⟩
/-- It answers these numbers, as a slice. -/
def Ans (l : List Int) (w : World) (e : Ending) (W' : World) : Prop := (∃ v, e = .returned v ∧ IntsAt W' v l) ∧ Below w.heap.size w W'
theorem Ans.nil {l : List Int} {w W' : World} (h : l = []) (hb : Below w.heap.size w W') : Ans l w (.returned (.slice none 0 0)) W' := by
  subst h; exact ⟨⟨_, rfl, IntsAt.nil _⟩, hb⟩
theorem Ans.one {l : List Int} {w W : World} {a : Int} (h : l = [a]) (hb : Below w.heap.size w W) : Ans l w (.returned (.slice (some ⟨W.heap.size, 0, none⟩) 1 1)) (W.alloc (.cells #[.int .i32 a] 21)) := by
  subst h; exact ⟨⟨_, rfl, IntsAt.new1 _ _⟩, hb.alloc hb.size _⟩
theorem Ans.two {l : List Int} {w W : World} {a b : Int} (h : l = [a, b]) (hb : Below w.heap.size w W) : Ans l w (.returned (.slice (some ⟨W.heap.size, 0, none⟩) 2 2)) (W.alloc (.cells #[.int .i32 a, .int .i32 b] 21)) := by
  subst h; exact ⟨⟨_, rfl, IntsAt.new2 _ _ _⟩, hb.alloc hb.size _⟩

/-- What looks like something else. -/
def likeT : List (Int × List Int) := [(48, [111]), (49, [108]), (109, [114, 110]), (945, [97]), (957, [118]), (959, [111]), (961, [112]), (1072, [97]), (1077, [101]), (1086, [111]), (1088, [112]), (1089, [99]), (1091, [121]), (1093, [120]), (1109, [115]), (1110, [105]), (1112, [106]), (1505, [111]), (1575, [108]), (12540, [19968])]
def lk (r : Int) : List Int := (likeT.lookup r).getD [r]

/-- How much is added. -/
def distT : List (Int × Int) := [(65, 32), (192, 32), (216, 32), (913, 32), (931, 32), (1040, 32), (178, -128), (904, 37), (910, 63), (1029, 80), (65296, -65248), (65345, -65248), (65313, -65216), (66560, 40)]
def dist (r : Int) : Int := (distT.lookup r).getD 0
/-- What one is mapped to alone. -/
def instT : List (Int × List Int) := [(170, [97]), (185, [49]), (186, [111]), (376, [255]), (469, [470]), (902, [940]), (908, [972]), (1025, [1105]), (1032, [1112]), (7776, [7777]), (7778, [7779]), (7784, [7785]), (7838, [115, 115]), (8486, [969]), (8490, [107]), (8491, [229]), (12290, [46]), (65294, [46]), (65377, [46]), (64257, [102, 105]), (65285, [37]), (65293, [45]), (65295, [47])]
def inst (r : Int) : List Int := (instT.lookup r).getD []
def sgl (r : Int) : Int := (([(8486, 937), (8490, 75), (8491, 197)] : List (Int × Int)).lookup r).getD 0

set_option maxRecDepth 100000 in
set_option maxHeartbeats 1600000 in
theorem single_any (r : Int) (w : World) : Calls Tryd.prog 89 #[.int .i32 r] w fun e W' => e = .returned (.int .i32 (sgl r)) ∧ W' = w := by
  obtain ⟨L, hL⟩ : ∃ L, L = sgl r := ⟨_, rfl⟩
  have HL := hid' hL
  rw [← hL]
  clear hL
  go_enter Tryd.func89, Tryd.ntmps89
  go_wp2
  all_goals go_ret
  all_goals refine ⟨?_, rfl⟩
  all_goals rw [HL.out]
  all_goals clear HL
  all_goals first | (rename_i h; obtain rfl := eq_of_beq h; rfl) | (simp [sgl, List.lookup, *]; done)
end Go.Proofs.YtpkegjbmnilmdaaDoor.D
/- What is told by a switch: Like, the document's Like. -/
namespace Go.Proofs.YtpkegjbmnilmdaaDoor.D
open Go.RowKit Go.Lib Go.Sort Go.Shelf
set_option linter.unusedVariables false

set_option maxRecDepth 100000 in
set_option maxHeartbeats 1600000 in
theorem like_any (r : Int) (w : World) : Calls Tryd.prog 31 #[.int .i32 r] w fun e W' => Ans (lk r) w e W' := by
  obtain ⟨L, hL⟩ : ∃ L, L = lk r := ⟨_, rfl⟩
  have HL := hid' hL
  rw [← hL]
  clear hL
  go_enter Tryd.func31, Tryd.ntmps31
  go_wp2
  all_goals go_ret
  all_goals first | refine Ans.one ?_ (Below.refl _ _) | refine Ans.two ?_ (Below.refl _ _) | refine Ans.nil ?_ (Below.refl _ _)
  all_goals rw [HL.out]
  all_goals clear HL
  all_goals first | (rename_i h; obtain rfl := eq_of_beq h; rfl) | (simp [lk, likeT, List.lookup, *]; done)
set_option maxRecDepth 100000 in
set_option maxHeartbeats 1600000 in
theorem rlike_any (r : Int) (w : World) : Calls Tryd.prog 23 #[.int .i32 r] w fun e W' => Ans (lk r) w e W' := by
  obtain ⟨L, hL⟩ : ∃ L, L = lk r := ⟨_, rfl⟩
  have HL := hid' hL
  rw [← hL]
  clear hL
  go_enter Tryd.func23, Tryd.ntmps23
  go_wp2
  all_goals go_ret
  all_goals first | refine Ans.one ?_ (Below.refl _ _) | refine Ans.two ?_ (Below.refl _ _) | refine Ans.nil ?_ (Below.refl _ _)
  all_goals rw [HL.out]
  all_goals clear HL
  all_goals first | (rename_i h; obtain rfl := eq_of_beq h; rfl) | (simp [lk, likeT, List.lookup, *]; done)
theorem lookup_mem {α : Type} : ∀ {l : List (Int × α)} {r : Int} {v : α}, l.lookup r = some v → (r, v) ∈ l
  | [], r, v, h => by simp [List.lookup] at h
  | (a, b) :: l, r, v, h => by
    unfold List.lookup at h
    split at h
    · rename_i hb
      obtain rfl := eq_of_beq hb
      cases h
      exact List.mem_cons_self
    · exact List.mem_cons_of_mem _ (lookup_mem h)
end Go.Proofs.YtpkegjbmnilmdaaDoor.D
/- The contracts of Decomp and Pair. -/
namespace Go.Proofs.YtpkegjbmnilmdaaDoor.D
open Go.RowKit Go.Lib Go.Sort Go.Shelf
set_option linter.unusedVariables false

def z3 : Tri := (0, 0, 0)
def rising3 : List Tri → Bool
  | x :: y :: l => decide (x.1 < y.1) && rising3 (y :: l)
  | _ => true
theorem rising3_tail {x : Tri} {l : List Tri} (h : rising3 (x :: l) = true) : rising3 l = true := by
  cases l with
  | nil => rfl
  | cons y l => simp only [rising3, Bool.and_eq_true] at h; exact h.2
theorem rising3_all : ∀ {x : Tri} {l : List Tri}, rising3 (x :: l) = true → ∀ y ∈ l, x.1 < y.1
  | x, [], _, y, hy => by simp at hy
  | x, z :: l, h, y, hy => by
    have ht := rising3_tail h
    simp only [rising3, Bool.and_eq_true, decide_eq_true_eq] at h
    rcases List.mem_cons.1 hy with rfl | hy
    · exact h.1
    · have := rising3_all ht y hy
      omega
def ahead3 (d : List Tri) (r : Int) : Nat := d.countP (fun x => !decide (r ≤ x.1))
theorem ahead3_le (d : List Tri) (r : Int) : ahead3 d r ≤ d.length := List.countP_le_length
theorem find3_at : ∀ (d : List Tri) (r : Int), rising3 d = true →
    d.find? (fun x => x.1 == r) = if h : ahead3 d r < d.length then (if (d[ahead3 d r]).1 = r then some (d[ahead3 d r]) else none) else none
  | [], r, _ => by simp [ahead3]
  | x :: l, r, h => by
    have ht := rising3_tail h
    have ha := rising3_all h
    by_cases hx : r ≤ x.1
    · have h0 : ahead3 (x :: l) r = 0 := by
        unfold ahead3
        rw [List.countP_eq_zero]
        intro y hy
        rcases List.mem_cons.1 hy with rfl | hy
        · simpa using hx
        · have := ha y hy
          have : r ≤ y.1 := by omega
          simpa using this
      have hl : ahead3 (x :: l) r < (x :: l).length := by rw [h0]; simp
      rw [dif_pos hl]
      have he : (x :: l)[ahead3 (x :: l) r] = x := by simp [h0]
      rw [he]
      by_cases hlo : x.1 = r
      · rw [if_pos hlo, List.find?_cons_of_pos (by simpa using hlo)]
      · rw [if_neg hlo, List.find?_eq_none]
        intro y hy
        rcases List.mem_cons.1 hy with rfl | hy
        · simpa using hlo
        · have := ha y hy
          simp; omega
    · have h1 : ahead3 (x :: l) r = ahead3 l r + 1 := by
        unfold ahead3
        rw [List.countP_cons_of_pos (by simpa using hx)]
      rw [List.find?_cons_of_neg (by simp; omega), find3_at l r ht]
      by_cases hl : ahead3 l r < l.length
      · have hl' : ahead3 (x :: l) r < (x :: l).length := by rw [h1]; simpa using hl
        have he : (x :: l)[ahead3 (x :: l) r] = l[ahead3 l r] := by simp [h1]
        rw [dif_pos hl, dif_pos hl', he]
      · rw [dif_neg hl, dif_neg (by rw [h1]; simpa using hl)]
theorem mono_whole {d : List Tri} {r : Int} (hd : rising3 d = true) {a b : Nat} (hab : a ≤ b) (hb : b < d.length) (h : decide (r ≤ (d[a]?.getD z3).1) = true) : decide (r ≤ (d[b]?.getD z3).1) = true := by
  induction d generalizing a b with
  | nil => simp at hb
  | cons x l ih =>
    have ht := rising3_tail hd
    rcases b with _ | b
    · obtain rfl : a = 0 := by omega
      exact h
    · rcases a with _ | a
      · have hb' : b < l.length := by simpa using hb
        have := rising3_all hd (l[b]) (List.getElem_mem hb')
        simp only [List.getElem?_cons_zero, Option.getD_some, decide_eq_true_eq, List.getElem?_cons_succ, List.getElem?_eq_getElem hb'] at h ⊢
        omega
      · simp only [List.getElem?_cons_succ] at h ⊢
        exact ih ht (by omega) (by simpa using hb) h
theorem countP_ahead3 (d : List Tri) (r : Int) : (List.range d.length).countP (fun i => !decide (r ≤ (d[i]?.getD z3).1)) = ahead3 d r := by
  have : (List.range d.length).map (fun i => d[i]?.getD z3) = d := by
    apply List.ext_getElem
    · simp
    · intro i h1 h2
      simp [List.getElem?_eq_getElem h2]
  unfold ahead3
  conv => rhs; rw [← this, List.countP_map]
  rfl
theorem flat3_len (l : List Tri) : (flat3 l).length = l.length * 3 := by
  induction l with
  | nil => rfl
  | cons s l ih => simp only [flat3, List.flatMap_cons, List.length_append, List.length_cons] at ih ⊢; rw [ih]; simp [cells3]; omega
theorem flat3_get (l : List Tri) : ∀ j i, j < l.length → i < 3 → (flat3 l)[j * 3 + i]? = (cells3 (l[j]?.getD z3))[i]? := by
  induction l with
  | nil => intro j i hj; simp at hj
  | cons s l ih =>
    intro j i hj hi
    have e : flat3 (s :: l) = cells3 s ++ flat3 l := rfl
    have hl8 : (cells3 s).length = 3 := rfl
    rcases j with _ | j
    · rw [e, List.getElem?_append_left (by omega)]
      simp
    · have h := ih j i (by simpa using hj) hi
      rw [e, List.getElem?_append_right (by omega), hl8, show (j + 1) * 3 + i - 3 = j * 3 + i by omega, h]
      simp
theorem rising_prs : rising3 prs = true := by decide
/-- What a code point is taken apart into. -/
def dcp (r : Int) : List Int := if sgl r ≠ 0 then [sgl r] else match prs.find? (fun x => x.1 == r) with
  | some p => [p.2.1, p.2.2]
  | none => []

set_option maxRecDepth 100000 in
set_option maxHeartbeats 1600000 in
theorem decompc_any (br ba i : Nat) (y r : Int) (W : World) (hi : i < 80)
    (hr : W.cell? ⟨br, 0, none⟩ = some (.int .i32 r)) (hc : W.cell? ⟨ba, i * 3, none⟩ = some (.int .i32 y)) :
    Calls Tryd.prog 91 (#[.int .i64 i] ++ #[.pointer (some ⟨br, 0, none⟩), .pointer (some ⟨ba, 0, none⟩)]) W fun e w' => e = .returned (.bool (decide (r ≤ y))) ∧ ∃ q, w' = W.drewN q := by
  have hiz : (i : Int) < 80 := by omega
  go_enter Tryd.func91, Tryd.ntmps91
  go_wp2
  go_region
  all_goals go_wp2
  all_goals go_ret
  all_goals exact ⟨by first | rfl | simp, 1, rfl⟩

set_option maxRecDepth 100000 in
set_option maxHeartbeats 1600000 in
theorem decomp_any (r : Int) (w : World) : Calls Tryd.prog 82 #[.int .i32 r] w fun e W' => Ans (dcp r) w e W' := by
  obtain ⟨L, hL⟩ : ∃ L, L = dcp r := ⟨_, rfl⟩
  have HL := hid' hL
  rw [← hL]
  clear hL
  obtain ⟨S, hS⟩ : ∃ S, S = sgl r := ⟨_, rfl⟩
  have HS := hid' hS
  clear hS
  have hBx : Below w.heap.size w (w.alloc (.cells #[.int .i32 r] 21)) := (Below.refl _ w).alloc (Nat.le_refl _) _
  by_cases hs0 : S = 0
  · have HL2 : Hid (L = match prs.find? (fun x => x.1 == r) with | some p => [p.2.1, p.2.2] | none => []) := by show _ = _; rw [HL.out]; unfold dcp; rw [← HS.out, if_neg (by simpa using hs0)]
    subst hs0
    clear HL
    obtain ⟨z, hz, hzs⟩ : ∃ z : Array Value, (∀ w, (zeroValue 115).run Tryd.prog w = .ok (.agg z) w) ∧ z.size = 240 := by
      refine ⟨(flat3 (List.replicate 80 (0, 0, 0))).toArray, ?_, ?_⟩
      · exact (zero_of_info (P := Tryd.prog) (t := 115) (n := 240) (by kernel_rfl)).1
      · kernel_rfl
    obtain ⟨c, hc⟩ : ∃ c : Array Value, c = (flat3 prs).toArray := ⟨_, rfl⟩
    have HC := hid' hc
    have HCI : Hid ((Tryd.prog.info? 115).map (·.size) = some c.size) := by show _ = _; rw [hc]; kernel_rfl
    have HCS : Hid (z.size = c.size) := by show _ = _; rw [hzs, hc]; kernel_rfl
    have HCO : Hid (c.all (·.oneCell') = true) := by show _ = _; rw [hc]; kernel_rfl
    have hcall := prs_any
    rw [← hc] at hcall
    have HCALL := hid' hcall
    clear hc hzs hcall
    have HBX := hid' hBx
    clear hBx
    go_enter Tryd.func82, Tryd.ntmps82
    go_wp2_with fail
    refine (single_any r _).mono ?_
    rw [← HS.out]
    rintro e w0 ⟨rfl, hw0⟩
    have hc0 : w0.cell? ⟨w.heap.size, 0, none⟩ = some (.int .i32 r) := by rw [hw0]; exact cell_new_sl w _ _
    have hB0 : Below w.heap.size w w0 := by rw [hw0]; exact HBX.out
    have hs0 : w0.heap.size = w.heap.size + 1 := by rw [hw0]; simp
    clear hw0 HBX
    go_wp2_with fail
    refine (HCALL.out _).mono ?_
    rintro e w1 ⟨rfl, hB1⟩
    have hc1 : w1.cell? ⟨w.heap.size, 0, none⟩ = some (.int .i32 r) := (hB1.cell (p := ⟨w.heap.size, 0, none⟩) (by show w.heap.size < _; omega)).trans hc0
    have hBw1 : Below w.heap.size w w1 := hB0.trans (hB1.mono (by omega))
    have hs1 : w.heap.size + 1 ≤ w1.heap.size := by have := hB1.size; omega
    clear hB1 hB0 hc0 hs0
    go_wp2_with ((refine wpList_store_row rfl 115 (.tmp 4) (.tmp 12) rfl w1.heap.size c rfl rfl 115 z (by exact heap_alloc_last w1 _) (by exact HCI.out) (by exact HCS.out) (by exact HCO.out) (wpList_nil ?_); rw [World.setRow_alloc_new]))
    obtain ⟨W0, hW0⟩ : ∃ W0, W0 = w1.alloc (.cells c 115) := ⟨_, rfl⟩
    rw [← hW0]
    have hrow : W0.heap[w1.heap.size]? = some (.cells c 115) := by rw [hW0]; exact heap_alloc_last w1 _
    have hsize : W0.heap.size = w1.heap.size + 1 := by rw [hW0]; simp
    have cr : W0.cell? ⟨w.heap.size, 0, none⟩ = some (.int .i32 r) := by rw [hW0]; exact cell_alloc_sl _ hc1
    have cp : ∀ i j, i < 80 → j < 3 → W0.cell? ⟨w1.heap.size, i * 3 + j, none⟩ = (cells3 (prs[i]?.getD z3))[j]? := by
      intro i j hi hj
      rw [cell_of_row _ _ _ _ 115 (0, 0) hrow, HC.out, ← flat3_get prs i j hi hj]
      simp
    have hBw0 : Below w.heap.size w W0 := by rw [hW0]; exact hBw1.alloc hBw1.size _
    have eg : ∀ args w, (callFunc 91 args).run Tryd.prog w = .ok (.enter 91 args) w := enters_of Tryd.func91 (by kernel_rfl) rfl
    have hS := Any.sort_Search Tryd.search 91 #[.pointer (some ⟨w.heap.size, 0, none⟩), .pointer (some ⟨w1.heap.size, 0, none⟩)] prs.length (fun i => decide (r ≤ (prs[i]?.getD z3).1)) W0 eg (by decide)
      (fun m os i hi => (decompc_any w.heap.size w1.heap.size i _ r _ hi (cell_grown (by simp [hsize]; omega) cr m os) (cell_grown (by simp [hsize]) (cp i 0 hi (by omega)) m os)).mono
        fun _ _ ⟨he, q, hq⟩ => ⟨he, q, #[], by rw [hq, grow_empty]⟩) (fun a b hab hb h => mono_whole rising_prs hab hb h)
    rw [countP_ahead3] at hS
    have hS' : Calls Tryd.prog 85 #[.int .i64 80, .func (.func 91) #[] #[.pointer (some ⟨w.heap.size, 0, none⟩), .pointer (some ⟨w1.heap.size, 0, none⟩)]] W0 fun e w' => e = .returned (.int .i64 (ahead3 prs r : Nat)) ∧ ∃ q os, w' = grow (W0.drewN q) os := hS
    have hfa := find3_at prs r rising_prs
    obtain ⟨A, hA⟩ : ∃ A, A = ahead3 prs r := ⟨_, rfl⟩
    have hA1 : A ≤ 80 := by rw [hA]; exact ahead3_le prs r
    rw [← hA] at hS'
    have HA := hid' hA
    refine hS'.mono ?_
    rintro e w2 ⟨rfl, q, os, hw2⟩
    have hB2 : Below W0.heap.size W0 w2 := by rw [hw2]; exact below_grown_sl _ W0 q os (Nat.le_refl _)
    have hBw2 : Below w.heap.size w w2 := hBw0.trans (hB2.mono (by omega))
    have cr2 : w2.cell? ⟨w.heap.size, 0, none⟩ = some (.int .i32 r) := (hB2.cell (p := ⟨w.heap.size, 0, none⟩) (by show w.heap.size < _; omega)).trans cr
    have cp2 : ∀ i j, i < 80 → j < 3 → w2.cell? ⟨w1.heap.size, i * 3 + j, none⟩ = (cells3 (prs[i]?.getD z3))[j]? := fun i j hi hj => (hB2.cell (p := ⟨w1.heap.size, i * 3 + j, none⟩) (by show w1.heap.size < _; omega)).trans (cp i j hi hj)
    have HBW := hid' hBw2
    have HFA := hid' hfa
    have HCP := hid' cp2
    clear hS hS' hw2 hB2 hBw2 cr cp eg hrow hBw0 hW0 hfa cp2 hA hc1 hBw1
    by_cases hlt : A < 80
    · have hlt' : (A : Int) < 80 := by omega
      have hne : ((A : Int) == 80) = false := by simp; omega
      obtain ⟨x, hx⟩ : ∃ x, x = prs[A]?.getD z3 := ⟨_, rfl⟩
      have hcells := fun j hj => HCP.out A j hlt hj
      rw [← hx] at hcells
      have HP2 : Hid (prs.find? (fun x => x.1 == r) = if x.1 = r then some x else none) := by
        have := HFA.out
        have e : ahead3 prs r = A := HA.out.symm
        simp only [e] at this
        rw [dif_pos (show A < prs.length from hlt)] at this
        have e2 : prs[A]'(show A < prs.length from hlt) = x := by rw [hx, List.getElem?_eq_getElem (show A < prs.length from hlt)]; rfl
        rw [e2] at this
        exact this
      obtain ⟨x0, x1, x2⟩ := x
      have c0 : w2.cell? ⟨w1.heap.size, A * 3, none⟩ = some (.int .i32 x0) := hcells 0 (by omega)
      have c1 : w2.cell? ⟨w1.heap.size, A * 3 + 1, none⟩ = some (.int .i32 x1) := hcells 1 (by omega)
      have c2 : w2.cell? ⟨w1.heap.size, A * 3 + 2, none⟩ = some (.int .i32 x2) := hcells 2 (by omega)
      clear hcells hx HCP HFA
      by_cases he : x0 = r
      · subst he
        have HG : Hid (L = [x1, x2]) := by show _ = _; rw [HL2.out, HP2.out, if_pos rfl]
        clear HP2 HL2
        go_wp2_with fail
        go_quiet (fail)
        go_wp2
        go_region
        all_goals go_wp2
        all_goals go_ret
        exact Ans.two (W := w2.drewN (nq + 1)) HG.out (below_drewN HBW.out _)
      · have hneb : (r != x0) = true := by simp; omega
        have hneb2 : (r == x0) = false := by simp; omega
        have HG : Hid (L = []) := by show _ = _; rw [HL2.out, HP2.out, if_neg he]
        clear HP2 HL2
        go_wp2_with fail
        go_quiet (fail)
        go_wp2
        go_ret
        exact Ans.nil HG.out (below_drewN HBW.out _)
    · have hne : ((A : Int) == 80) = true := by simp; omega
      have HG : Hid (L = []) := by
        show _ = _
        have := HFA.out
        have e : ahead3 prs r = A := HA.out.symm
        simp only [e] at this
        rw [dif_neg (show ¬ A < prs.length from hlt)] at this
        rw [HL2.out, this]
      clear HCP HFA HL2
      go_wp2_with fail
      go_quiet (fail)
      go_wp2
      go_ret
      exact Ans.nil HG.out (below_drewN HBW.out _)
  · have HL2 : Hid (L = [S]) := by show _ = _; rw [HL.out]; unfold dcp; rw [← HS.out, if_pos hs0]
    have hdb : (S != 0) = true := by simpa using hs0
    have hdb2 : (S == 0) = false := by simpa using hs0
    clear HL
    go_enter Tryd.func82, Tryd.ntmps82
    go_wp2_with fail
    refine (single_any r _).mono ?_
    rw [← HS.out]
    rintro e w1 ⟨rfl, rfl⟩
    go_wp2
    go_ret
    have := Ans.one (w := w) (W := w.alloc (.cells #[.int .i32 r] 21)) HL2.out hBx
    rw [World.size_alloc] at this
    exact this

/-- The first pair with these two. -/
def prf (d : List Tri) (a b : Int) : Int × Bool := match d.find? (fun x => x.2.1 == a && x.2.2 == b) with
  | some p => (p.1, true)
  | none => (0, false)
theorem prf_hit {d : List Tri} {k : Nat} {a b : Int} (hk : k < d.length) (h : (d[k]?.getD z3).2.1 = a ∧ (d[k]?.getD z3).2.2 = b) : prf (d.drop k) a b = ((d[k]?.getD z3).1, true) := by
  rw [List.drop_eq_getElem_cons hk]
  rw [List.getElem?_eq_getElem hk] at h ⊢
  simp only [Option.getD_some] at h ⊢
  unfold prf
  rw [List.find?_cons_of_pos (by simp [h.1, h.2])]
theorem prf_miss {d : List Tri} {k : Nat} {a b : Int} (hk : k < d.length) (h : ¬ ((d[k]?.getD z3).2.1 = a ∧ (d[k]?.getD z3).2.2 = b)) : prf (d.drop k) a b = prf (d.drop (k + 1)) a b := by
  rw [List.drop_eq_getElem_cons hk]
  rw [List.getElem?_eq_getElem hk] at h
  simp only [Option.getD_some] at h
  unfold prf
  rw [List.find?_cons_of_neg (by simpa using h)]
theorem prf_end {d : List Tri} {k : Nat} {a b : Int} (hk : d.length ≤ k) : prf (d.drop k) a b = (0, false) := by
  rw [List.drop_of_length_le hk]; rfl

theorem flat3_cut (l : List Tri) (j : Nat) (hj : j < l.length) : (flat3 l).toArray.extract (j * 3) (j * 3 + 3) = (cells3 (l[j]?.getD z3)).toArray := by
  apply Array.ext_getElem?
  intro i
  by_cases hi : i < 3
  · have := flat3_get l j i hj hi
    rw [Array.getElem?_extract, if_pos (by simp [flat3_len]; omega)]
    simpa using this
  · rw [Array.getElem?_eq_none (by simp; omega), Array.getElem?_eq_none (by simp [cells3]; omega)]
theorem index40 (j : Nat) (hj : j < 80) (W : World) : (Instr.index 115 (.agg (flat3 prs).toArray) (.int .i64 (j : Int))).run Tryd.prog W = .ok (.agg (cells3 (prs[j]?.getD z3)).toArray) W := by
  rw [← flat3_cut prs j hj]
  generalize (flat3 prs).toArray = c
  simp [Instr.index, asIntOf, run_underlying Tryd.underlying115, part, Tryd.sizeOf114]
  intro h
  omega

end Go.Proofs.YtpkegjbmnilmdaaDoor.D
