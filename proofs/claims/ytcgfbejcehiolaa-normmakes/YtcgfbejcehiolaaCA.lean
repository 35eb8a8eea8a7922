/- The contracts of runes, slices.Equal and reaches. -/
import Derived.Test.YtcgfbejcehiolaaOB
import Derived.Deep.OwnRows
namespace Go.Proofs.Ytcgfbejcehiolaa
open Go.RowKit
set_option linter.unusedVariables false

/-- The slice value v leads to the points l, from the beginning of a block on. -/
def RowP (W : World) (v : Value) (l : List Pt) : Prop := ∃ a cap, v = .slice a l.length cap ∧ (0 < l.length → ∃ g, a = some ⟨g, 0, none⟩ ∧ Pts W g 0 l)
theorem RowP.of_own {W : World} {base n : Nat} {v : Value} {l : List Pt} (h : W.ownsRow base 55 2 v n (flat2 l)) : RowP W v l := by
  have hl : l.length = n := by have := h.1; rw [flat2_len] at this; omega
  rcases id h.2 with ⟨rfl, h0⟩ | ⟨g, cap, cur, rfl, _⟩
  · exact ⟨none, 0, by rw [hl, h0], fun hp => by omega⟩
  · refine ⟨_, cap, by rw [hl], fun _ => ⟨g, rfl, ?_⟩⟩
    have := ownsRow_pts (O := []) (S := l) (by simpa using h)
    simpa using this
theorem info21 : (Try.prog.info? 21).map (fun i => (i.zero, i.size, i.bytes)) = some (some (.int .i32 0), 1, 4) := by kernel_rfl
theorem made_cells (n : Nat) : (madeCells #[Value.int .i32 0] n).toList = List.replicate n (.int .i32 0) := by
  unfold madeCells
  simp [Nat.mod_one, List.map_const']
/-- The numbers of the first k, and noughts. -/
def part (l : List Pt) (k : Nat) : List Int := (l.take k).map (·.1) ++ List.replicate (l.length - k) 0
theorem part_set (l : List Pt) (k : Nat) (hk : k < l.length) : (part l k).set k (l[k]?.getD z2).1 = part l (k + 1) := by
  unfold part
  have h1 : ((l.take k).map (·.1)).length = k := by rw [List.length_map, List.length_take]; omega
  rw [show l.length - k = (l.length - (k + 1)) + 1 by omega, List.replicate_succ, List.take_succ_eq_append_getElem hk, List.getElem?_eq_getElem hk]
  rw [List.set_append_right _ _ (by omega), h1, Nat.sub_self]
  simp only [List.set_cons_zero, List.map_append, List.map_cons, List.map_nil, List.append_assoc, List.cons_append, List.nil_append, Option.getD_some]

set_option maxRecDepth 100000 in
set_option maxHeartbeats 2000000 in
theorem runes_any (v : Value) (l : List Pt) (w : World) (hlen : l.length ≤ 100000) (hr : RowP w v l) :
    Calls Try.prog 22 #[v] w fun e W' => ∃ v', e = .returned v' ∧ W'.ownsRow w.heap.size 21 1 v' l.length ((l.map (·.1)).map (Value.int .i32)) ∧ Below w.heap.size w W' := by
  obtain ⟨a, cap, rfl, hf⟩ := hr
  obtain ⟨n, hn⟩ : ∃ n, l.length = n := ⟨_, rfl⟩
  have hmk := fun W => run_make_row' (P := Try.prog) 22 21 (.int .i32 0) 4 Try.underlying22 info21 rfl .i64 .i64 n (by omega) (by omega) W
  have hz : ∀ W, (zeroValue 55).run Try.prog W = .ok (.agg #[.int .i32 0, .int .u8 0]) W := (zero_of_info (P := Try.prog) (t := 55) (n := 2) (by kernel_rfl)).1
  have h0 : (w.alloc (.cells (madeCells #[.int .i32 0] n) 21)).ownsRow w.heap.size 21 1 (.slice (some ⟨w.heap.size, 0, none⟩) n n) n ((part l 0).map (Value.int .i32)) := by
    refine ⟨by simp [part, hn], .inr ⟨w.heap.size, n, _, rfl, Nat.le_refl _, heap_alloc_last w _, Nat.le_refl _, by unfold maxLen; omega, by rw [size_madeCells]; omega, ?_⟩⟩
    rw [made_cells]
    simp [part, hn]
  have H0 := hid h0
  have HF := hid hf
  rw [hn] at hlen ⊢
  have HN := hid hn
  clear h0 hf hn
  go_enter Try.func22, Try.ntmps22
  go_wp2_with fail
  go_loopw [11] (fun i wr => ∃ k : Nat, k ≤ n ∧ i = .int .i64 k ∧ wr.ownsRow w.heap.size 21 1 (.slice (some ⟨w.heap.size, 0, none⟩) n n) n ((part l k).map (Value.int .i32)) ∧ Below w.heap.size w wr) (fun i _ => n - (intOf i).toNat)
  case atStart => exact ⟨0, Nat.zero_le _, rfl, H0.out, (Below.refl _ w).alloc (Nat.le_refl _) _⟩
  case round =>
    obtain ⟨k, hk, rfl, hrow, hB⟩ := hrel
    by_cases hlt : k < n
    · obtain ⟨g, rfl, hp⟩ := HF.out (by have := HN.out; omega)
      have hp' := hp.below hB hp.lt
      have hkl : k < l.length := by have := HN.out; omega
      have e0 := hp'.c0 k hkl
      have e1 := hp'.c1 k hkl
      have HPS := hid (part_set l k hkl)
      obtain ⟨p, hpe⟩ : ∃ p, l[k]?.getD z2 = p := ⟨_, rfl⟩
      rw [hpe] at e0 e1 HPS
      simp only [Nat.zero_add] at e0 e1
      have hltz : (k : Int) < (n : Int) := by omega
      have hsz : w.heap.size < wr.heap.size := (hrow.lt _ rfl).2
      have hra := hrow.alloc (.cells #[.int .i32 p.1, .int .u8 p.2] 55)
      have hck : (wr.alloc (.cells #[.int .i32 p.1, .int .u8 p.2] 55)).cell? ⟨w.heap.size, k, none⟩ = some (.int .i32 ((part l k)[k]?.getD 0)) := by
        have h3 := hra.cellAt k (by omega)
        have h4 : k < (part l k).length := by unfold part; simp; omega
        rw [h3, List.getElem?_map, List.getElem?_eq_getElem h4]; rfl
      have hfk : (wr.alloc (.cells #[.int .i32 p.1, .int .u8 p.2] 55)).frozen? ⟨w.heap.size, k, none⟩ = false := by
        rcases hra.2 with ⟨h, _⟩ | ⟨g', cap', cur, h, _, hg, _⟩
        · cases h
        · cases h; simp [World.frozen?, hg]
      generalize (part l k)[k]?.getD 0 = y at hck
      clear hp hp' hpe
      go_wp2
      have hst := hrow.stored k (.int .i32 p.1)
      have hB1 := hB.setCell (p := ⟨w.heap.size, k, none⟩) (Nat.le_refl _) (.int .i32 p.1)
      have hB2 := hB1.alloc hB1.size (.cells #[.int .i32 p.1, .int .u8 p.2] 55)
      go_roundw
      case rel => exact ⟨k + 1, by omega, by go_num, by have := hst.1; rw [← List.map_set, HPS.out] at this; exact this.alloc _, hB2⟩
      case measure => simp [intOf]; omega
    · have hltz : ¬ (k : Int) < (n : Int) := by omega
      have HE : Hid (part l k = l.map (·.1)) := by
        show _ = _
        unfold part
        have h1 : l.length - k = 0 := by have := HN.out; omega
        rw [h1, List.take_of_length_le (by omega)]; simp
      go_wp2
      go_ret
      exact ⟨_, rfl, by have h := hrow; rw [HE.out] at h; simpa using h, hB⟩

set_option maxRecDepth 100000 in
set_option maxHeartbeats 2000000 in
theorem equal_any (u v : Value) (a b : List Int) (w : World) (ha : a.length ≤ 100000) (hu : Row21 w u a) (hv : Row21 w v b) :
    Calls Try.prog 28 #[u, v] w fun e W' => e = .returned (.bool (decide (a = b))) ∧ Below w.heap.size w W' := by
  obtain ⟨ua, uc, rfl, huf⟩ := hu
  obtain ⟨va, vc, rfl, hvf⟩ := hv
  by_cases hl : a.length = b.length
  · have HR : Hid (∀ k, k ≤ a.length → (∀ j, j < k → a[j]?.getD 0 = b[j]?.getD 0) → k = a.length → a = b) := by
      intro k hk h e
      apply List.ext_getElem hl
      intro i h1 h2
      have := h i (by omega)
      rw [List.getElem?_eq_getElem h1, List.getElem?_eq_getElem h2] at this
      exact this
    have HNE : Hid (∀ k, k < a.length → a[k]?.getD 0 ≠ b[k]?.getD 0 → a ≠ b) := fun k hk h e => h (by rw [e])
    obtain ⟨n, hn⟩ : ∃ n, a.length = n := ⟨_, rfl⟩
    rw [hn] at ha huf HR HNE
    rw [← hl, hn] at hvf
    rw [← hl, hn]
    have HUF := hid huf
    have HVF := hid hvf
    obtain ⟨R, hR⟩ : ∃ R : Prop, R = (a = b) := ⟨_, rfl⟩
    have hdec : ∀ t : Bool, (t = true ↔ a = b) → Ending.returned (.bool t) = .returned (.bool (decide (a = b))) := fun t h => by
      congr 2
      cases t with
      | true => exact (decide_eq_true (h.1 rfl)).symm
      | false => exact (decide_eq_false (fun e => by have := h.2 e; cases this)).symm
    have HD := hid hdec
    obtain ⟨db, hdb⟩ : ∃ db, db = decide (a = b) := ⟨_, rfl⟩
    rw [← hdb] at HD ⊢
    clear huf hvf hl hn hR hdec hdb
    go_enter Try.func28, Try.ntmps28
    go_wp2_with fail
    go_loopw [13] (fun i wr => ∃ k : Nat, k ≤ n ∧ i = .int .i64 k ∧ Below w.heap.size w wr ∧ Hid (∀ j, j < k → a[j]?.getD 0 = b[j]?.getD 0)) (fun i _ => n - (intOf i).toNat)
    case atStart => exact ⟨0, Nat.zero_le _, rfl, Below.refl _ _, (fun j hj => by omega)⟩
    case round =>
      obtain ⟨k, hk, rfl, hB, HS⟩ := hrel
      by_cases hlt : k < n
      · obtain ⟨b1, cur1, rfl, hg1, hc1⟩ := HUF.out (by omega)
        obtain ⟨b2, cur2, rfl, hg2, hc2⟩ := HVF.out (by omega)
        have d1 : wr.cell? ⟨b1, k, none⟩ = some (.int .i32 (a[k]?.getD 0)) := by
          simp [World.cell?, (hB.block b1 (Array.getElem?_eq_some_iff.1 hg1).1).trans hg1, hc1 k hlt]
        have d2 : wr.cell? ⟨b2, k, none⟩ = some (.int .i32 (b[k]?.getD 0)) := by
          simp [World.cell?, (hB.block b2 (Array.getElem?_eq_some_iff.1 hg2).1).trans hg2, hc2 k hlt]
        have hltz : (k : Int) < (n : Int) := by omega
        by_cases he : a[k]?.getD 0 = b[k]?.getD 0
        · have HS2 : Hid (∀ j, j < k + 1 → a[j]?.getD 0 = b[j]?.getD 0) := fun j hj => by
            by_cases hjk : j = k
            · subst hjk; exact he
            · exact HS.out j (by omega)
          rw [← he] at d2
          generalize a[k]?.getD 0 = y at d1 d2
          clear hc1 hc2 he
          go_wp2_with fail
          go_quiet (fail)
          go_wp2
          go_roundw
          case rel => exact ⟨k + 1, by omega, by go_num, ⟨hB.os, hB.tape, hB.output, hB.size, hB.block⟩, HS2⟩
          case measure => simp [intOf]; omega
        · have HF := hid (HNE.out k hlt he)
          generalize a[k]?.getD 0 = y at d1 he
          generalize b[k]?.getD 0 = z at d2 he
          have hb : (y != z) = true := by simpa using he
          have hb2 : (y == z) = false := by simpa using he
          clear hc1 hc2 he
          go_wp2_with fail
          go_quiet (fail)
          go_wp2
          go_ret
          exact ⟨HD.out false ⟨fun h => (by cases h), fun h => absurd h HF.out⟩, ⟨hB.os, hB.tape, hB.output, hB.size, hB.block⟩⟩
      · have hltz : ¬ (k : Int) < (n : Int) := by omega
        have HE := hid (HR.out k hk HS.out (by omega))
        go_wp2
        go_ret
        exact ⟨HD.out true ⟨fun _ => HE.out, fun _ => rfl⟩, hB⟩
  · have hd : decide (a = b) = false := decide_eq_false (fun e => hl (by rw [e]))
    rw [hd]
    have hb : ((a.length : Int) != (b.length : Int)) = true := by simp; omega
    have hb2 : ((a.length : Int) == (b.length : Int)) = false := by simp; omega
    clear huf hvf
    go_enter Try.func28, Try.ntmps28
    go_wp2
    go_ret
    exact ⟨rfl, Below.refl _ _⟩

/-- Whether nothing between keeps c from what stands ahead. -/
def rch (B : List Pt) (c : Pt) : Bool := match B.getLast? with
  | none => true
  | some b => decide (b.2 < c.2)

set_option maxRecDepth 100000 in
set_option maxHeartbeats 2000000 in
theorem reaches_none (a : Option Addr) (cap : Nat) (c : Pt) (w : World) : Calls Try.prog 41 #[.slice a 0 cap, .agg #[.int .i32 c.1, .int .u8 c.2]] w fun e W' => e = .returned (.bool true) ∧ Below w.heap.size w W' := by
  go_enter Try.func41, Try.ntmps41
  go_wp2_with fail
  go_quiet (fail)
  go_wp2
  go_ret
  exact ⟨rfl, D.below_drewN ((Below.refl _ w).alloc (Nat.le_refl _) _) _⟩
set_option maxRecDepth 100000 in
set_option maxHeartbeats 2000000 in
theorem reaches_some (g o n cap : Nat) (X : List Pt) (b c : Pt) (w : World) (hn : n = X.length) (hnl : n ≤ 100000) (hp : Pts w g o (X ++ [b])) :
    Calls Try.prog 41 #[.slice (some ⟨g, o, none⟩) (n + 1) cap, .agg #[.int .i32 c.1, .int .u8 c.2]] w fun e W' => e = .returned (.bool (decide (b.2 < c.2))) ∧ Below w.heap.size w W' := by
  have e1 := hp.c1 n (by simp; omega)
  rw [hn, get_mid X b [] X.length rfl, ← hn] at e1
  have hlt := hp.lt
  have e2 : (w.alloc (.cells #[.int .i32 c.1, .int .u8 c.2] 55)).cell? ⟨g, o + n * 2 + 1, none⟩ = some (.int .u8 b.2) := by
    rw [World.cell?_of_block (Below.heap_alloc w _ g hlt)]; exact e1
  have h0 : ((n : Int) + 1 == 0) = false := by simp; omega
  have hnz : (n : Int) < (n : Int) + 1 := by omega
  clear hp e1 hn
  go_enter Try.func41, Try.ntmps41
  go_wp2_with fail
  go_quiet (fail)
  go_wp2
  go_ret
  exact ⟨rfl, D.below_drewN ((Below.refl _ w).alloc (Nat.le_refl _) _) _⟩
end Go.Proofs.Ytcgfbejcehiolaa
