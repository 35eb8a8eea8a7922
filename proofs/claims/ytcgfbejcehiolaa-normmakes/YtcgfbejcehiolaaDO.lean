/- The contracts of the document's Rows and Pairs. -/
import Derived.Test.YtcgfbejcehiolaaDN
namespace Go.Proofs.Ytcgfbejcehiolaa.D
open Go.RowKit Go.Lib Go.Sort Go.Shelf
set_option linter.unusedVariables false

theorem Try.info30 : (Try.prog.info? 30).map (fun i => (i.zero, i.size, i.bytes)) = some (some (.agg #[.int .i32 0, .int .i32 0, .int .u8 0, .int .i32 0, .int .i32 0, .int .i32 0, .int .u8 0, .int .u8 0, .int .u8 0, .bool false, .int .u8 0]), 11, 32) := by kernel_rfl
theorem Try.info53 : (Try.prog.info? 53).map (fun i => (i.zero, i.size, i.bytes)) = some (some (.agg #[.int .i32 0, .int .i32 0, .int .i32 0]), 3, 12) := by kernel_rfl
theorem news_at (w : World) (t : TypeId) (l : List Value) : ∀ (j : Nat) (u : Value), l[j]? = some u → (w.alloc (.cells l.toArray t)).cell? ((⟨w.heap.size, 0, none⟩ : Addr).add j) = some u := by
  intro j u h
  have hb : (w.alloc (.cells l.toArray t)).heap[w.heap.size]? = some (.cells l.toArray t) := heap_alloc_last w _
  generalize w.alloc (.cells l.toArray t) = W at hb ⊢
  generalize w.heap.size = g at hb ⊢
  by_cases hj : j = 0
  · subst hj; simp [World.cell?, Addr.add, hb, h]
  · simp [World.cell?, Addr.add, hj, hb, h]
/-- A row of the call's own that is written leaves what lay below its base. -/
theorem below_grow {B : Nat} {w w1 w2 : World} {e : TypeId} {size : Nat} {v : Value} {n : Nat} {xs : List Value} (hB : Below B w w1) (hb : B ≤ w1.heap.size) (hown : w1.ownsRow B e size v n xs) (hg : w1.grownBy w2 v.ownBlock) : Below B w w2 :=
  hB.grown hg hb (fun j ej => by
    rcases hown.2 with ⟨rfl, _⟩ | ⟨g, cap, cur, rfl, hbg, _, _⟩
    · simp [Value.ownBlock] at ej
    · obtain rfl : g = j := by simpa [Value.ownBlock] using ej
      exact hbg)
theorem flat11_len (l : List Rr) : (flat11 l).length = l.length * 11 := by
  induction l with
  | nil => rfl
  | cons s l ih => simp only [flat11, List.flatMap_cons, List.length_append, List.length_cons] at ih ⊢; rw [ih]; simp [cells11]; omega
theorem flat11_one (l : List Rr) : ∀ u ∈ flat11 l, u.oneCell' = true := by
  intro u hu
  obtain ⟨s, _, hs⟩ := List.mem_flatMap.1 hu
  simp [cells11] at hs
  rcases hs with rfl | rfl | rfl | rfl | rfl | rfl | rfl | rfl | rfl | rfl | rfl <;> rfl
theorem flat3_one (l : List Tri) : ∀ u ∈ flat3 l, u.oneCell' = true := by
  intro u hu
  obtain ⟨s, _, hs⟩ := List.mem_flatMap.1 hu
  simp [cells3] at hs
  rcases hs with rfl | rfl | rfl <;> rfl
def rtab : List Rr := rows0 ++ rows1 ++ rows2
def ptab : List Tri := pairs0 ++ pairs1

set_option maxRecDepth 100000 in
set_option maxHeartbeats 1600000 in
theorem rows_any (w : World) :
    Calls Try.prog 33 #[] w fun e W' => (∃ v, e = .returned v ∧ W'.ownsRow w.heap.size 30 11 v 88 (flat11 rtab)) ∧ Below w.heap.size w W' := by
  obtain ⟨i0, hi, hz0, hz1, hz2⟩ := info_parts Try.info30
  obtain ⟨X0, hX0⟩ : ∃ X, X = flat11 rows0 := ⟨_, rfl⟩
  have hc0 := rows0_any
  rw [← hX0] at hc0
  have HC0 := hid' hc0
  have HL0 : Hid (X0.length = 330) := by show _ = _; rw [hX0]; kernel_rfl
  have HO0 : Hid (∀ u ∈ X0, u.oneCell' = true) := by show ∀ u ∈ X0, _; rw [hX0]; exact flat11_one _
  obtain ⟨X1, hX1⟩ : ∃ X, X = flat11 rows1 := ⟨_, rfl⟩
  have hc1 := rows1_any
  rw [← hX1] at hc1
  have HC1 := hid' hc1
  have HL1 : Hid (X1.length = 330) := by show _ = _; rw [hX1]; kernel_rfl
  have HO1 : Hid (∀ u ∈ X1, u.oneCell' = true) := by show ∀ u ∈ X1, _; rw [hX1]; exact flat11_one _
  obtain ⟨X2, hX2⟩ : ∃ X, X = flat11 rows2 := ⟨_, rfl⟩
  have hc2 := rows2_any
  rw [← hX2] at hc2
  have HC2 := hid' hc2
  have HL2 : Hid (X2.length = 308) := by show _ = _; rw [hX2]; kernel_rfl
  have HO2 : Hid (∀ u ∈ X2, u.oneCell' = true) := by show ∀ u ∈ X2, _; rw [hX2]; exact flat11_one _
  have HX : Hid (flat11 rtab = X0 ++ X1 ++ X2) := by show _ = _; rw [hX0, hX1, hX2]; kernel_rfl
  clear hc0 hX0 hc1 hX1 hc2 hX2
  go_enter Try.func33, Try.ntmps33
  go_wp2_with fail
  refine (HC0.out _).mono ?_
  rintro e w0 ⟨rfl, hw0⟩
  have hr0 : w0.ownsRow w.heap.size 30 11 (.slice (some ⟨w.heap.size, 0, none⟩) 30 30) 30 X0 := by
    rw [hw0]
    refine ⟨by have := HL0.out; omega, .inr ⟨w.heap.size, 30, X0.toArray, rfl, Nat.le_refl _, heap_alloc_last w _, Nat.le_refl _, by unfold maxLen; omega, by have := HL0.out; simp; omega, ?_⟩⟩
    exact List.take_of_length_le (by have := HL0.out; simp; omega)
  have hB0 : Below w.heap.size w w0 := by rw [hw0]; exact (Below.refl _ w).alloc (Nat.le_refl _) _
  clear hw0
  go_wp2_with fail
  refine (HC1.out _).mono ?_
  rintro e u1 ⟨rfl, hu1⟩
  have hs1 : u1.ownsRow w.heap.size 30 11 (.slice (some ⟨w.heap.size, 0, none⟩) 30 30) 30 (X0) := by rw [hu1]; exact hr0.alloc _
  have hb1 : Below w.heap.size w u1 := by rw [hu1]; exact hB0.alloc hB0.size _
  have hn1 : ∀ j y, X1[j]? = some y → u1.cell? ((⟨w0.heap.size, 0, none⟩ : Addr).add j) = some y := by rw [hu1]; exact news_at w0 30 X1
  have HN1 := hid' hn1
  clear hu1 hr0 hB0 hn1
  go_wp2_with ((at_builtin; refine wpList_append_own u1 rfl _ _ 49 rfl w.heap.size 30 i0 (.agg #[.int .i32 0, .int .i32 0, .int .u8 0, .int .i32 0, .int .i32 0, .int .i32 0, .int .u8 0, .int .u8 0, .int .u8 0, .bool false, .int .u8 0]) 11 32 Try.underlying49 hi hz0 hz1 hz2 rfl (by decide) _ 30 (X0) rfl hs1 ⟨w0.heap.size, 0, none⟩ 30 30 X1 rfl (by have := HL1.out; omega) HN1.out HO1.out (by unfold maxLen; omega) (by omega) (by have := hb1.size; omega) ?_; intro v1 w1 hr1 hg1 _; refine Hid.out ?_))
  refine hid' ?_
  have hB1 := below_grow hb1 hb1.size hs1 hg1
  clear hs1 hb1 hg1
  obtain ⟨a1, k1, rfl⟩ : ∃ a c, v1 = .slice a 60 c := by
    rcases hr1.2 with ⟨_, h⟩ | ⟨g, cap, cur, rfl, _⟩
    · omega
    · exact ⟨_, _, rfl⟩
  go_wp2_with fail
  refine (HC2.out _).mono ?_
  rintro e u2 ⟨rfl, hu2⟩
  have hs2 : u2.ownsRow w.heap.size 30 11 (.slice a1 60 k1) 60 (X0 ++ X1) := by rw [hu2]; exact hr1.alloc _
  have hb2 : Below w.heap.size w u2 := by rw [hu2]; exact hB1.alloc hB1.size _
  have hn2 : ∀ j y, X2[j]? = some y → u2.cell? ((⟨w1.heap.size, 0, none⟩ : Addr).add j) = some y := by rw [hu2]; exact news_at w1 30 X2
  have HN2 := hid' hn2
  clear hu2 hr1 hB1 hn2
  go_wp2_with ((at_builtin; refine wpList_append_own u2 rfl _ _ 49 rfl w.heap.size 30 i0 (.agg #[.int .i32 0, .int .i32 0, .int .u8 0, .int .i32 0, .int .i32 0, .int .i32 0, .int .u8 0, .int .u8 0, .int .u8 0, .bool false, .int .u8 0]) 11 32 Try.underlying49 hi hz0 hz1 hz2 rfl (by decide) _ 60 (X0 ++ X1) rfl hs2 ⟨w1.heap.size, 0, none⟩ 28 28 X2 rfl (by have := HL2.out; omega) HN2.out HO2.out (by unfold maxLen; omega) (by omega) (by have := hb2.size; omega) ?_; intro v2 w2 hr2 hg2 _; refine Hid.out ?_))
  refine hid' ?_
  have hB2 := below_grow hb2 hb2.size hs2 hg2
  clear hs2 hb2 hg2
  obtain ⟨a2, k2, rfl⟩ : ∃ a c, v2 = .slice a 88 c := by
    rcases hr2.2 with ⟨_, h⟩ | ⟨g, cap, cur, rfl, _⟩
    · omega
    · exact ⟨_, _, rfl⟩
  go_wp2
  go_ret
  exact ⟨⟨_, rfl, by rw [HX.out]; exact hr2⟩, hB2⟩

set_option maxRecDepth 100000 in
set_option maxHeartbeats 1600000 in
theorem pairs_any (w : World) :
    Calls Try.prog 34 #[] w fun e W' => (∃ v, e = .returned v ∧ W'.ownsRow w.heap.size 53 3 v 80 (flat3 ptab)) ∧ Below w.heap.size w W' := by
  obtain ⟨i0, hi, hz0, hz1, hz2⟩ := info_parts Try.info53
  obtain ⟨X0, hX0⟩ : ∃ X, X = flat3 pairs0 := ⟨_, rfl⟩
  have hc0 := pairs0_any
  rw [← hX0] at hc0
  have HC0 := hid' hc0
  have HL0 : Hid (X0.length = 120) := by show _ = _; rw [hX0]; kernel_rfl
  have HO0 : Hid (∀ u ∈ X0, u.oneCell' = true) := by show ∀ u ∈ X0, _; rw [hX0]; exact flat3_one _
  obtain ⟨X1, hX1⟩ : ∃ X, X = flat3 pairs1 := ⟨_, rfl⟩
  have hc1 := pairs1_any
  rw [← hX1] at hc1
  have HC1 := hid' hc1
  have HL1 : Hid (X1.length = 120) := by show _ = _; rw [hX1]; kernel_rfl
  have HO1 : Hid (∀ u ∈ X1, u.oneCell' = true) := by show ∀ u ∈ X1, _; rw [hX1]; exact flat3_one _
  have HX : Hid (flat3 ptab = X0 ++ X1) := by show _ = _; rw [hX0, hX1]; kernel_rfl
  clear hc0 hX0 hc1 hX1
  go_enter Try.func34, Try.ntmps34
  go_wp2_with fail
  refine (HC0.out _).mono ?_
  rintro e w0 ⟨rfl, hw0⟩
  have hr0 : w0.ownsRow w.heap.size 53 3 (.slice (some ⟨w.heap.size, 0, none⟩) 40 40) 40 X0 := by
    rw [hw0]
    refine ⟨by have := HL0.out; omega, .inr ⟨w.heap.size, 40, X0.toArray, rfl, Nat.le_refl _, heap_alloc_last w _, Nat.le_refl _, by unfold maxLen; omega, by have := HL0.out; simp; omega, ?_⟩⟩
    exact List.take_of_length_le (by have := HL0.out; simp; omega)
  have hB0 : Below w.heap.size w w0 := by rw [hw0]; exact (Below.refl _ w).alloc (Nat.le_refl _) _
  clear hw0
  go_wp2_with fail
  refine (HC1.out _).mono ?_
  rintro e u1 ⟨rfl, hu1⟩
  have hs1 : u1.ownsRow w.heap.size 53 3 (.slice (some ⟨w.heap.size, 0, none⟩) 40 40) 40 (X0) := by rw [hu1]; exact hr0.alloc _
  have hb1 : Below w.heap.size w u1 := by rw [hu1]; exact hB0.alloc hB0.size _
  have hn1 : ∀ j y, X1[j]? = some y → u1.cell? ((⟨w0.heap.size, 0, none⟩ : Addr).add j) = some y := by rw [hu1]; exact news_at w0 53 X1
  have HN1 := hid' hn1
  clear hu1 hr0 hB0 hn1
  go_wp2_with ((at_builtin; refine wpList_append_own u1 rfl _ _ 51 rfl w.heap.size 53 i0 (.agg #[.int .i32 0, .int .i32 0, .int .i32 0]) 3 12 Try.underlying51 hi hz0 hz1 hz2 rfl (by decide) _ 40 (X0) rfl hs1 ⟨w0.heap.size, 0, none⟩ 40 40 X1 rfl (by have := HL1.out; omega) HN1.out HO1.out (by unfold maxLen; omega) (by omega) (by have := hb1.size; omega) ?_; intro v1 w1 hr1 hg1 _; refine Hid.out ?_))
  refine hid' ?_
  have hB1 := below_grow hb1 hb1.size hs1 hg1
  clear hs1 hb1 hg1
  obtain ⟨a1, k1, rfl⟩ : ∃ a c, v1 = .slice a 80 c := by
    rcases hr1.2 with ⟨_, h⟩ | ⟨g, cap, cur, rfl, _⟩
    · omega
    · exact ⟨_, _, rfl⟩
  go_wp2
  go_ret
  exact ⟨⟨_, rfl, by rw [HX.out]; exact hr1⟩, hB1⟩
end Go.Proofs.Ytcgfbejcehiolaa.D
