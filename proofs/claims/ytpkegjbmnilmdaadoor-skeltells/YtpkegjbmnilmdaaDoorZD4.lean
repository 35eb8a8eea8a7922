/- Texts of one layer, one behind the other: DN DO DQ DR. -/
import Derived.Test.YtpkegjbmnilmdaaDoorZD3
import Derived.Deep.MidRow
/- The document's tables: rows0 to rows2, pairs0, pairs1, Rows, Pairs. -/
namespace Go.Proofs.YtpkegjbmnilmdaaDoor.D
open Go.RowKit Go.Lib Go.Sort Go.Shelf
set_option linter.unusedVariables false

theorem wpList_builds_g {α : Type} {P : Program} {ops : Array Oper} {Q : Exit → Act → World → Prop} {a : Act} {w : World} {l : List Oper} (n : Nat) (g : Act → α) (v : α)
    (hb : (runBuilds P (l.take n) a).map g = some v)
    (h : ∀ a', g a' = v → wpList P ops Q (l.drop n) a' w) : wpList P ops Q l a w := by
  cases hr : runBuilds P (l.take n) a with
  | none => rw [hr] at hb; cases hb
  | some a' =>
    rw [hr] at hb
    simp only [Option.map_some, Option.some.injEq] at hb
    have := wpList_builds (P := P) (ops := ops) (Q := Q) (w := w) (rest := l.drop n) (l.take n) a a' hr (h a' hb)
    rwa [List.take_append_drop] at this
theorem wpList_buildSlice {P : Program} {ops : Array Oper} {Q : Exit → Act → World → Prop} {a : Act} {w : World} {rest : List Oper} {o : Oper} (hg : o.guard = none) (t : TypeId) (len : Nat) (parts : Array (Nat × Operand)) (ho : o.op = .buildSlice t len parts)
    (e : TypeId) (hu : P.underlying t = some (.slice e)) (size : Nat) (hs : ∀ w, (sizeOf e).run P w = .ok size w) (z : Array Value) (hz : ∀ w, (zeroValue e).run P w = .ok (.agg z) w)
    (hn : len * size ≤ 16777216) (h0 : ¬ len * size = 0) (cells : Array Value)
    (hf : Instr.fill (fun i => some (i * size, size)) ((Array.range (len * size)).map (z[· % z.size]!)) (parts.map fun (i, x) => (i, a.eval x)).toList = some cells)
    (h : wpList P ops Q rest (a.put o.dst (.slice (some ⟨w.heap.size, 0, none⟩) len len)) (w.alloc (.cells cells e))) : wpList P ops Q (o :: rest) a w := by
  refine wpList_plain hg fun K hK => ?_
  unfold Oper.wp execOp
  have hr : (Instr.buildSlice t len (parts.map fun (i, x) => (i, a.eval x))).run P w = .ok (.slice (some ⟨w.heap.size, 0, none⟩) len len) (w.alloc (.cells cells e)) := by
    have hn' : ¬ len * size > 2 ^ 24 := by omega
    simp only [Instr.buildSlice, Sem.run_bind, run_underlying hu, hs, Result.andThen_ok, if_neg hn', if_neg h0, hz, Value.cells]
    simp only [Sem.run_pure, Result.andThen_ok, hf]
    simp [newRow]
  simp only [ho, Sem.run_bind, hr, Result.andThen_ok]
  exact hK _ _ h

set_option maxRecDepth 100000 in
set_option maxHeartbeats 1600000 in
theorem rows0_any (w : World) :
    Calls Tryd.prog 62 #[] w fun e W' => e = .returned (.slice (some ⟨w.heap.size, 0, none⟩) 30 30) ∧ W' = w.alloc (.cells (flat11 rows0).toArray 51) := by
  go_enter Tryd.func62, Tryd.ntmps62
  refine wp_seq (wp_region_lit ?_)
  refine wpList_plain rfl fun K hK => ?_
  refine hK _ _ (wpList_nil ?_)
  refine wp_seq (wp_region_lit ?_)
  refine wpList_builds_g 30 (fun a' => (Instr.fill (fun i => some (i * 11, 11)) ((Array.range (30 * 11)).map ((#[.int .i32 0, .int .i32 0, .int .u8 0, .int .i32 0, .int .i32 0, .int .i32 0, .int .u8 0, .int .u8 0, .int .u8 0, .bool false, .int .u8 0] : Array Value)[· % (#[.int .i32 0, .int .i32 0, .int .u8 0, .int .i32 0, .int .i32 0, .int .i32 0, .int .u8 0, .int .u8 0, .int .u8 0, .bool false, .int .u8 0] : Array Value).size]!)) ((#[(0, .tmp 1), (1, .tmp 2), (2, .tmp 3), (3, .tmp 4), (4, .tmp 5), (5, .tmp 6), (6, .tmp 7), (7, .tmp 8), (8, .tmp 9), (9, .tmp 10), (10, .tmp 11), (11, .tmp 12), (12, .tmp 13), (13, .tmp 14), (14, .tmp 15), (15, .tmp 16), (16, .tmp 17), (17, .tmp 18), (18, .tmp 19), (19, .tmp 20), (20, .tmp 21), (21, .tmp 22), (22, .tmp 23), (23, .tmp 24), (24, .tmp 25), (25, .tmp 26), (26, .tmp 27), (27, .tmp 28), (28, .tmp 29), (29, .tmp 30)] : Array (Nat × Operand)).map fun (i, x) => (i, a'.eval x)).toList, a'.tmps.size, a'.defers)) (some (flat11 rows0).toArray, 32, []) (by kernel_rfl) ?_
  intro a' ha
  simp only [Prod.mk.injEq] at ha
  obtain ⟨hf, hsz, hd⟩ := ha
  refine wpList_buildSlice rfl 68 30 _ rfl 51 Tryd.underlying68 11 Tryd.sizeOf51 _ Tryd.zeroValue51 (by omega) (by omega) (flat11 rows0).toArray hf ?_
  refine wpList_plain rfl fun K hK => ?_
  refine hK _ _ (wpList_nil ?_)
  refine wp_ret ?_
  refine bodyPost_ret (v := .slice (some ⟨w.heap.size, 0, none⟩) 30 30) ?_ hd ⟨rfl, rfl⟩
  simp [results, Tryd.results62, Act.put, Act.eval, hsz]

set_option maxRecDepth 100000 in
set_option maxHeartbeats 1600000 in
theorem rows1_any (w : World) :
    Calls Tryd.prog 63 #[] w fun e W' => e = .returned (.slice (some ⟨w.heap.size, 0, none⟩) 30 30) ∧ W' = w.alloc (.cells (flat11 rows1).toArray 51) := by
  go_enter Tryd.func63, Tryd.ntmps63
  refine wp_seq (wp_region_lit ?_)
  refine wpList_plain rfl fun K hK => ?_
  refine hK _ _ (wpList_nil ?_)
  refine wp_seq (wp_region_lit ?_)
  refine wpList_builds_g 30 (fun a' => (Instr.fill (fun i => some (i * 11, 11)) ((Array.range (30 * 11)).map ((#[.int .i32 0, .int .i32 0, .int .u8 0, .int .i32 0, .int .i32 0, .int .i32 0, .int .u8 0, .int .u8 0, .int .u8 0, .bool false, .int .u8 0] : Array Value)[· % (#[.int .i32 0, .int .i32 0, .int .u8 0, .int .i32 0, .int .i32 0, .int .i32 0, .int .u8 0, .int .u8 0, .int .u8 0, .bool false, .int .u8 0] : Array Value).size]!)) ((#[(0, .tmp 1), (1, .tmp 2), (2, .tmp 3), (3, .tmp 4), (4, .tmp 5), (5, .tmp 6), (6, .tmp 7), (7, .tmp 8), (8, .tmp 9), (9, .tmp 10), (10, .tmp 11), (11, .tmp 12), (12, .tmp 13), (13, .tmp 14), (14, .tmp 15), (15, .tmp 16), (16, .tmp 17), (17, .tmp 18), (18, .tmp 19), (19, .tmp 20), (20, .tmp 21), (21, .tmp 22), (22, .tmp 23), (23, .tmp 24), (24, .tmp 25), (25, .tmp 26), (26, .tmp 27), (27, .tmp 28), (28, .tmp 29), (29, .tmp 30)] : Array (Nat × Operand)).map fun (i, x) => (i, a'.eval x)).toList, a'.tmps.size, a'.defers)) (some (flat11 rows1).toArray, 32, []) (by kernel_rfl) ?_
  intro a' ha
  simp only [Prod.mk.injEq] at ha
  obtain ⟨hf, hsz, hd⟩ := ha
  refine wpList_buildSlice rfl 68 30 _ rfl 51 Tryd.underlying68 11 Tryd.sizeOf51 _ Tryd.zeroValue51 (by omega) (by omega) (flat11 rows1).toArray hf ?_
  refine wpList_plain rfl fun K hK => ?_
  refine hK _ _ (wpList_nil ?_)
  refine wp_ret ?_
  refine bodyPost_ret (v := .slice (some ⟨w.heap.size, 0, none⟩) 30 30) ?_ hd ⟨rfl, rfl⟩
  simp [results, Tryd.results63, Act.put, Act.eval, hsz]

set_option maxRecDepth 100000 in
set_option maxHeartbeats 1600000 in
theorem rows2_any (w : World) :
    Calls Tryd.prog 64 #[] w fun e W' => e = .returned (.slice (some ⟨w.heap.size, 0, none⟩) 28 28) ∧ W' = w.alloc (.cells (flat11 rows2).toArray 51) := by
  go_enter Tryd.func64, Tryd.ntmps64
  refine wp_seq (wp_region_lit ?_)
  refine wpList_plain rfl fun K hK => ?_
  refine hK _ _ (wpList_nil ?_)
  refine wp_seq (wp_region_lit ?_)
  refine wpList_builds_g 28 (fun a' => (Instr.fill (fun i => some (i * 11, 11)) ((Array.range (28 * 11)).map ((#[.int .i32 0, .int .i32 0, .int .u8 0, .int .i32 0, .int .i32 0, .int .i32 0, .int .u8 0, .int .u8 0, .int .u8 0, .bool false, .int .u8 0] : Array Value)[· % (#[.int .i32 0, .int .i32 0, .int .u8 0, .int .i32 0, .int .i32 0, .int .i32 0, .int .u8 0, .int .u8 0, .int .u8 0, .bool false, .int .u8 0] : Array Value).size]!)) ((#[(0, .tmp 1), (1, .tmp 2), (2, .tmp 3), (3, .tmp 4), (4, .tmp 5), (5, .tmp 6), (6, .tmp 7), (7, .tmp 8), (8, .tmp 9), (9, .tmp 10), (10, .tmp 11), (11, .tmp 12), (12, .tmp 13), (13, .tmp 14), (14, .tmp 15), (15, .tmp 16), (16, .tmp 17), (17, .tmp 18), (18, .tmp 19), (19, .tmp 20), (20, .tmp 21), (21, .tmp 22), (22, .tmp 23), (23, .tmp 24), (24, .tmp 25), (25, .tmp 26), (26, .tmp 27), (27, .tmp 28)] : Array (Nat × Operand)).map fun (i, x) => (i, a'.eval x)).toList, a'.tmps.size, a'.defers)) (some (flat11 rows2).toArray, 30, []) (by kernel_rfl) ?_
  intro a' ha
  simp only [Prod.mk.injEq] at ha
  obtain ⟨hf, hsz, hd⟩ := ha
  refine wpList_buildSlice rfl 68 28 _ rfl 51 Tryd.underlying68 11 Tryd.sizeOf51 _ Tryd.zeroValue51 (by omega) (by omega) (flat11 rows2).toArray hf ?_
  refine wpList_plain rfl fun K hK => ?_
  refine hK _ _ (wpList_nil ?_)
  refine wp_ret ?_
  refine bodyPost_ret (v := .slice (some ⟨w.heap.size, 0, none⟩) 28 28) ?_ hd ⟨rfl, rfl⟩
  simp [results, Tryd.results64, Act.put, Act.eval, hsz]

set_option maxRecDepth 100000 in
set_option maxHeartbeats 1600000 in
theorem pairs0_any (w : World) :
    Calls Tryd.prog 83 #[] w fun e W' => e = .returned (.slice (some ⟨w.heap.size, 0, none⟩) 40 40) ∧ W' = w.alloc (.cells (flat3 pairs0).toArray 92) := by
  go_enter Tryd.func83, Tryd.ntmps83
  refine wp_seq (wp_region_lit ?_)
  refine wpList_plain rfl fun K hK => ?_
  refine hK _ _ (wpList_nil ?_)
  refine wp_seq (wp_region_lit ?_)
  refine wpList_builds_g 40 (fun a' => (Instr.fill (fun i => some (i * 3, 3)) ((Array.range (40 * 3)).map ((#[.int .i32 0, .int .i32 0, .int .i32 0] : Array Value)[· % (#[.int .i32 0, .int .i32 0, .int .i32 0] : Array Value).size]!)) ((#[(0, .tmp 1), (1, .tmp 2), (2, .tmp 3), (3, .tmp 4), (4, .tmp 5), (5, .tmp 6), (6, .tmp 7), (7, .tmp 8), (8, .tmp 9), (9, .tmp 10), (10, .tmp 11), (11, .tmp 12), (12, .tmp 13), (13, .tmp 14), (14, .tmp 15), (15, .tmp 16), (16, .tmp 17), (17, .tmp 18), (18, .tmp 19), (19, .tmp 20), (20, .tmp 21), (21, .tmp 22), (22, .tmp 23), (23, .tmp 24), (24, .tmp 25), (25, .tmp 26), (26, .tmp 27), (27, .tmp 28), (28, .tmp 29), (29, .tmp 30), (30, .tmp 31), (31, .tmp 32), (32, .tmp 33), (33, .tmp 34), (34, .tmp 35), (35, .tmp 36), (36, .tmp 37), (37, .tmp 38), (38, .tmp 39), (39, .tmp 40)] : Array (Nat × Operand)).map fun (i, x) => (i, a'.eval x)).toList, a'.tmps.size, a'.defers)) (some (flat3 pairs0).toArray, 42, []) (by kernel_rfl) ?_
  intro a' ha
  simp only [Prod.mk.injEq] at ha
  obtain ⟨hf, hsz, hd⟩ := ha
  refine wpList_buildSlice rfl 90 40 _ rfl 92 Tryd.underlying90 3 Tryd.sizeOf92 _ Tryd.zeroValue92 (by omega) (by omega) (flat3 pairs0).toArray hf ?_
  refine wpList_plain rfl fun K hK => ?_
  refine hK _ _ (wpList_nil ?_)
  refine wp_ret ?_
  refine bodyPost_ret (v := .slice (some ⟨w.heap.size, 0, none⟩) 40 40) ?_ hd ⟨rfl, rfl⟩
  simp [results, Tryd.results83, Act.put, Act.eval, hsz]

set_option maxRecDepth 100000 in
set_option maxHeartbeats 1600000 in
theorem pairs1_any (w : World) :
    Calls Tryd.prog 84 #[] w fun e W' => e = .returned (.slice (some ⟨w.heap.size, 0, none⟩) 40 40) ∧ W' = w.alloc (.cells (flat3 pairs1).toArray 92) := by
  go_enter Tryd.func84, Tryd.ntmps84
  refine wp_seq (wp_region_lit ?_)
  refine wpList_plain rfl fun K hK => ?_
  refine hK _ _ (wpList_nil ?_)
  refine wp_seq (wp_region_lit ?_)
  refine wpList_builds_g 40 (fun a' => (Instr.fill (fun i => some (i * 3, 3)) ((Array.range (40 * 3)).map ((#[.int .i32 0, .int .i32 0, .int .i32 0] : Array Value)[· % (#[.int .i32 0, .int .i32 0, .int .i32 0] : Array Value).size]!)) ((#[(0, .tmp 1), (1, .tmp 2), (2, .tmp 3), (3, .tmp 4), (4, .tmp 5), (5, .tmp 6), (6, .tmp 7), (7, .tmp 8), (8, .tmp 9), (9, .tmp 10), (10, .tmp 11), (11, .tmp 12), (12, .tmp 13), (13, .tmp 14), (14, .tmp 15), (15, .tmp 16), (16, .tmp 17), (17, .tmp 18), (18, .tmp 19), (19, .tmp 20), (20, .tmp 21), (21, .tmp 22), (22, .tmp 23), (23, .tmp 24), (24, .tmp 25), (25, .tmp 26), (26, .tmp 27), (27, .tmp 28), (28, .tmp 29), (29, .tmp 30), (30, .tmp 31), (31, .tmp 32), (32, .tmp 33), (33, .tmp 34), (34, .tmp 35), (35, .tmp 36), (36, .tmp 37), (37, .tmp 38), (38, .tmp 39), (39, .tmp 40)] : Array (Nat × Operand)).map fun (i, x) => (i, a'.eval x)).toList, a'.tmps.size, a'.defers)) (some (flat3 pairs1).toArray, 42, []) (by kernel_rfl) ?_
  intro a' ha
  simp only [Prod.mk.injEq] at ha
  obtain ⟨hf, hsz, hd⟩ := ha
  refine wpList_buildSlice rfl 90 40 _ rfl 92 Tryd.underlying90 3 Tryd.sizeOf92 _ Tryd.zeroValue92 (by omega) (by omega) (flat3 pairs1).toArray hf ?_
  refine wpList_plain rfl fun K hK => ?_
  refine hK _ _ (wpList_nil ?_)
  refine wp_ret ?_
  refine bodyPost_ret (v := .slice (some ⟨w.heap.size, 0, none⟩) 40 40) ?_ hd ⟨rfl, rfl⟩
  simp [results, Tryd.results84, Act.put, Act.eval, hsz]
end Go.Proofs.YtpkegjbmnilmdaaDoor.D
/- The contracts of the document's Rows and Pairs. -/
namespace Go.Proofs.YtpkegjbmnilmdaaDoor.D
open Go.RowKit Go.Lib Go.Sort Go.Shelf
set_option linter.unusedVariables false

theorem Tryd.info51 : (Tryd.prog.info? 51).map (fun i => (i.zero, i.size, i.bytes)) = some (some (.agg #[.int .i32 0, .int .i32 0, .int .u8 0, .int .i32 0, .int .i32 0, .int .i32 0, .int .u8 0, .int .u8 0, .int .u8 0, .bool false, .int .u8 0]), 11, 32) := by kernel_rfl
theorem Tryd.info92 : (Tryd.prog.info? 92).map (fun i => (i.zero, i.size, i.bytes)) = some (some (.agg #[.int .i32 0, .int .i32 0, .int .i32 0]), 3, 12) := by kernel_rfl
theorem news_at (w : World) (t : TypeId) (l : List Value) : ∀ (j : Nat) (u : Value), l[j]? = some u → (w.alloc (.cells l.toArray t)).cell? ((⟨w.heap.size, 0, none⟩ : Addr).add j) = some u := by
  intro j u h
  have hb : (w.alloc (.cells l.toArray t)).heap[w.heap.size]? = some (.cells l.toArray t) := heap_alloc_last w _
  generalize w.alloc (.cells l.toArray t) = W at hb ⊢
  generalize w.heap.size = g at hb ⊢
  by_cases hj : j = 0
  · subst hj; simp [World.cell?, Addr.add, hb, h]
  · simp [World.cell?, Addr.add, hj, hb, h]
/-- A row of the call's own that is written leaves what lay below its base. -/
theorem below_grow {B : Nat} {w w1 w2 : World} {e : TypeId} {size : Nat} {v : Value} {n : Nat} {xs : List Value} (hB : Below B w w1) (hb : B ≤ w1.heap.size) (hown : w1.ownsRow B e size v n xs) (hg : w1.grownBy w2 v.ownBlock) : Below B w w2 :=
  hB.grown hg hb (fun j ej => by
    rcases hown.2 with ⟨rfl, _⟩ | ⟨g, cap, cur, rfl, hbg, _, _⟩
    · simp [Value.ownBlock] at ej
    · obtain rfl : g = j := by simpa [Value.ownBlock] using ej
      exact hbg)
theorem flat11_len (l : List Rr) : (flat11 l).length = l.length * 11 := by
  induction l with
  | nil => rfl
  | cons s l ih => simp only [flat11, List.flatMap_cons, List.length_append, List.length_cons] at ih ⊢; rw [ih]; simp [cells11]; omega
theorem flat11_one (l : List Rr) : ∀ u ∈ flat11 l, u.oneCell' = true := by
  intro u hu
  obtain ⟨s, _, hs⟩ := List.mem_flatMap.1 hu
  simp [cells11] at hs
  rcases hs with rfl | rfl | rfl | rfl | rfl | rfl | rfl | rfl | rfl | rfl | rfl <;> rfl
theorem flat3_one (l : List Tri) : ∀ u ∈ flat3 l, u.oneCell' = true := by
  intro u hu
  obtain ⟨s, _, hs⟩ := List.mem_flatMap.1 hu
  simp [cells3] at hs
  rcases hs with rfl | rfl | rfl <;> rfl
def rtab : List Rr := rows0 ++ rows1 ++ rows2
def ptab : List Tri := pairs0 ++ pairs1

set_option maxRecDepth 100000 in
set_option maxHeartbeats 1600000 in
theorem rows_any (w : World) :
    Calls Tryd.prog 45 #[] w fun e W' => (∃ v, e = .returned v ∧ W'.ownsRow w.heap.size 51 11 v 88 (flat11 rtab)) ∧ Below w.heap.size w W' := by
  obtain ⟨i0, hi, hz0, hz1, hz2⟩ := info_parts Tryd.info51
  obtain ⟨X0, hX0⟩ : ∃ X, X = flat11 rows0 := ⟨_, rfl⟩
  have hc0 := rows0_any
  rw [← hX0] at hc0
  have HC0 := hid' hc0
  have HL0 : Hid (X0.length = 330) := by show _ = _; rw [hX0]; kernel_rfl
  have HO0 : Hid (∀ u ∈ X0, u.oneCell' = true) := by show ∀ u ∈ X0, _; rw [hX0]; exact flat11_one _
  obtain ⟨X1, hX1⟩ : ∃ X, X = flat11 rows1 := ⟨_, rfl⟩
  have hc1 := rows1_any
  rw [← hX1] at hc1
  have HC1 := hid' hc1
  have HL1 : Hid (X1.length = 330) := by show _ = _; rw [hX1]; kernel_rfl
  have HO1 : Hid (∀ u ∈ X1, u.oneCell' = true) := by show ∀ u ∈ X1, _; rw [hX1]; exact flat11_one _
  obtain ⟨X2, hX2⟩ : ∃ X, X = flat11 rows2 := ⟨_, rfl⟩
  have hc2 := rows2_any
  rw [← hX2] at hc2
  have HC2 := hid' hc2
  have HL2 : Hid (X2.length = 308) := by show _ = _; rw [hX2]; kernel_rfl
  have HO2 : Hid (∀ u ∈ X2, u.oneCell' = true) := by show ∀ u ∈ X2, _; rw [hX2]; exact flat11_one _
  have HX : Hid (flat11 rtab = X0 ++ X1 ++ X2) := by show _ = _; rw [hX0, hX1, hX2]; kernel_rfl
  clear hc0 hX0 hc1 hX1 hc2 hX2
  go_enter Tryd.func45, Tryd.ntmps45
  go_wp2_with fail
  refine (HC0.out _).mono ?_
  rintro e w0 ⟨rfl, hw0⟩
  have hr0 : w0.ownsRow w.heap.size 51 11 (.slice (some ⟨w.heap.size, 0, none⟩) 30 30) 30 X0 := by
    rw [hw0]
    refine ⟨by have := HL0.out; omega, .inr ⟨w.heap.size, 30, X0.toArray, rfl, Nat.le_refl _, heap_alloc_last w _, Nat.le_refl _, by unfold maxLen; omega, by have := HL0.out; simp; omega, ?_⟩⟩
    exact List.take_of_length_le (by have := HL0.out; simp; omega)
  have hB0 : Below w.heap.size w w0 := by rw [hw0]; exact (Below.refl _ w).alloc (Nat.le_refl _) _
  clear hw0
  go_wp2_with fail
  refine (HC1.out _).mono ?_
  rintro e u1 ⟨rfl, hu1⟩
  have hs1 : u1.ownsRow w.heap.size 51 11 (.slice (some ⟨w.heap.size, 0, none⟩) 30 30) 30 (X0) := by rw [hu1]; exact hr0.alloc _
  have hb1 : Below w.heap.size w u1 := by rw [hu1]; exact hB0.alloc hB0.size _
  have hn1 : ∀ j y, X1[j]? = some y → u1.cell? ((⟨w0.heap.size, 0, none⟩ : Addr).add j) = some y := by rw [hu1]; exact news_at w0 51 X1
  have HN1 := hid' hn1
  clear hu1 hr0 hB0 hn1
  go_wp2_with ((at_builtin; refine wpList_append_own u1 rfl _ _ 68 rfl w.heap.size 51 i0 (.agg #[.int .i32 0, .int .i32 0, .int .u8 0, .int .i32 0, .int .i32 0, .int .i32 0, .int .u8 0, .int .u8 0, .int .u8 0, .bool false, .int .u8 0]) 11 32 Tryd.underlying68 hi hz0 hz1 hz2 rfl (by decide) _ 30 (X0) rfl hs1 ⟨w0.heap.size, 0, none⟩ 30 30 X1 rfl (by have := HL1.out; omega) HN1.out HO1.out (by unfold maxLen; omega) (by omega) (by have := hb1.size; omega) ?_; intro v1 w1 hr1 hg1 _; refine Hid.out ?_))
  refine hid' ?_
  have hB1 := below_grow hb1 hb1.size hs1 hg1
  clear hs1 hb1 hg1
  obtain ⟨a1, k1, rfl⟩ : ∃ a c, v1 = .slice a 60 c := by
    rcases hr1.2 with ⟨_, h⟩ | ⟨g, cap, cur, rfl, _⟩
    · omega
    · exact ⟨_, _, rfl⟩
  go_wp2_with fail
  refine (HC2.out _).mono ?_
  rintro e u2 ⟨rfl, hu2⟩
  have hs2 : u2.ownsRow w.heap.size 51 11 (.slice a1 60 k1) 60 (X0 ++ X1) := by rw [hu2]; exact hr1.alloc _
  have hb2 : Below w.heap.size w u2 := by rw [hu2]; exact hB1.alloc hB1.size _
  have hn2 : ∀ j y, X2[j]? = some y → u2.cell? ((⟨w1.heap.size, 0, none⟩ : Addr).add j) = some y := by rw [hu2]; exact news_at w1 51 X2
  have HN2 := hid' hn2
  clear hu2 hr1 hB1 hn2
  go_wp2_with ((at_builtin; refine wpList_append_own u2 rfl _ _ 68 rfl w.heap.size 51 i0 (.agg #[.int .i32 0, .int .i32 0, .int .u8 0, .int .i32 0, .int .i32 0, .int .i32 0, .int .u8 0, .int .u8 0, .int .u8 0, .bool false, .int .u8 0]) 11 32 Tryd.underlying68 hi hz0 hz1 hz2 rfl (by decide) _ 60 (X0 ++ X1) rfl hs2 ⟨w1.heap.size, 0, none⟩ 28 28 X2 rfl (by have := HL2.out; omega) HN2.out HO2.out (by unfold maxLen; omega) (by omega) (by have := hb2.size; omega) ?_; intro v2 w2 hr2 hg2 _; refine Hid.out ?_))
  refine hid' ?_
  have hB2 := below_grow hb2 hb2.size hs2 hg2
  clear hs2 hb2 hg2
  obtain ⟨a2, k2, rfl⟩ : ∃ a c, v2 = .slice a 88 c := by
    rcases hr2.2 with ⟨_, h⟩ | ⟨g, cap, cur, rfl, _⟩
    · omega
    · exact ⟨_, _, rfl⟩
  go_wp2
  go_ret
  exact ⟨⟨_, rfl, by rw [HX.out]; exact hr2⟩, hB2⟩

set_option maxRecDepth 100000 in
set_option maxHeartbeats 1600000 in
theorem pairs_any (w : World) :
    Calls Tryd.prog 70 #[] w fun e W' => (∃ v, e = .returned v ∧ W'.ownsRow w.heap.size 92 3 v 80 (flat3 ptab)) ∧ Below w.heap.size w W' := by
  obtain ⟨i0, hi, hz0, hz1, hz2⟩ := info_parts Tryd.info92
  obtain ⟨X0, hX0⟩ : ∃ X, X = flat3 pairs0 := ⟨_, rfl⟩
  have hc0 := pairs0_any
  rw [← hX0] at hc0
  have HC0 := hid' hc0
  have HL0 : Hid (X0.length = 120) := by show _ = _; rw [hX0]; kernel_rfl
  have HO0 : Hid (∀ u ∈ X0, u.oneCell' = true) := by show ∀ u ∈ X0, _; rw [hX0]; exact flat3_one _
  obtain ⟨X1, hX1⟩ : ∃ X, X = flat3 pairs1 := ⟨_, rfl⟩
  have hc1 := pairs1_any
  rw [← hX1] at hc1
  have HC1 := hid' hc1
  have HL1 : Hid (X1.length = 120) := by show _ = _; rw [hX1]; kernel_rfl
  have HO1 : Hid (∀ u ∈ X1, u.oneCell' = true) := by show ∀ u ∈ X1, _; rw [hX1]; exact flat3_one _
  have HX : Hid (flat3 ptab = X0 ++ X1) := by show _ = _; rw [hX0, hX1]; kernel_rfl
  clear hc0 hX0 hc1 hX1
  go_enter Tryd.func70, Tryd.ntmps70
  go_wp2_with fail
  refine (HC0.out _).mono ?_
  rintro e w0 ⟨rfl, hw0⟩
  have hr0 : w0.ownsRow w.heap.size 92 3 (.slice (some ⟨w.heap.size, 0, none⟩) 40 40) 40 X0 := by
    rw [hw0]
    refine ⟨by have := HL0.out; omega, .inr ⟨w.heap.size, 40, X0.toArray, rfl, Nat.le_refl _, heap_alloc_last w _, Nat.le_refl _, by unfold maxLen; omega, by have := HL0.out; simp; omega, ?_⟩⟩
    exact List.take_of_length_le (by have := HL0.out; simp; omega)
  have hB0 : Below w.heap.size w w0 := by rw [hw0]; exact (Below.refl _ w).alloc (Nat.le_refl _) _
  clear hw0
  go_wp2_with fail
  refine (HC1.out _).mono ?_
  rintro e u1 ⟨rfl, hu1⟩
  have hs1 : u1.ownsRow w.heap.size 92 3 (.slice (some ⟨w.heap.size, 0, none⟩) 40 40) 40 (X0) := by rw [hu1]; exact hr0.alloc _
  have hb1 : Below w.heap.size w u1 := by rw [hu1]; exact hB0.alloc hB0.size _
  have hn1 : ∀ j y, X1[j]? = some y → u1.cell? ((⟨w0.heap.size, 0, none⟩ : Addr).add j) = some y := by rw [hu1]; exact news_at w0 92 X1
  have HN1 := hid' hn1
  clear hu1 hr0 hB0 hn1
  go_wp2_with ((at_builtin; refine wpList_append_own u1 rfl _ _ 90 rfl w.heap.size 92 i0 (.agg #[.int .i32 0, .int .i32 0, .int .i32 0]) 3 12 Tryd.underlying90 hi hz0 hz1 hz2 rfl (by decide) _ 40 (X0) rfl hs1 ⟨w0.heap.size, 0, none⟩ 40 40 X1 rfl (by have := HL1.out; omega) HN1.out HO1.out (by unfold maxLen; omega) (by omega) (by have := hb1.size; omega) ?_; intro v1 w1 hr1 hg1 _; refine Hid.out ?_))
  refine hid' ?_
  have hB1 := below_grow hb1 hb1.size hs1 hg1
  clear hs1 hb1 hg1
  obtain ⟨a1, k1, rfl⟩ : ∃ a c, v1 = .slice a 80 c := by
    rcases hr1.2 with ⟨_, h⟩ | ⟨g, cap, cur, rfl, _⟩
    · omega
    · exact ⟨_, _, rfl⟩
  go_wp2
  go_ret
  exact ⟨⟨_, rfl, by rw [HX.out]; exact hr1⟩, hB1⟩
end Go.Proofs.YtpkegjbmnilmdaaDoor.D
/- The contracts of the document's Find and Map. -/
namespace Go.Proofs.YtpkegjbmnilmdaaDoor.D
open Go.RowKit Go.Lib Go.Sort Go.Shelf
set_option linter.unusedVariables false

def rz : Rr := (0, 0, 0, 0, 0, 0, 0, 0, 0, false, 0)
def inRr (r : Int) (x : Rr) : Bool := decide (x.1 ≤ r ∧ r ≤ x.2.1)
def rpk (d : List Rr) (r : Int) : Rr := (d.find? (inRr r)).getD rz
def rfnd (r : Int) : Rr := rpk rtab r
theorem rpk_hit {d : List Rr} {k : Nat} {r : Int} (hk : k < d.length) (h : (d[k]?.getD rz).1 ≤ r ∧ r ≤ (d[k]?.getD rz).2.1) : rpk (d.drop k) r = d[k]?.getD rz := by
  rw [List.drop_eq_getElem_cons hk]
  rw [List.getElem?_eq_getElem hk] at h ⊢
  simp only [Option.getD_some] at h ⊢
  unfold rpk
  rw [List.find?_cons_of_pos (by simpa [inRr] using h)]
  rfl
theorem rpk_miss {d : List Rr} {k : Nat} {r : Int} (hk : k < d.length) (h : ¬ ((d[k]?.getD rz).1 ≤ r ∧ r ≤ (d[k]?.getD rz).2.1)) : rpk (d.drop k) r = rpk (d.drop (k + 1)) r := by
  rw [List.drop_eq_getElem_cons hk]
  rw [List.getElem?_eq_getElem hk] at h
  simp only [Option.getD_some] at h
  unfold rpk
  rw [List.find?_cons_of_neg (by simpa [inRr] using h)]
theorem rpk_end {d : List Rr} {k : Nat} {r : Int} (hk : d.length ≤ k) : rpk (d.drop k) r = rz := by
  rw [List.drop_of_length_le hk]; rfl
theorem flat11_get (l : List Rr) : ∀ j i, j < l.length → i < 11 → (flat11 l)[j * 11 + i]? = (cells11 (l[j]?.getD rz))[i]? := by
  induction l with
  | nil => intro j i hj; simp at hj
  | cons s l ih =>
    intro j i hj hi
    have e : flat11 (s :: l) = cells11 s ++ flat11 l := rfl
    have hl8 : (cells11 s).length = 11 := rfl
    rcases j with _ | j
    · rw [e, List.getElem?_append_left (by omega)]
      simp
    · have h := ih j i (by simpa using hj) hi
      rw [e, List.getElem?_append_right (by omega), hl8, show (j + 1) * 11 + i - 11 = j * 11 + i by omega, h]
      simp
theorem rtab_len : rtab.length = 88 := by decide

set_option maxRecDepth 100000 in
set_option maxHeartbeats 1600000 in
theorem rfind_any (r : Int) (w : World) :
    Calls Tryd.prog 28 #[.int .i32 r] w fun e W' => e = .returned (.agg (cells11 (rfnd r)).toArray) ∧ Below w.heap.size w W' := by
  obtain ⟨F, hF⟩ : ∃ F, F = rfnd r := ⟨_, rfl⟩
  have HF : Hid (rpk (rtab.drop 0) r = F) := hF.symm
  rw [← hF]
  clear hF
  have HI : Hid ((Tryd.prog.info? 51).map (·.size) = some 11) := by show _ = _; kernel_rfl
  go_enter Tryd.func28, Tryd.ntmps28
  go_wp2_with fail
  refine (rows_any _).mono ?_
  rintro e w1 ⟨⟨v, rfl, hown⟩, hB1⟩
  have hcell1 : w1.heap[w.heap.size]? = some (.cells #[.int .i32 0, .int .i32 0, .int .u8 0, .int .i32 0, .int .i32 0, .int .i32 0, .int .u8 0, .int .u8 0, .int .u8 0, .bool false, .int .u8 0] 51) := by
    rw [hB1.block _ (by simp)]; exact heap_alloc_last w _
  have hBw : Below w.heap.size w w1 := ((Below.refl _ w).alloc (Nat.le_refl _) _).trans (hB1.mono (by simp))
  obtain ⟨g, cap, rfl⟩ : ∃ g cap, v = .slice (some ⟨g, 0, none⟩) 88 cap := by
    rcases hown.2 with ⟨_, h⟩ | ⟨g, cap, cur, rfl, _⟩
    · omega
    · exact ⟨g, cap, rfl⟩
  have HC : Hid (∀ k i, k < 88 → i < 11 → w1.cell? ⟨g, k * 11 + i, none⟩ = (cells11 (rtab[k]?.getD rz))[i]?) := by
    intro k i hk hi
    rw [hown.cellAt (k * 11 + i) (by omega), flat11_get rtab k i (by rw [rtab_len]; omega) hi]
  have HCELL := hid' hcell1
  have HBW := hid' hBw
  clear hcell1 hBw hB1 hown
  have hfin : Hid (∀ (cs : Array Value) (tm : Array Value), tm.getD 2 undef = .pointer (some ⟨w.heap.size, 0, none⟩) → cs.size = 11 → (results Tryd.f28 tm).run Tryd.prog (w1.setRow w.heap.size cs) = .ok (.agg cs) (w1.setRow w.heap.size cs)) := by
    intro cs tm h1 h2
    exact results_cell_row Tryd.results28 tm _ w.heap.size 51 cs (0, 0) _ h1 (setRow_heap w1 _ _ cs 51 (0, 0) HCELL.out) Tryd.underlying51 rfl (by rw [h2]; exact HI.out)
  go_wp2_with fail
  go_loop [4] (fun i => ∃ k : Nat, k ≤ 88 ∧ i = .int .i64 k ∧ Hid (rpk (rtab.drop k) r = F)) (fun i => 88 - (intOf i).toNat)
  case atStart => exact ⟨0, by omega, rfl, HF⟩
  case round =>
    obtain ⟨k, hk, rfl, HR⟩ := hrel
    clear HF
    by_cases hlt : k < 88
    · have hlt' : (k : Int) < 88 := by omega
      obtain ⟨x, hx⟩ : ∃ x, x = rtab[k]?.getD rz := ⟨_, rfl⟩
      have hcells := fun i hi => HC.out k i hlt hi
      rw [← hx] at hcells
      have hhit := @rpk_hit rtab k r (by rw [rtab_len]; exact hlt)
      have hmiss := @rpk_miss rtab k r (by rw [rtab_len]; exact hlt)
      rw [← hx] at hhit hmiss
      obtain ⟨x0, x1, x2, x3, x4, x5, x6, x7, x8, x9, x10⟩ := x
      have c0 : w1.cell? ⟨g, k * 11, none⟩ = some (.int .i32 x0) := hcells 0 (by omega)
      have c1 : w1.cell? ⟨g, k * 11 + 1, none⟩ = some (.int .i32 x1) := hcells 1 (by omega)
      obtain ⟨cs, hcs⟩ : ∃ cs : List Value, cs = cells11 (x0, x1, x2, x3, x4, x5, x6, x7, x8, x9, x10) := ⟨_, rfl⟩
      have HRA : Hid (w1.rangeAt g (k * 11) cs) := by
        intro j v hv
        have hj : j < 11 := by have := (List.getElem?_eq_some_iff.1 hv).1; rw [hcs] at this; simpa [cells11] using this
        rw [hcells j hj, ← hv, hcs]
      have HCS : Hid (cs.toArray.size = 11) := by show _ = _; rw [hcs]; rfl
      have HCO : Hid (cs.toArray.all (·.oneCell') = true) := by show _ = _; rw [hcs]; kernel_rfl
      have HCE := hid' hcs
      dsimp only at hhit hmiss
      have HH := hid' hhit
      have HM := hid' hmiss
      clear hx hhit hmiss hcells hcs
      by_cases h1 : x0 ≤ r
      · have h1b : decide (x0 ≤ r) = true := by simpa using h1
        by_cases h2 : r ≤ x1
        · have h2b : decide (r ≤ x1) = true := by simpa using h2
          have HE : Hid (F = (x0, x1, x2, x3, x4, x5, x6, x7, x8, x9, x10)) := by show _ = _; rw [← HR.out, HH.out ⟨h1, h2⟩]
          clear HR HH HM
          go_wp2_with ((refine wpList_load_mid rfl 51 (.tmp 30) rfl g (k * 11) (by rfl) cs _ HRA.out Tryd.underlying51 (by rfl) (by exact HI.out.trans (by rw [← HCS.out]; rfl)) ?_; refine wpList_store_row rfl 51 (.tmp 2) (.tmp 31) rfl w.heap.size cs.toArray (by rfl) (by rfl) 51 _ (by exact HCELL.out) (by exact HI.out.trans (by rw [HCS.out])) (by exact HCS.out.symm) (by exact HCO.out) (wpList_nil ?_)))
          exact bodyPost_ret (hfin.out cs.toArray _ rfl HCS.out) rfl ⟨by rw [HE.out, HCE.out], below_setRow HBW.out (Nat.le_refl _)⟩
        · have h2b : decide (r ≤ x1) = false := by simpa using h2
          have HE : Hid (rpk (rtab.drop (k + 1)) r = F) := by show _ = _; rw [← HM.out (fun h => h2 h.2)]; exact HR.out
          clear HR HH HM
          go_wp2
          go_round
          case rel => exact ⟨k + 1, by omega, by go_num, HE⟩
          case measure => simp [intOf]; omega
      · have h1b : decide (x0 ≤ r) = false := by simpa using h1
        have HE : Hid (rpk (rtab.drop (k + 1)) r = F) := by show _ = _; rw [← HM.out (fun h => h1 h.1)]; exact HR.out
        clear HR HH HM
        go_wp2
        go_round
        case rel => exact ⟨k + 1, by omega, by go_num, HE⟩
        case measure => simp [intOf]; omega
    · have hlt' : ¬ (k : Int) < 88 := by omega
      have HE : Hid (F = rz) := by show _ = _; rw [← HR.out]; exact rpk_end (by rw [rtab_len]; omega)
      clear HR
      go_wp2_with ((refine wpList_store_row rfl 51 (.tmp 2) (.tmp 32) rfl w.heap.size #[.int .i32 0, .int .i32 0, .int .u8 0, .int .i32 0, .int .i32 0, .int .i32 0, .int .u8 0, .int .u8 0, .int .u8 0, .bool false, .int .u8 0] rfl rfl 51 _ (by exact HCELL.out) (by exact HI.out) (by rfl) (by kernel_rfl) (wpList_nil ?_)))
      exact bodyPost_ret (hfin.out _ _ rfl rfl) rfl ⟨by rw [HE.out]; rfl, below_setRow HBW.out (Nat.le_refl _)⟩
end Go.Proofs.YtpkegjbmnilmdaaDoor.D
/- Plain: the document's answers are the program's. -/
namespace Go.Proofs.YtpkegjbmnilmdaaDoor.D
open Go.RowKit Go.Lib Go.Sort Go.Shelf
set_option linter.unusedVariables false

def prj (x : Rr) : Rw := (x.1, x.2.1, x.2.2.1, x.2.2.2.2.2.2.1, x.2.2.2.2.2.2.2.1, x.2.2.2.2.2.2.2.2.1, x.2.2.2.2.2.2.2.2.2.1, x.2.2.2.2.2.2.2.2.2.2)
def tab : List Rw := latin ++ greek ++ hebrew ++ later
theorem tab_prj : tab = rtab.map prj := by kernel_rfl
theorem none_lo {d : List Rw} {m r : Int} (h : ∀ x ∈ d, m ≤ x.1) (hr : r < m) : d.find? (inRow r) = none := by
  rw [List.find?_eq_none]
  intro x hx
  have := h x hx
  simp [inRow]; omega
theorem none_hi {d : List Rw} {m r : Int} (h : ∀ x ∈ d, x.2.1 < m) (hr : m ≤ r) : d.find? (inRow r) = none := by
  rw [List.find?_eq_none]
  intro x hx
  have := h x hx
  simp [inRow]; omega
theorem fnd_tab (r : Int) : fnd r = pickR tab r := by
  have g0 : ∀ x ∈ greek, (768 : Int) ≤ x.1 := by decide
  have g1 : ∀ x ∈ hebrew, (1424 : Int) ≤ x.1 := by decide
  have g2 : ∀ x ∈ later, (7680 : Int) ≤ x.1 := by decide
  have k0 : ∀ x ∈ latin, x.2.1 < (768 : Int) := by decide
  have k1 : ∀ x ∈ greek, x.2.1 < (1424 : Int) := by decide
  have k2 : ∀ x ∈ hebrew, x.2.1 < (7680 : Int) := by decide
  unfold fnd pickR tab
  simp only [List.find?_append]
  by_cases h1 : r < 768
  · rw [if_pos h1, none_lo g0 h1, none_lo (m := 1424) g1 (by omega), none_lo (m := 7680) g2 (by omega)]
    simp
  · rw [if_neg h1, none_hi k0 (by omega)]
    by_cases h2 : r < 1424
    · rw [if_pos h2, none_lo g1 h2, none_lo (m := 7680) g2 (by omega)]
      simp
    · rw [if_neg h2, none_hi k1 (by omega)]
      by_cases h3 : r < 7680
      · rw [if_pos h3, none_lo g2 h3]
        simp
      · rw [if_neg h3, none_hi k2 (by omega)]
        simp
theorem fnd_prj (r : Int) : fnd r = prj (rfnd r) := by
  rw [fnd_tab, tab_prj]
  unfold pickR rfnd rpk
  rw [List.find?_map]
  have : (inRow r ∘ prj) = inRr r := rfl
  rw [this]
  cases rtab.find? (inRr r) <;> rfl
theorem rfnd_mem (r : Int) : rfnd r = rz ∨ (rfnd r ∈ rtab ∧ (rfnd r).1 ≤ r ∧ r ≤ (rfnd r).2.1) := by
  unfold rfnd rpk
  cases h : rtab.find? (inRr r) with
  | none => exact .inl rfl
  | some x =>
    refine .inr ⟨List.mem_of_find?_eq_some h, ?_⟩
    have := List.find?_some h
    simpa [inRr] using this
theorem ptab_prs : ptab = prs := by kernel_rfl
theorem ptab_len : ptab.length = 80 := by decide
def rdcp (r : Int) : List Int := match ptab.find? (fun x => x.1 == r) with
  | some p => [p.2.1, p.2.2]
  | none => if sgl r ≠ 0 then [sgl r] else []
theorem rdcp_eq (r : Int) : rdcp r = dcp r := by
  unfold rdcp dcp
  rw [ptab_prs]
  cases h : prs.find? (fun x => x.1 == r) with
  | none => rfl
  | some p =>
    have hm := List.mem_of_find?_eq_some h
    have he : p.1 = r := by simpa using List.find?_some h
    have : (prs.all fun p => decide (sgl p.1 = 0)) = true := by kernel_rfl
    have h0 := List.all_eq_true.1 this p hm
    rw [he] at h0
    have h1 : sgl r = 0 := by simpa using h0
    simp [h1]
end Go.Proofs.YtpkegjbmnilmdaaDoor.D
