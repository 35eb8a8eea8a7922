/- The document's tables: rows0 to rows2, pairs0, pairs1, Rows, Pairs. -/
import Derived.Test.YtcgfbejcehiolaaDG
namespace Go.Proofs.Ytcgfbejcehiolaa.D
open Go.RowKit Go.Lib Go.Sort Go.Shelf
set_option linter.unusedVariables false

theorem wpList_builds_g {α : Type} {P : Program} {ops : Array Oper} {Q : Exit → Act → World → Prop} {a : Act} {w : World} {l : List Oper} (n : Nat) (g : Act → α) (v : α)
    (hb : (runBuilds P (l.take n) a).map g = some v)
    (h : ∀ a', g a' = v → wpList P ops Q (l.drop n) a' w) : wpList P ops Q l a w := by
  cases hr : runBuilds P (l.take n) a with
  | none => rw [hr] at hb; cases hb
  | some a' =>
    rw [hr] at hb
    simp only [Option.map_some, Option.some.injEq] at hb
    have := wpList_builds (P := P) (ops := ops) (Q := Q) (w := w) (rest := l.drop n) (l.take n) a a' hr (h a' hb)
    rwa [List.take_append_drop] at this
theorem wpList_buildSlice {P : Program} {ops : Array Oper} {Q : Exit → Act → World → Prop} {a : Act} {w : World} {rest : List Oper} {o : Oper} (hg : o.guard = none) (t : TypeId) (len : Nat) (parts : Array (Nat × Operand)) (ho : o.op = .buildSlice t len parts)
    (e : TypeId) (hu : P.underlying t = some (.slice e)) (size : Nat) (hs : ∀ w, (sizeOf e).run P w = .ok size w) (z : Array Value) (hz : ∀ w, (zeroValue e).run P w = .ok (.agg z) w)
    (hn : len * size ≤ 16777216) (h0 : ¬ len * size = 0) (cells : Array Value)
    (hf : Instr.fill (fun i => some (i * size, size)) ((Array.range (len * size)).map (z[· % z.size]!)) (parts.map fun (i, x) => (i, a.eval x)).toList = some cells)
    (h : wpList P ops Q rest (a.put o.dst (.slice (some ⟨w.heap.size, 0, none⟩) len len)) (w.alloc (.cells cells e))) : wpList P ops Q (o :: rest) a w := by
  refine wpList_plain hg fun K hK => ?_
  unfold Oper.wp execOp
  have hr : (Instr.buildSlice t len (parts.map fun (i, x) => (i, a.eval x))).run P w = .ok (.slice (some ⟨w.heap.size, 0, none⟩) len len) (w.alloc (.cells cells e)) := by
    have hn' : ¬ len * size > 2 ^ 24 := by omega
    simp only [Instr.buildSlice, Sem.run_bind, run_underlying hu, hs, Result.andThen_ok, if_neg hn', if_neg h0, hz, Value.cells]
    simp only [Sem.run_pure, Result.andThen_ok, hf]
    simp [newRow]
  simp only [ho, Sem.run_bind, hr, Result.andThen_ok]
  exact hK _ _ h

set_option maxRecDepth 100000 in
set_option maxHeartbeats 1600000 in
theorem rows0_any (w : World) :
    Calls Try.prog 49 #[] w fun e W' => e = .returned (.slice (some ⟨w.heap.size, 0, none⟩) 30 30) ∧ W' = w.alloc (.cells (flat11 rows0).toArray 30) := by
  go_enter Try.func49, Try.ntmps49
  refine wp_seq (wp_region_lit ?_)
  refine wpList_plain rfl fun K hK => ?_
  refine hK _ _ (wpList_nil ?_)
  refine wp_seq (wp_region_lit ?_)
  refine wpList_builds_g 30 (fun a' => (Instr.fill (fun i => some (i * 11, 11)) ((Array.range (30 * 11)).map ((#[.int .i32 0, .int .i32 0, .int .u8 0, .int .i32 0, .int .i32 0, .int .i32 0, .int .u8 0, .int .u8 0, .int .u8 0, .bool false, .int .u8 0] : Array Value)[· % (#[.int .i32 0, .int .i32 0, .int .u8 0, .int .i32 0, .int .i32 0, .int .i32 0, .int .u8 0, .int .u8 0, .int .u8 0, .bool false, .int .u8 0] : Array Value).size]!)) ((#[(0, .tmp 1), (1, .tmp 2), (2, .tmp 3), (3, .tmp 4), (4, .tmp 5), (5, .tmp 6), (6, .tmp 7), (7, .tmp 8), (8, .tmp 9), (9, .tmp 10), (10, .tmp 11), (11, .tmp 12), (12, .tmp 13), (13, .tmp 14), (14, .tmp 15), (15, .tmp 16), (16, .tmp 17), (17, .tmp 18), (18, .tmp 19), (19, .tmp 20), (20, .tmp 21), (21, .tmp 22), (22, .tmp 23), (23, .tmp 24), (24, .tmp 25), (25, .tmp 26), (26, .tmp 27), (27, .tmp 28), (28, .tmp 29), (29, .tmp 30)] : Array (Nat × Operand)).map fun (i, x) => (i, a'.eval x)).toList, a'.tmps.size, a'.defers)) (some (flat11 rows0).toArray, 32, []) (by kernel_rfl) ?_
  intro a' ha
  simp only [Prod.mk.injEq] at ha
  obtain ⟨hf, hsz, hd⟩ := ha
  refine wpList_buildSlice rfl 49 30 _ rfl 30 Try.underlying49 11 Try.sizeOf30 _ Try.zeroValue30 (by omega) (by omega) (flat11 rows0).toArray hf ?_
  refine wpList_plain rfl fun K hK => ?_
  refine hK _ _ (wpList_nil ?_)
  refine wp_ret ?_
  refine bodyPost_ret (v := .slice (some ⟨w.heap.size, 0, none⟩) 30 30) ?_ hd ⟨rfl, rfl⟩
  simp [results, Try.results49, Act.put, Act.eval, hsz]

set_option maxRecDepth 100000 in
set_option maxHeartbeats 1600000 in
theorem rows1_any (w : World) :
    Calls Try.prog 50 #[] w fun e W' => e = .returned (.slice (some ⟨w.heap.size, 0, none⟩) 30 30) ∧ W' = w.alloc (.cells (flat11 rows1).toArray 30) := by
  go_enter Try.func50, Try.ntmps50
  refine wp_seq (wp_region_lit ?_)
  refine wpList_plain rfl fun K hK => ?_
  refine hK _ _ (wpList_nil ?_)
  refine wp_seq (wp_region_lit ?_)
  refine wpList_builds_g 30 (fun a' => (Instr.fill (fun i => some (i * 11, 11)) ((Array.range (30 * 11)).map ((#[.int .i32 0, .int .i32 0, .int .u8 0, .int .i32 0, .int .i32 0, .int .i32 0, .int .u8 0, .int .u8 0, .int .u8 0, .bool false, .int .u8 0] : Array Value)[· % (#[.int .i32 0, .int .i32 0, .int .u8 0, .int .i32 0, .int .i32 0, .int .i32 0, .int .u8 0, .int .u8 0, .int .u8 0, .bool false, .int .u8 0] : Array Value).size]!)) ((#[(0, .tmp 1), (1, .tmp 2), (2, .tmp 3), (3, .tmp 4), (4, .tmp 5), (5, .tmp 6), (6, .tmp 7), (7, .tmp 8), (8, .tmp 9), (9, .tmp 10), (10, .tmp 11), (11, .tmp 12), (12, .tmp 13), (13, .tmp 14), (14, .tmp 15), (15, .tmp 16), (16, .tmp 17), (17, .tmp 18), (18, .tmp 19), (19, .tmp 20), (20, .tmp 21), (21, .tmp 22), (22, .tmp 23), (23, .tmp 24), (24, .tmp 25), (25, .tmp 26), (26, .tmp 27), (27, .tmp 28), (28, .tmp 29), (29, .tmp 30)] : Array (Nat × Operand)).map fun (i, x) => (i, a'.eval x)).toList, a'.tmps.size, a'.defers)) (some (flat11 rows1).toArray, 32, []) (by kernel_rfl) ?_
  intro a' ha
  simp only [Prod.mk.injEq] at ha
  obtain ⟨hf, hsz, hd⟩ := ha
  refine wpList_buildSlice rfl 49 30 _ rfl 30 Try.underlying49 11 Try.sizeOf30 _ Try.zeroValue30 (by omega) (by omega) (flat11 rows1).toArray hf ?_
  refine wpList_plain rfl fun K hK => ?_
  refine hK _ _ (wpList_nil ?_)
  refine wp_ret ?_
  refine bodyPost_ret (v := .slice (some ⟨w.heap.size, 0, none⟩) 30 30) ?_ hd ⟨rfl, rfl⟩
  simp [results, Try.results50, Act.put, Act.eval, hsz]

set_option maxRecDepth 100000 in
set_option maxHeartbeats 1600000 in
theorem rows2_any (w : World) :
    Calls Try.prog 51 #[] w fun e W' => e = .returned (.slice (some ⟨w.heap.size, 0, none⟩) 28 28) ∧ W' = w.alloc (.cells (flat11 rows2).toArray 30) := by
  go_enter Try.func51, Try.ntmps51
  refine wp_seq (wp_region_lit ?_)
  refine wpList_plain rfl fun K hK => ?_
  refine hK _ _ (wpList_nil ?_)
  refine wp_seq (wp_region_lit ?_)
  refine wpList_builds_g 28 (fun a' => (Instr.fill (fun i => some (i * 11, 11)) ((Array.range (28 * 11)).map ((#[.int .i32 0, .int .i32 0, .int .u8 0, .int .i32 0, .int .i32 0, .int .i32 0, .int .u8 0, .int .u8 0, .int .u8 0, .bool false, .int .u8 0] : Array Value)[· % (#[.int .i32 0, .int .i32 0, .int .u8 0, .int .i32 0, .int .i32 0, .int .i32 0, .int .u8 0, .int .u8 0, .int .u8 0, .bool false, .int .u8 0] : Array Value).size]!)) ((#[(0, .tmp 1), (1, .tmp 2), (2, .tmp 3), (3, .tmp 4), (4, .tmp 5), (5, .tmp 6), (6, .tmp 7), (7, .tmp 8), (8, .tmp 9), (9, .tmp 10), (10, .tmp 11), (11, .tmp 12), (12, .tmp 13), (13, .tmp 14), (14, .tmp 15), (15, .tmp 16), (16, .tmp 17), (17, .tmp 18), (18, .tmp 19), (19, .tmp 20), (20, .tmp 21), (21, .tmp 22), (22, .tmp 23), (23, .tmp 24), (24, .tmp 25), (25, .tmp 26), (26, .tmp 27), (27, .tmp 28)] : Array (Nat × Operand)).map fun (i, x) => (i, a'.eval x)).toList, a'.tmps.size, a'.defers)) (some (flat11 rows2).toArray, 30, []) (by kernel_rfl) ?_
  intro a' ha
  simp only [Prod.mk.injEq] at ha
  obtain ⟨hf, hsz, hd⟩ := ha
  refine wpList_buildSlice rfl 49 28 _ rfl 30 Try.underlying49 11 Try.sizeOf30 _ Try.zeroValue30 (by omega) (by omega) (flat11 rows2).toArray hf ?_
  refine wpList_plain rfl fun K hK => ?_
  refine hK _ _ (wpList_nil ?_)
  refine wp_ret ?_
  refine bodyPost_ret (v := .slice (some ⟨w.heap.size, 0, none⟩) 28 28) ?_ hd ⟨rfl, rfl⟩
  simp [results, Try.results51, Act.put, Act.eval, hsz]

set_option maxRecDepth 100000 in
set_option maxHeartbeats 1600000 in
theorem pairs0_any (w : World) :
    Calls Try.prog 52 #[] w fun e W' => e = .returned (.slice (some ⟨w.heap.size, 0, none⟩) 40 40) ∧ W' = w.alloc (.cells (flat3 pairs0).toArray 53) := by
  go_enter Try.func52, Try.ntmps52
  refine wp_seq (wp_region_lit ?_)
  refine wpList_plain rfl fun K hK => ?_
  refine hK _ _ (wpList_nil ?_)
  refine wp_seq (wp_region_lit ?_)
  refine wpList_builds_g 40 (fun a' => (Instr.fill (fun i => some (i * 3, 3)) ((Array.range (40 * 3)).map ((#[.int .i32 0, .int .i32 0, .int .i32 0] : Array Value)[· % (#[.int .i32 0, .int .i32 0, .int .i32 0] : Array Value).size]!)) ((#[(0, .tmp 1), (1, .tmp 2), (2, .tmp 3), (3, .tmp 4), (4, .tmp 5), (5, .tmp 6), (6, .tmp 7), (7, .tmp 8), (8, .tmp 9), (9, .tmp 10), (10, .tmp 11), (11, .tmp 12), (12, .tmp 13), (13, .tmp 14), (14, .tmp 15), (15, .tmp 16), (16, .tmp 17), (17, .tmp 18), (18, .tmp 19), (19, .tmp 20), (20, .tmp 21), (21, .tmp 22), (22, .tmp 23), (23, .tmp 24), (24, .tmp 25), (25, .tmp 26), (26, .tmp 27), (27, .tmp 28), (28, .tmp 29), (29, .tmp 30), (30, .tmp 31), (31, .tmp 32), (32, .tmp 33), (33, .tmp 34), (34, .tmp 35), (35, .tmp 36), (36, .tmp 37), (37, .tmp 38), (38, .tmp 39), (39, .tmp 40)] : Array (Nat × Operand)).map fun (i, x) => (i, a'.eval x)).toList, a'.tmps.size, a'.defers)) (some (flat3 pairs0).toArray, 42, []) (by kernel_rfl) ?_
  intro a' ha
  simp only [Prod.mk.injEq] at ha
  obtain ⟨hf, hsz, hd⟩ := ha
  refine wpList_buildSlice rfl 51 40 _ rfl 53 Try.underlying51 3 Try.sizeOf53 _ Try.zeroValue53 (by omega) (by omega) (flat3 pairs0).toArray hf ?_
  refine wpList_plain rfl fun K hK => ?_
  refine hK _ _ (wpList_nil ?_)
  refine wp_ret ?_
  refine bodyPost_ret (v := .slice (some ⟨w.heap.size, 0, none⟩) 40 40) ?_ hd ⟨rfl, rfl⟩
  simp [results, Try.results52, Act.put, Act.eval, hsz]

set_option maxRecDepth 100000 in
set_option maxHeartbeats 1600000 in
theorem pairs1_any (w : World) :
    Calls Try.prog 53 #[] w fun e W' => e = .returned (.slice (some ⟨w.heap.size, 0, none⟩) 40 40) ∧ W' = w.alloc (.cells (flat3 pairs1).toArray 53) := by
  go_enter Try.func53, Try.ntmps53
  refine wp_seq (wp_region_lit ?_)
  refine wpList_plain rfl fun K hK => ?_
  refine hK _ _ (wpList_nil ?_)
  refine wp_seq (wp_region_lit ?_)
  refine wpList_builds_g 40 (fun a' => (Instr.fill (fun i => some (i * 3, 3)) ((Array.range (40 * 3)).map ((#[.int .i32 0, .int .i32 0, .int .i32 0] : Array Value)[· % (#[.int .i32 0, .int .i32 0, .int .i32 0] : Array Value).size]!)) ((#[(0, .tmp 1), (1, .tmp 2), (2, .tmp 3), (3, .tmp 4), (4, .tmp 5), (5, .tmp 6), (6, .tmp 7), (7, .tmp 8), (8, .tmp 9), (9, .tmp 10), (10, .tmp 11), (11, .tmp 12), (12, .tmp 13), (13, .tmp 14), (14, .tmp 15), (15, .tmp 16), (16, .tmp 17), (17, .tmp 18), (18, .tmp 19), (19, .tmp 20), (20, .tmp 21), (21, .tmp 22), (22, .tmp 23), (23, .tmp 24), (24, .tmp 25), (25, .tmp 26), (26, .tmp 27), (27, .tmp 28), (28, .tmp 29), (29, .tmp 30), (30, .tmp 31), (31, .tmp 32), (32, .tmp 33), (33, .tmp 34), (34, .tmp 35), (35, .tmp 36), (36, .tmp 37), (37, .tmp 38), (38, .tmp 39), (39, .tmp 40)] : Array (Nat × Operand)).map fun (i, x) => (i, a'.eval x)).toList, a'.tmps.size, a'.defers)) (some (flat3 pairs1).toArray, 42, []) (by kernel_rfl) ?_
  intro a' ha
  simp only [Prod.mk.injEq] at ha
  obtain ⟨hf, hsz, hd⟩ := ha
  refine wpList_buildSlice rfl 51 40 _ rfl 53 Try.underlying51 3 Try.sizeOf53 _ Try.zeroValue53 (by omega) (by omega) (flat3 pairs1).toArray hf ?_
  refine wpList_plain rfl fun K hK => ?_
  refine hK _ _ (wpList_nil ?_)
  refine wp_ret ?_
  refine bodyPost_ret (v := .slice (some ⟨w.heap.size, 0, none⟩) 40 40) ?_ hd ⟨rfl, rfl⟩
  simp [results, Try.results53, Act.put, Act.eval, hsz]
end Go.Proofs.Ytcgfbejcehiolaa.D
