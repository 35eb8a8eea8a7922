/- Two tokens held against each other; the document's Same. (Stage 15.) -/
import Derived.Test.YtphkdagapoonjaaDoorLRE
import Derived.WalkLawsBesides
namespace Go.Proofs.YtphkdagapoonjaaDoor.Lx
open Go.RowKit
open Go.Proofs.YtphkdagapoonjaaDoor.F (bn bn_length bn_append bn_inj bn_get byte_bd hid bn_extract isEmpty_false isEmpty_true str_eq same_eq)
open Go.Proofs.YtphkdagapoonjaaDoor.U (nx enc encs scal Bytes)
set_option linter.unusedVariables false

theorem part_one (t : TypeId) (ht : ∀ w, (isAgg t).run Tryd.prog w = .ok false w) (xs : Array Value) (i : Nat) (x : Value) (h : xs[i]? = some x) (w : World) : (part t xs i).run Tryd.prog w = .ok x w := by
  unfold part
  simp [h, ht w, Sem.run_bind]
theorem fields_tok : ((Tryd.prog.fieldsOf 35).toList.map fun f => (f.type, f.offset, decide (f.name = "_"))) = [(5, 0, false), (9, 1, false), (3, 2, false), (3, 3, false)] := by kernel_rfl
abbrev tcs (t : Tb) : Array Value := #[.int .u8 (t.k : Nat), .string t.x, .int .i64 t.n, .int .i64 t.a]
/-- Whether two tokens are one. -/
def eqt (a b : Tb) : Bool := ((a.k : Int) == (b.k : Int)) && (a.x.toList == b.x.toList) && (a.n == b.n) && (a.a == b.a)
theorem eq_tok (a b : Tb) (w : World) : (Op.equalIn 10000 35 (.agg (tcs a)) (.agg (tcs b))).run Tryd.prog w = .ok (eqt a b) w := by
  rw [run_equalIn_struct w 9999 35 _ _ (by kernel_rfl) (by kernel_rfl)]
  have hf := fields_tok
  generalize (Tryd.prog.fieldsOf 35).toList = fs at hf ⊢
  match fs, hf with
  | [], hf => cases hf
  | [_], hf => simp at hf
  | [_, _], hf => simp at hf
  | [_, _, _], hf => simp at hf
  | _ :: _ :: _ :: _ :: _ :: _, hf => simp at hf
  | [f0, f1, f2, f3], hf =>
    simp only [List.map_cons, List.map_nil, List.cons.injEq, Prod.mk.injEq, decide_eq_false_iff_not, and_true] at hf
    obtain ⟨⟨t0, o0, n0⟩, ⟨t1, o1, n1⟩, ⟨t2, o2, n2⟩, ⟨t3, o3, n3⟩⟩ := hf
    have g8 : ∀ w, (isAgg 5).run Tryd.prog w = .ok false w := fun w => by kernel_rfl
    have gs : ∀ w, (isAgg 9).run Tryd.prog w = .ok false w := fun w => by kernel_rfl
    have gi : ∀ w, (isAgg 3).run Tryd.prog w = .ok false w := fun w => by kernel_rfl
    simp only [Op.eqFields, ne_eq, n0, n1, n2, n3, not_false_eq_true, if_true, t0, t1, t2, t3, o0, o1, o2, o3, Sem.run_bind]
    rw [part_one _ g8 _ 0 (.int .u8 (a.k : Nat)) rfl, Result.andThen_ok, part_one _ g8 _ 0 (.int .u8 (b.k : Nat)) rfl, Result.andThen_ok, run_equalIn_int w 9998 5 .u8 .u8 _ _ Tryd.underlying5, Result.andThen_ok]
    unfold eqt
    cases hk : ((a.k : Int) == (b.k : Int)) with
    | false => simp
    | true =>
      simp only [Bool.not_true, Bool.false_eq_true, if_false, Bool.true_and, Sem.run_bind]
      rw [part_one _ gs _ 1 (.string a.x) rfl, Result.andThen_ok, part_one _ gs _ 1 (.string b.x) rfl, Result.andThen_ok, run_equalIn_string w 9998 9 _ _ Tryd.underlying9, Result.andThen_ok]
      cases hn : (a.x.toList == b.x.toList) with
      | false => simp
      | true =>
        simp only [Bool.not_true, Bool.false_eq_true, if_false, Bool.true_and, Sem.run_bind]
        rw [part_one _ gi _ 2 (.int .i64 a.n) rfl, Result.andThen_ok, part_one _ gi _ 2 (.int .i64 b.n) rfl, Result.andThen_ok, run_equalIn_int w 9998 3 .i64 .i64 _ _ Tryd.underlying3, Result.andThen_ok]
        cases h4 : (a.n == b.n) with
        | false => simp
        | true =>
          simp only [Bool.not_true, Bool.false_eq_true, if_false, Bool.true_and, Sem.run_bind]
          rw [part_one _ gi _ 3 (.int .i64 a.a) rfl, Result.andThen_ok, part_one _ gi _ 3 (.int .i64 b.a) rfl, Result.andThen_ok, run_equalIn_int w 9998 3 .i64 .i64 _ _ Tryd.underlying3, Result.andThen_ok]
          cases (a.a == b.a) <;> simp
theorem neq_tok (a b : Tb) (w : World) : (binOp .neq 35 (.agg (tcs a)) (.agg (tcs b))).run Tryd.prog w = .ok (.bool (!eqt a b)) w := by
  rw [run_neq_struct, eq_tok]; rfl
theorem eql_tok (a b : Tb) (w : World) : (binOp .eql 35 (.agg (tcs a)) (.agg (tcs b))).run Tryd.prog w = .ok (.bool (eqt a b)) w := by
  rw [run_eql_struct, eq_tok]; rfl
theorem eqt_iff {a b : Tb} : eqt a b = true ↔ a = b := by
  unfold eqt
  rw [Bool.and_eq_true, Bool.and_eq_true, Bool.and_eq_true, str_eq, decide_eq_true_iff, beq_iff_eq, beq_iff_eq, beq_iff_eq]
  constructor
  · rintro ⟨⟨⟨h1, h2⟩, h3⟩, h4⟩
    have h5 := bn_inj h2
    cases a; cases b
    simp only at h1 h3 h4 h5
    congr 1
    omega
  · rintro rfl
    exact ⟨⟨⟨rfl, rfl⟩, rfl⟩, rfl⟩
end Go.Proofs.YtphkdagapoonjaaDoor.Lx
