/- Some answers that the document fixes. (Stage 15.) -/
import Derived.Test.YtphkdagapoonjaaDoorLPN
import Derived.Test.YtphkdagapoonjaaDoorLPT
import Derived.Test.YtphkdagapoonjaaDoorLXE
import Derived.ProofKit
namespace Go.Proofs.YtphkdagapoonjaaDoor.Lx
open Go.RowKit
open Go.Proofs.YtphkdagapoonjaaDoor.F (bn bn_length bn_append bn_inj bn_get byte_bd hid bn_extract isEmpty_false isEmpty_true str_eq same_eq)
open Go.Proofs.YtphkdagapoonjaaDoor.U (nx enc encs scal val Bytes)
set_option linter.unusedVariables false

theorem tk_inj : ∀ {ts us : List Tb}, ts.map Tb.tk = us.map Tb.tk → (∀ t ∈ ts, 0 ≤ t.n ∧ 0 ≤ t.a) → (∀ t ∈ us, 0 ≤ t.n ∧ 0 ≤ t.a) → ts = us
  | [], [], _, _, _ => rfl
  | [], _ :: _, h, _, _ => by simp at h
  | _ :: _, [], h, _, _ => by simp at h
  | ⟨k, x, n, a⟩ :: ts, ⟨k', x', n', a'⟩ :: us, h, h1, h2 => by
    rw [List.map_cons, List.map_cons, List.cons.injEq] at h
    obtain ⟨e, e2⟩ := h
    have q1 := h1 _ (List.mem_cons_self ..)
    have q2 := h2 _ (List.mem_cons_self ..)
    unfold Tb.tk at e
    simp only [Tk.mk.injEq] at e q1 q2
    obtain ⟨e0, e1, e3, e4⟩ := e
    obtain rfl := bn_inj e1
    rw [tk_inj e2 (fun t ht => h1 t (List.mem_cons_of_mem _ ht)) (fun t ht => h2 t (List.mem_cons_of_mem _ ht)), e0, show n = n' by omega, show a = a' by omega]
/- The answers' texts. -/
def cA : ByteArray := ⟨#[97, 108, 108, 111, 119, 32, 104, 111, 115, 116, 32, 34, 98, 92, 117, 123, 102, 99, 125, 99, 104, 101, 114, 46, 100, 101, 34, 32, 35, 32, 120, 10, 10, 120, 13, 10]⟩
def cB : ByteArray := ⟨#[97, 32, 34, 98]⟩
def cC : ByteArray := ⟨#[97, 108, 108, 111, 119, 32, 104, 111, 115, 116, 32, 34, 98, 195, 188, 99, 104, 101, 114, 46, 100, 101, 34, 10, 120, 10]⟩
def tA : List Tb := [⟨1, ⟨#[97, 108, 108, 111, 119]⟩, 1, 0⟩, ⟨1, ⟨#[104, 111, 115, 116]⟩, 1, 6⟩, ⟨2, ⟨#[98, 195, 188, 99, 104, 101, 114, 46, 100, 101]⟩, 1, 11⟩, ⟨5, ⟨#[]⟩, 1, 31⟩, ⟨1, ⟨#[120]⟩, 3, 0⟩, ⟨5, ⟨#[]⟩, 3, 1⟩]
theorem lex_A : lex (bn cA) = (tA.map Tb.tk, 0, 0, 0) := by kernel_rfl
theorem lex_B : lex (bn cB) = ([], 151, 1, 2) := by kernel_rfl
theorem wr_A : wr 5 (tA.map Tb.tk) = bn cC := by kernel_rfl
theorem ok_A : ok 5 (tA.map Tb.tk) := by
  obtain ⟨r, e, _, h, _⟩ := lex_inv (s := bn cA) (U.bn_bytes cA) (by rw [lex_A])
  rw [lex_A] at e
  rw [(Prod.mk.inj e).1]
  exact h
theorem sml_A : Sml tA := by
  intro t ht
  unfold tA at ht
  simp only [List.mem_cons, List.not_mem_nil, or_false] at ht
  rcases ht with rfl | rfl | rfl | rfl | rfl | rfl <;> exact ⟨by decide, by decide⟩
/-- What Lex answers of the first text. -/
theorem ln_A {base : Nat} {e : Ending} {W : World} (h : LnR (lex (bn cA)) base e W) : ∃ a c, e = .returned (.tuple #[.slice a 6 c, .agg #[.int .i64 0, .int .i64 0, .int .i64 0]]) ∧ TokAt W (.slice a 6 c) tA := by
  rw [lex_A] at h
  obtain ⟨v, ts, hown, hts, hnn, rfl⟩ := h
  obtain rfl : ts = tA := tk_inj hts hnn (by
    intro t ht
    unfold tA at ht
    simp only [List.mem_cons, List.not_mem_nil, or_false] at ht
    rcases ht with rfl | rfl | rfl | rfl | rfl | rfl <;> exact ⟨by decide, by decide⟩)
  obtain ⟨a, c, rfl⟩ := hown.form
  exact ⟨a, c, rfl, hown.at⟩
theorem ln_B {base : Nat} {e : Ending} {W : World} (h : LnR (lex (bn cB)) base e W) : ∃ v, e = .returned (.tuple #[v, .agg #[.int .i64 151, .int .i64 1, .int .i64 2]]) := by
  rw [lex_B] at h
  obtain ⟨v, ts, hown, hts, hnn, rfl⟩ := h
  exact ⟨v, rfl⟩
theorem wn_A {e : Ending} (h : WrtR (tA.map Tb.tk) e) : e = .returned (.tuple #[.string cC, .int .i64 0]) := by
  rcases h with ⟨h, _⟩ | ⟨_, h, _⟩ | ⟨_, _, u, hu, rfl⟩
  · exact absurd ok_A h
  · rw [wr_A] at h
    exact absurd h (by rw [bn_length]; decide)
  · rw [wr_A] at hu
    rw [bn_inj hu]
theorem fields_flt : ((Tryd.prog.fieldsOf 29).toList.map fun f => (f.type, f.offset, decide (f.name = "_"))) = [(25, 0, false), (3, 1, false), (3, 2, false)] := by kernel_rfl
/-- Two faults held against each other. -/
theorem eql_flt (a b c a' b' c' : Int) (w : World) : (binOp .eql 29 (.agg #[.int .i64 a, .int .i64 b, .int .i64 c]) (.agg #[.int .i64 a', .int .i64 b', .int .i64 c'])).run Tryd.prog w = .ok (.bool ((a == a') && (b == b') && (c == c'))) w := by
  have key : (Op.equalIn 10000 29 (.agg #[.int .i64 a, .int .i64 b, .int .i64 c]) (.agg #[.int .i64 a', .int .i64 b', .int .i64 c'])).run Tryd.prog w = .ok ((a == a') && (b == b') && (c == c')) w := by
    rw [run_equalIn_struct w 9999 29 _ _ (by kernel_rfl) (by kernel_rfl)]
    have hf := fields_flt
    generalize (Tryd.prog.fieldsOf 29).toList = fs at hf ⊢
    match fs, hf with
    | [], hf => cases hf
    | [_], hf => simp at hf
    | [_, _], hf => simp at hf
    | _ :: _ :: _ :: _ :: _, hf => simp at hf
    | [f0, f1, f2], hf =>
      simp only [List.map_cons, List.map_nil, List.cons.injEq, Prod.mk.injEq, decide_eq_false_iff_not, and_true] at hf
      obtain ⟨⟨t0, o0, n0⟩, ⟨t1, o1, n1⟩, ⟨t2, o2, n2⟩⟩ := hf
      have ge : ∀ w, (isAgg 25).run Tryd.prog w = .ok false w := fun w => by kernel_rfl
      have gi : ∀ w, (isAgg 3).run Tryd.prog w = .ok false w := fun w => by kernel_rfl
      simp only [Op.eqFields, ne_eq, n0, n1, n2, not_false_eq_true, if_true, t0, t1, t2, o0, o1, o2, Sem.run_bind]
      rw [part_one _ ge _ 0 (.int .i64 a) rfl, Result.andThen_ok, part_one _ ge _ 0 (.int .i64 a') rfl, Result.andThen_ok, run_equalIn_int w 9998 25 .i64 .i64 _ _ Tryd.underlying25, Result.andThen_ok]
      cases hk : (a == a') with
      | false => simp
      | true =>
        simp only [Bool.not_true, Bool.false_eq_true, if_false, Bool.true_and, Sem.run_bind]
        rw [part_one _ gi _ 1 (.int .i64 b) rfl, Result.andThen_ok, part_one _ gi _ 1 (.int .i64 b') rfl, Result.andThen_ok, run_equalIn_int w 9998 3 .i64 .i64 _ _ Tryd.underlying3, Result.andThen_ok]
        cases hn : (b == b') with
        | false => simp
        | true =>
          simp only [Bool.not_true, Bool.false_eq_true, if_false, Bool.true_and, Sem.run_bind]
          rw [part_one _ gi _ 2 (.int .i64 c) rfl, Result.andThen_ok, part_one _ gi _ 2 (.int .i64 c') rfl, Result.andThen_ok, run_equalIn_int w 9998 3 .i64 .i64 _ _ Tryd.underlying3, Result.andThen_ok]
          cases (c == c') <;> simp
  rw [run_eql_struct, key]; rfl
end Go.Proofs.YtphkdagapoonjaaDoor.Lx
