/- Texts as rows of numbers; what the walks of later layers share. (Of no program.); Rows of tokens in memory; append on them; Two tokens held against each other; the document's Same; The document's Same; A slice of tokens that came in. -/
import Derived.WalkKit
import Derived.Lib.IndexBytes
import Derived.Test.YtphkdagapoonjaaGreatDoorZLXE
import Derived.Test.YtphkdagapoonjaaGreatDoorChecked
import Derived.Laws.StructEq
import Derived.Laws.Rows
import Derived.Laws.AppendOwnNone
import Derived.WalkLawsBesides
import Derived.BigQuiet
import Derived.Deep.QuietTactic
import Derived.Deep.SlicePairs
import Derived.OpenShut
namespace Go.Proofs.YtphkdagapoonjaaGreatDoor.F
open Go.RowKit
set_option linter.unusedVariables false

theorem hid {p : Prop} (h : p) : Hid p := h
/-- The bytes of a text. -/
def bn (s : ByteArray) : List Int := s.data.toList.map fun c => (c.toNat : Int)
theorem bn_length (s : ByteArray) : (bn s).length = s.size := by simp [bn]
theorem bn_append (a b : ByteArray) : bn (a ++ b) = bn a ++ bn b := by
  unfold bn
  rw [← List.map_append]
  congr 1
theorem bn_inj {s t : ByteArray} (h : bn s = bn t) : s = t := by
  unfold bn at h
  have h2 : s.data.toList = t.data.toList := by
    have : ∀ (a b : List UInt8), a.map (fun c => (c.toNat : Int)) = b.map (fun c => (c.toNat : Int)) → a = b := by
      intro a
      induction a with
      | nil => intro b hb; cases b with
        | nil => rfl
        | cons _ _ => simp at hb
      | cons x a ih => intro b hb; cases b with
        | nil => simp at hb
        | cons y b =>
          simp only [List.map_cons, List.cons.injEq] at hb
          have hxy : x = y := UInt8.toNat_inj.1 (by have := hb.1; omega)
          rw [ih b hb.2, hxy]
    exact this _ _ h
  cases s; cases t
  congr 1
  exact Array.toList_inj.1 h2
theorem bn_get (s : ByteArray) (i : Nat) (h : i < s.size) : (bn s)[i]?.getD 0 = ((s[i].toNat : Nat) : Int) := by
  unfold bn
  rw [List.getElem?_map]
  have hl : i < s.data.toList.length := by simpa using h
  rw [List.getElem?_eq_getElem hl]
  rfl
theorem byte_bd {s : ByteArray} {i : Nat} (h : i < s.size) : 0 ≤ (bn s)[i]?.getD 0 ∧ (bn s)[i]?.getD 0 ≤ 255 := by
  rw [bn_get s i h]
  have := s[i].toNat_lt
  omega
theorem str_eq (t s : ByteArray) : (t.toList == s.toList) = decide (bn t = bn s) := by
  rw [Bool.eq_iff_iff, beq_iff_eq, decide_eq_true_eq, ByteArray.toList_eq, ByteArray.toList_eq]
  constructor
  · intro h; unfold bn; rw [h]
  · intro h; rw [bn_inj h]
theorem same_eq {a b : ByteArray} (h : bn a = bn b) : (a.toList == b.toList) = true := by rw [str_eq]; exact decide_eq_true h
theorem bn_extract (s : ByteArray) (k : Nat) : bn (s.extract k s.size) = (bn s).drop k := by
  unfold bn
  rw [Lib.extract_to_end, List.map_drop]
theorem isEmpty_false (s : ByteArray) (h : 0 < s.size) : s.toList.isEmpty = false := by
  cases he : s.toList.isEmpty with
  | false => rfl
  | true =>
    rw [List.isEmpty_iff, ByteArray.toList_eq] at he
    have h4 : s.data.toList.length = 0 := by rw [he]; rfl
    rw [Array.length_toList] at h4
    have h3 : s.data.size = s.size := rfl
    omega
theorem isEmpty_true (s : ByteArray) (h : s.size = 0) : s.toList.isEmpty = true := by
  rw [ByteArray.toList_eq, List.isEmpty_iff]
  exact List.length_eq_zero_iff.1 (by simpa using h)
theorem take_one (L : List Int) (k : Nat) (h : k < L.length) : L.take (k + 1) = L.take k ++ [L[k]?.getD 0] := by
  rw [List.take_succ_eq_append_getElem h, List.getElem?_eq_getElem h]; rfl
end Go.Proofs.YtphkdagapoonjaaGreatDoor.F
namespace Go.Proofs.YtphkdagapoonjaaGreatDoor.Lx
open Go.RowKit
open Go.Proofs.YtphkdagapoonjaaGreatDoor.F (bn bn_length bn_append bn_inj bn_get byte_bd hid bn_extract isEmpty_false isEmpty_true str_eq same_eq)
open Go.Proofs.YtphkdagapoonjaaGreatDoor.U (nx enc encs scal Bytes)
set_option linter.unusedVariables false

/-- A token, as it lies in memory. -/
structure Tb where
  k : Nat
  x : ByteArray
  n : Int
  a : Int
def z4 : Tb := ⟨0, ⟨#[]⟩, 0, 0⟩
def cells4 (t : Tb) : List Value := [.int .u8 (t.k : Nat), .string t.x, .int .i64 t.n, .int .i64 t.a]
def flat4 (l : List Tb) : List Value := l.flatMap cells4
/-- What it says. -/
def Tb.tk (t : Tb) : Tk := ⟨t.k, bn t.x, t.n.toNat, t.a.toNat⟩
theorem flat4_len (l : List Tb) : (flat4 l).length = l.length * 4 := by
  induction l with
  | nil => rfl
  | cons s l ih => simp only [flat4, List.flatMap_cons, List.length_append, List.length_cons] at ih ⊢; rw [ih]; simp [cells4]; omega
theorem flat4_append (a b : List Tb) : flat4 (a ++ b) = flat4 a ++ flat4 b := by simp [flat4]
theorem flat4_get : ∀ (l : List Tb) (j c : Nat), j < l.length → c < 4 → (flat4 l)[j * 4 + c]? = (cells4 (l[j]?.getD z4))[c]?
  | [], j, c, h, _ => by simp at h
  | t :: l, 0, c, _, hc => by
    show (cells4 t ++ flat4 l)[0 * 4 + c]? = _
    rw [Nat.zero_mul, Nat.zero_add, List.getElem?_append_left (by simpa [cells4] using hc)]
    rfl
  | t :: l, j + 1, c, h, hc => by
    show (cells4 t ++ flat4 l)[(j + 1) * 4 + c]? = _
    rw [List.getElem?_append_right (by simp [cells4]; omega), show (j + 1) * 4 + c - (cells4 t).length = j * 4 + c by simp [cells4]; omega, flat4_get l j c (by simpa using h) hc]
    rfl
theorem flat4_one (l : List Tb) : ∀ u ∈ flat4 l, u.oneCell' = true := by
  intro u hu
  obtain ⟨t, _, h⟩ := List.mem_flatMap.1 hu
  unfold cells4 at h
  simp at h
  rcases h with rfl | rfl | rfl | rfl <;> rfl
theorem addr_add (g o j : Nat) : ((⟨g, o, none⟩ : Addr).add j) = ⟨g, o + j, none⟩ := by
  unfold Addr.add
  by_cases h : j = 0
  · subst h; rfl
  · rw [if_neg h]
/-- A slice of tokens that can be read. -/
def TokAt (w : World) (v : Value) (l : List Tb) : Prop := ∃ (a : Option Addr) (cap : Nat), v = .slice a l.length cap ∧ (a = none → cap = 0) ∧ (0 < l.length → ∃ b off, a = some ⟨b, off, none⟩ ∧ ∀ j c, j < l.length → c < 4 → w.cell? ⟨b, off + (j * 4 + c), none⟩ = (cells4 (l[j]?.getD z4))[c]?)
/-- A slice of tokens that a call owns. -/
def TokOwn (w : World) (base : Nat) (v : Value) (l : List Tb) : Prop := w.ownsRow base 40 4 v l.length (flat4 l)
theorem TokOwn.nil (w : World) (base : Nat) : TokOwn w base (.slice none 0 0) [] := World.ownsRow_nil _ _ _ _
theorem TokOwn.at {w : World} {base : Nat} {v : Value} {l : List Tb} (h : TokOwn w base v l) : TokAt w v l := by
  rcases id h.2 with ⟨rfl, h0⟩ | ⟨g, cap, cur, rfl, _⟩
  · have : l = [] := List.length_eq_zero_iff.1 h0
    subst this
    exact ⟨none, 0, rfl, fun _ => rfl, fun h => (by simp at h)⟩
  · refine ⟨some ⟨g, 0, none⟩, cap, rfl, fun h => (by cases h), fun _ => ⟨g, 0, rfl, fun j c hj hc => ?_⟩⟩
    have hb : j * 4 + c < l.length * 4 := by omega
    have := h.cellAt (j * 4 + c) hb
    rw [Nat.zero_add, this]
    exact flat4_get l j c hj hc
theorem TokOwn.form {w : World} {base : Nat} {v : Value} {l : List Tb} (h : TokOwn w base v l) : ∃ (a : Option Addr) (cap : Nat), v = .slice a l.length cap := by
  obtain ⟨a, cap, e, _⟩ := h.at
  exact ⟨a, cap, e⟩
theorem infoT : (Tryz.prog.info? 40).map (fun i => (i.zero, i.size, i.bytes)) = some (some (.agg #[.int .u8 0, .string ⟨#[]⟩, .int .i64 0, .int .i64 0]), 4, 40) := by kernel_rfl
theorem wpList_append_toks {w : World} {ops : Array Oper} {rest : List Oper} {o : Oper} {a : Act} {Q : Exit → Act → World → Prop} (hgd : o.guard = none) (s x : Operand)
    (ho : o.op = .call { callee := .builtin .append, args := #[s, x], argTypes := #[23, 23] }) (base : Nat) (v : Value) (ys : List Tb) (hs : a.eval s = v) (hown : TokOwn w base v ys)
    (u : Value) (zs : List Tb) (hx : a.eval x = u) (hu : TokAt w u zs) (hbd : ys.length + zs.length ≤ 1000000000) (hbase : base ≤ w.heap.size)
    (h : ∀ v' w', TokOwn w' base v' (ys ++ zs) → w.grownBy w' v.ownBlock → wpList Tryz.prog ops Q rest (a.put o.dst v') w') : wpList Tryz.prog ops Q (o :: rest) a w := by
  obtain ⟨i0, hi, hz0, hz1, hz2⟩ := info_parts infoT
  obtain ⟨ad, cap, rfl, hcap, hc⟩ := hu
  rcases ad with _ | ad
  · have h0 : zs = [] := by
      rcases zs with _ | ⟨z, zs⟩
      · rfl
      · obtain ⟨b, off, e, _⟩ := hc (by simp); cases e
    subst h0
    rw [hcap rfl] at hx
    exact wpList_append_own_none hgd s x 23 ho base 40 i0 4 Tryz.underlying23 hi v ys.length _ hs hown hx (h v w (by simpa using hown) ⟨rfl, rfl, rfl, Nat.le_refl _, fun _ _ _ => rfl⟩)
  · refine wpList_append_own w hgd s x 23 ho base 40 i0 (.agg #[.int .u8 0, .string ⟨#[]⟩, .int .i64 0, .int .i64 0]) 4 40 Tryz.underlying23 hi hz0 hz1 hz2 rfl (by decide) v ys.length _ hs hown ad zs.length cap (flat4 zs) hx (flat4_len zs) ?_ (flat4_one zs) (by unfold maxLen; omega) (by omega) hbase (fun v' w' h1 h2 _ => h v' w' (by unfold TokOwn; rw [flat4_append, List.length_append]; exact h1) h2)
    intro j y hj
    have hl := (List.getElem?_eq_some_iff.1 hj).1
    rw [flat4_len] at hl
    obtain ⟨b, off, e, hcell⟩ := hc (by omega)
    obtain rfl : ad = ⟨b, off, none⟩ := Option.some.inj e
    have g := hcell (j / 4) (j % 4) (by omega) (by omega)
    rw [addr_add]
    have e1 : j / 4 * 4 + j % 4 = j := by omega
    rw [e1] at g
    have g2 := flat4_get zs (j / 4) (j % 4) (by omega) (by omega)
    rw [e1, hj] at g2
    rw [g, ← g2]
end Go.Proofs.YtphkdagapoonjaaGreatDoor.Lx
namespace Go.Proofs.YtphkdagapoonjaaGreatDoor.Lx
open Go.RowKit
open Go.Proofs.YtphkdagapoonjaaGreatDoor.F (bn bn_length bn_append bn_inj bn_get byte_bd hid bn_extract isEmpty_false isEmpty_true str_eq same_eq)
open Go.Proofs.YtphkdagapoonjaaGreatDoor.U (nx enc encs scal Bytes)
set_option linter.unusedVariables false

theorem part_one (t : TypeId) (ht : ∀ w, (isAgg t).run Tryz.prog w = .ok false w) (xs : Array Value) (i : Nat) (x : Value) (h : xs[i]? = some x) (w : World) : (part t xs i).run Tryz.prog w = .ok x w := by
  unfold part
  simp [h, ht w, Sem.run_bind]
theorem fields_tok : ((Tryz.prog.fieldsOf 40).toList.map fun f => (f.type, f.offset, decide (f.name = "_"))) = [(5, 0, false), (9, 1, false), (3, 2, false), (3, 3, false)] := by kernel_rfl
abbrev tcs (t : Tb) : Array Value := #[.int .u8 (t.k : Nat), .string t.x, .int .i64 t.n, .int .i64 t.a]
/-- Whether two tokens are one. -/
def eqt (a b : Tb) : Bool := ((a.k : Int) == (b.k : Int)) && (a.x.toList == b.x.toList) && (a.n == b.n) && (a.a == b.a)
theorem eq_tok (a b : Tb) (w : World) : (Op.equalIn 10000 40 (.agg (tcs a)) (.agg (tcs b))).run Tryz.prog w = .ok (eqt a b) w := by
  rw [run_equalIn_struct w 9999 40 _ _ (by kernel_rfl) (by kernel_rfl)]
  have hf := fields_tok
  generalize (Tryz.prog.fieldsOf 40).toList = fs at hf ⊢
  match fs, hf with
  | [], hf => cases hf
  | [_], hf => simp at hf
  | [_, _], hf => simp at hf
  | [_, _, _], hf => simp at hf
  | _ :: _ :: _ :: _ :: _ :: _, hf => simp at hf
  | [f0, f1, f2, f3], hf =>
    simp only [List.map_cons, List.map_nil, List.cons.injEq, Prod.mk.injEq, decide_eq_false_iff_not, and_true] at hf
    obtain ⟨⟨t0, o0, n0⟩, ⟨t1, o1, n1⟩, ⟨t2, o2, n2⟩, ⟨t3, o3, n3⟩⟩ := hf
    have g8 : ∀ w, (isAgg 5).run Tryz.prog w = .ok false w := fun w => by kernel_rfl
    have gs : ∀ w, (isAgg 9).run Tryz.prog w = .ok false w := fun w => by kernel_rfl
    have gi : ∀ w, (isAgg 3).run Tryz.prog w = .ok false w := fun w => by kernel_rfl
    simp only [Op.eqFields, ne_eq, n0, n1, n2, n3, not_false_eq_true, if_true, t0, t1, t2, t3, o0, o1, o2, o3, Sem.run_bind]
    rw [part_one _ g8 _ 0 (.int .u8 (a.k : Nat)) rfl, Result.andThen_ok, part_one _ g8 _ 0 (.int .u8 (b.k : Nat)) rfl, Result.andThen_ok, run_equalIn_int w 9998 5 .u8 .u8 _ _ Tryz.underlying5, Result.andThen_ok]
    unfold eqt
    cases hk : ((a.k : Int) == (b.k : Int)) with
    | false => simp
    | true =>
      simp only [Bool.not_true, Bool.false_eq_true, if_false, Bool.true_and, Sem.run_bind]
      rw [part_one _ gs _ 1 (.string a.x) rfl, Result.andThen_ok, part_one _ gs _ 1 (.string b.x) rfl, Result.andThen_ok, run_equalIn_string w 9998 9 _ _ Tryz.underlying9, Result.andThen_ok]
      cases hn : (a.x.toList == b.x.toList) with
      | false => simp
      | true =>
        simp only [Bool.not_true, Bool.false_eq_true, if_false, Bool.true_and, Sem.run_bind]
        rw [part_one _ gi _ 2 (.int .i64 a.n) rfl, Result.andThen_ok, part_one _ gi _ 2 (.int .i64 b.n) rfl, Result.andThen_ok, run_equalIn_int w 9998 3 .i64 .i64 _ _ Tryz.underlying3, Result.andThen_ok]
        cases h4 : (a.n == b.n) with
        | false => simp
        | true =>
          simp only [Bool.not_true, Bool.false_eq_true, if_false, Bool.true_and, Sem.run_bind]
          rw [part_one _ gi _ 3 (.int .i64 a.a) rfl, Result.andThen_ok, part_one _ gi _ 3 (.int .i64 b.a) rfl, Result.andThen_ok, run_equalIn_int w 9998 3 .i64 .i64 _ _ Tryz.underlying3, Result.andThen_ok]
          cases (a.a == b.a) <;> simp
theorem neq_tok (a b : Tb) (w : World) : (binOp .neq 40 (.agg (tcs a)) (.agg (tcs b))).run Tryz.prog w = .ok (.bool (!eqt a b)) w := by
  rw [run_neq_struct, eq_tok]; rfl
theorem eql_tok (a b : Tb) (w : World) : (binOp .eql 40 (.agg (tcs a)) (.agg (tcs b))).run Tryz.prog w = .ok (.bool (eqt a b)) w := by
  rw [run_eql_struct, eq_tok]; rfl
theorem eqt_iff {a b : Tb} : eqt a b = true ↔ a = b := by
  unfold eqt
  rw [Bool.and_eq_true, Bool.and_eq_true, Bool.and_eq_true, str_eq, decide_eq_true_iff, beq_iff_eq, beq_iff_eq, beq_iff_eq]
  constructor
  · rintro ⟨⟨⟨h1, h2⟩, h3⟩, h4⟩
    have h5 := bn_inj h2
    cases a; cases b
    simp only at h1 h3 h4 h5
    congr 1
    omega
  · rintro rfl
    exact ⟨⟨⟨rfl, rfl⟩, rfl⟩, rfl⟩
end Go.Proofs.YtphkdagapoonjaaGreatDoor.Lx
namespace Go.Proofs.YtphkdagapoonjaaGreatDoor.Lx
open Go.RowKit
open Go.Proofs.YtphkdagapoonjaaGreatDoor.F (bn bn_length bn_append bn_inj bn_get byte_bd hid bn_extract isEmpty_false isEmpty_true str_eq same_eq)
open Go.Proofs.YtphkdagapoonjaaGreatDoor.U (nx enc encs scal Bytes)
set_option linter.unusedVariables false

def sj (loose : Bool) (a b : Tb) : Bool := ((a.k : Int) == (b.k : Int)) && (a.x.toList == b.x.toList) && (loose || eqt a b)
def sm (loose : Bool) : List Tb → List Tb → Bool
  | [], [] => true
  | a :: l, b :: m => sj loose a b && sm loose l m
  | _, _ => false
theorem sm_len {loose : Bool} : ∀ {a b : List Tb}, a.length ≠ b.length → sm loose a b = false
  | [], [], h => absurd rfl h
  | [], _ :: _, _ => rfl
  | _ :: _, [], _ => rfl
  | a :: l, b :: m, h => by
    rw [sm, sm_len (a := l) (b := m) (by simpa using h), Bool.and_false]
theorem sm_at {loose : Bool} {a b : List Tb} {i : Nat} (h1 : i < a.length) (h2 : i < b.length) : sm loose (a.drop i) (b.drop i) = (sj loose (a[i]?.getD z4) (b[i]?.getD z4) && sm loose (a.drop (i + 1)) (b.drop (i + 1))) := by
  rw [List.drop_eq_getElem_cons h1, List.drop_eq_getElem_cons h2, sm, List.getElem?_eq_getElem h1, List.getElem?_eq_getElem h2]; rfl
/-- The cells of one token of a row. -/
theorem TokAt.cell {w : World} {a : Option Addr} {n cap : Nat} {l : List Tb} (h : TokAt w (.slice a n cap) l) {i : Nat} (hi : i < l.length) : ∃ b off, a = some ⟨b, off, none⟩ ∧ w.cell? ⟨b, off + i * 4, none⟩ = some (.int .u8 ((l[i]?.getD z4).k : Nat)) ∧ w.cell? ⟨b, off + i * 4 + 1, none⟩ = some (.string (l[i]?.getD z4).x) ∧ w.cell? ⟨b, off + i * 4 + 2, none⟩ = some (.int .i64 (l[i]?.getD z4).n) ∧ w.cell? ⟨b, off + i * 4 + 3, none⟩ = some (.int .i64 (l[i]?.getD z4).a) := by
  obtain ⟨a', cap', e, _, hc⟩ := h
  obtain ⟨rfl, _, _⟩ : a = a' ∧ n = l.length ∧ cap = cap' := by injection e with e1 e2 e3; exact ⟨e1, e2, e3⟩
  obtain ⟨b, off, rfl, hcell⟩ := hc (by omega)
  refine ⟨b, off, rfl, ?_, ?_, ?_, ?_⟩
  · exact hcell i 0 hi (by decide)
  · exact hcell i 1 hi (by decide)
  · exact hcell i 2 hi (by decide)
  · exact hcell i 3 hi (by decide)
theorem TokAt.len {w : World} {a : Option Addr} {n cap : Nat} {l : List Tb} (h : TokAt w (.slice a n cap) l) : n = l.length := by
  obtain ⟨a', cap', e, _⟩ := h
  injection e
theorem stays {w W : World} {p : Addr} {v : Value} (hb : Below w.heap.size w W) (h : w.cell? p = some v) : W.cell? p = some v := by
  refine (hb.cell (p := p) ?_).trans h
  unfold World.cell? at h
  rcases Nat.lt_or_ge p.block w.heap.size with hb | hb
  · exact hb
  · rw [Array.getElem?_eq_none hb] at h; cases h
theorem drewn {B : Nat} {a w : World} (h : Below B a w) (k : Nat) : Below B a (w.drewN k) := h.trans ⟨rfl, rfl, rfl, Nat.le_refl _, fun _ _ => rfl⟩
set_option maxRecDepth 100000 in
set_option maxHeartbeats 8000000 in
theorem rsame_any (a b : Option Addr) (n m ca cb : Nat) (la lb : List Tb) (loose : Bool) (w : World) (ha : TokAt w (.slice a n ca) la) (hb : TokAt w (.slice b m cb) lb) (hn : n ≤ 1000000000) (hm : m ≤ 1000000000) :
    Calls Tryz.prog 8 #[.slice a n ca, .slice b m cb, .bool loose] w fun e W' => e = .returned (.bool (sm loose la lb)) ∧ Below w.heap.size w W' := by
  have hla := ha.len
  have hlb := hb.len
  by_cases hnm : n = m
  rotate_left
  · have q : ((n : Int) != (m : Int)) = true := by simp; omega
    have HE : Hid (sm loose la lb = false) := sm_len (by omega)
    rw [HE.out]
    clear ha hb hla hlb hnm HE
    go_enter Tryz.func8, Tryz.ntmps8
    go_wp2
    go_ret
    exact ⟨rfl, Below.refl _ _⟩
  subst hnm
  have q : ((n : Int) != (n : Int)) = false := by simp
  have HCA := hid (fun i (h : i < la.length) => ha.cell h)
  have HCB := hid (fun i (h : i < lb.length) => hb.cell h)
  have HST := hid (fun i h1 h2 => sm_at (loose := loose) (a := la) (b := lb) (i := i) h1 h2)
  have HEN : Hid (sm loose (la.drop n) (lb.drop n) = true) := by
    show _ = _
    rw [List.drop_eq_nil_of_le (by omega), List.drop_eq_nil_of_le (by omega)]; rfl
  rw [← hla] at HCA HST
  rw [← hlb] at HCB HST
  obtain ⟨R, hR⟩ : ∃ R, sm loose la lb = R := ⟨_, rfl⟩
  rw [hR]
  have H0 : Hid (sm loose (la.drop 0) (lb.drop 0) = R) := hR
  clear hR ha hb hla hlb
  go_enter Tryz.func8, Tryz.ntmps8
  go_wp2_with fail
  go_loopw [7] (fun vi wr => ∃ i : Nat, i ≤ n ∧ vi = .int .i64 (i : Int) ∧ Hid (sm loose (la.drop i) (lb.drop i) = R) ∧ Hid (Below w.heap.size w wr)) (fun vi _ => n - (intOf vi).toNat)
  case atStart => exact ⟨0, Nat.zero_le _, rfl, H0, Below.refl _ _⟩
  case round =>
    obtain ⟨i, hi, rfl, HR, HB⟩ := hrel
    by_cases hlt : i < n
    rotate_left
    · have hltz : ¬ (i : Int) < (n : Int) := by omega
      obtain rfl : i = n := by omega
      have HE := hid (HR.out.symm.trans HEN.out)
      clear HR HEN HCA HCB HST H0
      go_wp2
      go_ret
      exact ⟨by rw [HE.out]; rfl, HB.out⟩
    have hltz : (i : Int) < (n : Int) := by omega
    obtain ⟨ba, oa, rfl, a0, a1, a2, a3⟩ := HCA.out i hlt
    obtain ⟨bb, ob, rfl, b0, b1, b2, b3⟩ := HCB.out i hlt
    replace a0 := stays HB.out a0
    replace a1 := stays HB.out a1
    replace a2 := stays HB.out a2
    replace a3 := stays HB.out a3
    replace b0 := stays HB.out b0
    replace b1 := stays HB.out b1
    replace b2 := stays HB.out b2
    replace b3 := stays HB.out b3
    have HS := hid ((HST.out i hlt hlt).symm.trans HR.out)
    have HNE := neq_tok (la[i]?.getD z4) (lb[i]?.getD z4)
    generalize la[i]?.getD z4 = A at *
    generalize lb[i]?.getD z4 = B at *
    obtain ⟨ka, xa, na, aa⟩ := A
    obtain ⟨kb, xb, nb, ab⟩ := B
    simp only at a0 a1 a2 a3 b0 b1 b2 b3
    unfold tcs at HNE
    simp only at HNE
    unfold sj at HS
    simp only at HS
    obtain ⟨E, hE⟩ : ∃ E, eqt ⟨ka, xa, na, aa⟩ ⟨kb, xb, nb, ab⟩ = E := ⟨_, rfl⟩
    rw [hE] at HNE HS
    clear hE HCA HCB HST HEN H0 HR
    obtain ⟨x, hx⟩ : ∃ x, (xa.toList == xb.toList) = x := ⟨_, rfl⟩
    rw [hx] at HS
    have hxn : (xa.toList != xb.toList) = !x := by rw [← hx]; rfl
    by_cases hk : ka = kb
    rotate_left
    · have k1 : ((ka : Int) != (kb : Int)) = true := by simp; omega
      have HF : Hid (false = R) := by show _ = _; rw [← HS.out, show ((ka : Int) == (kb : Int)) = false by simp; omega]; rfl
      clear HS hk HNE
      go_wp2_with fail
      go_quiet (fail)
      go_wp2
      go_ret
      exact ⟨by rw [← HF.out]; rfl, drewn HB.out _⟩
    have k1 : ((ka : Int) != (kb : Int)) = false := by simp; omega
    rw [show ((ka : Int) == (kb : Int)) = true by simp; omega, Bool.true_and] at HS
    clear hk
    cases x with
    | false =>
      have HF : Hid (false = R) := HS.out
      clear HS HNE
      go_wp2_with fail
      go_quiet (fail)
      go_wp2
      go_ret
      exact ⟨by rw [← HF.out]; rfl, drewn HB.out _⟩
    | true =>
      cases loose with
      | true =>
        have HF : Hid (sm true (la.drop (i + 1)) (lb.drop (i + 1)) = R) := HS.out
        clear HS HNE
        go_wp2_with fail
        go_quiet (fail)
        go_wp2
        go_roundw
        case rel => exact ⟨i + 1, by omega, by go_num, HF, drewn HB.out _⟩
        case measure => simp [intOf]; omega
      | false =>
        cases E with
        | false =>
          have HF : Hid (false = R) := HS.out
          clear HS
          go_wp2_with fail
          go_quiet (fail)
          go_wp2
          go_ret
          exact ⟨by rw [← HF.out]; rfl, drewn HB.out _⟩
        | true =>
          have HF : Hid (sm false (la.drop (i + 1)) (lb.drop (i + 1)) = R) := HS.out
          clear HS
          go_wp2_with fail
          go_quiet (fail)
          go_wp2
          go_roundw
          case rel => exact ⟨i + 1, by omega, by go_num, HF, drewn HB.out _⟩
          case measure => simp [intOf]; omega
end Go.Proofs.YtphkdagapoonjaaGreatDoor.Lx
namespace Go.Proofs.YtphkdagapoonjaaGreatDoor.Lx
open Go.RowKit Go.ChangeShapes Go.WideShapes
open Go.Proofs.YtphkdagapoonjaaGreatDoor.F (bn bn_length bn_append bn_inj bn_get byte_bd hid bn_extract isEmpty_false isEmpty_true str_eq same_eq)
set_option linter.unusedVariables false

/-- What any token keeps to. -/
def Twf (t : Tb) : Prop := t.k ≤ 255 ∧ t.x.size ≤ maxLen ∧ (Lit.int .i64 t.n).wf = true ∧ (Lit.int .i64 t.a).wf = true
theorem und_tok : ∃ f0 f1 f2 f3 : Field, Tryz.prog.underlying 40 = some (.struct #[f0, f1, f2, f3]) ∧ f0.type = 5 ∧ f1.type = 9 ∧ f2.type = 3 ∧ f3.type = 3 ∧ f0.offset = 0 ∧ f1.offset = 1 ∧ f2.offset = 2 ∧ f3.offset = 3 :=
  ⟨_, _, _, _, Tryz.underlying40, rfl, rfl, rfl, rfl, rfl, rfl, rfl, rfl⟩
theorem mem_all {H : Type} {P : Program} {e : TypeId} {k : Nat} {d : DataW H} : ∀ {r : List (DataW H)}, d ∈ r → k ∈ d.weights P e → k ∈ DataW.weightsAll P e r
  | [], h, _ => by cases h
  | x :: r, h, hk => by
    rw [DataW.weightsAll]
    rcases List.mem_cons.1 h with rfl | h
    · exact List.mem_append_left _ hk
    · exact List.mem_append_right _ (mem_all h hk)
/-- The length of a token's text is one of its weights. -/
theorem tok_weight {H : Type} {d0 d2 d3 : DataW H} {s : List UInt8} : s.length ∈ (DataW.agg [d0, .lit (.string s), d2, d3]).weights Tryz.prog 40 := by
  rw [DataW.weights]
  simp only [Tryz.underlying40]
  simp [DataW.weightsEach, DataW.weights]
theorem slice_weight {H : Type} {d : DataW H} {l r : List (DataW H)} {k : Nat} (hd : d ∈ l) (hk : k ∈ d.weights Tryz.prog 40) : k ∈ (DataW.slice l r).weights Tryz.prog 23 := by
  rw [DataW.weights]
  simp only [Tryz.underlying23]
  exact List.mem_cons_of_mem _ (List.mem_append_left _ (mem_all hd hk))
set_option maxRecDepth 100000 in
theorem open_toks {H : Type} {enc : TypeId × Value → H} {w : World} {base : Nat} {spare : Nat → Bool} {held : Bool} {fuel : Nat} {cs : List Value} {x : DataW H × List MemPlace}
    (h : DataW.trod enc Tryz.prog w base spare held fuel 23 cs = some x) : ∃ (a : Option Addr) (len cap : Nat) (l : List Tb), cs = [.slice a len cap] ∧ len ≤ maxLen ∧ TokAt w (.slice a len cap) l ∧ ∀ t ∈ l, Twf t ∧ t.x.size ∈ x.1.weights Tryz.prog 23 := by
  rcases Go.Deep.open_slice Tryz.underlying23 h with ⟨rfl, _⟩ | ⟨a, len, cap, m, n, D, Pl, rfl, hb, hl, hm, hmm, rfl, hx⟩
  · exact ⟨none, 0, 0, [], rfl, Nat.zero_le _, ⟨none, 0, rfl, fun _ => rfl, fun h => (by simp at h)⟩, fun t ht => (by cases ht)⟩
  · have hlm : len ≤ m := by rw [hmm]; split <;> omega
    obtain ⟨f0, f1, f2, f3, hu, e0, e1, e2, e3, o0, o1, o2, o3⟩ := und_tok
    have ce : Tryz.prog.cellsOf 40 = 4 := by kernel_rfl
    have c8 : Tryz.prog.cellsOf 5 = 1 := by kernel_rfl
    have cS : Tryz.prog.cellsOf 9 = 1 := by kernel_rfl
    have cI : Tryz.prog.cellsOf 3 = 1 := by kernel_rfl
    have each : ∀ i, i < len → ∃ t : Tb, (Twf t ∧ t.x.size ∈ (D i).weights Tryz.prog 40) ∧ ∀ c, c < 4 → w.cell? (a.add (i * 4 + c)) = (cells4 t)[c]? := by
      intro i hi
      obtain ⟨cs', h1, h2⟩ := hx i (by omega)
      rw [ce] at h1
      obtain ⟨_, hlen, hcell⟩ := World.cells?_some h1
      obtain ⟨xs, k, hk, hxy, _, hxl, hf⟩ := DataW.trod_struct hu h2
      match xs, hxl, cs', hlen with
      | [y0, y1, y2, y3], _, [v0, v1, v2, v3], _ =>
        have g0 := hf 0 f0 rfl
        have g1 := hf 1 f1 rfl
        have g2 := hf 2 f2 rfl
        have g3 := hf 3 f3 rfl
        simp [o0, o1, o2, o3, e0, e1, e2, e3, c8, cS, cI] at g0 g1 g2 g3
        have d0 := hcell 0 (by omega)
        have d1 := hcell 1 (by omega)
        have d2 := hcell 2 (by omega)
        have d3 := hcell 3 (by omega)
        rw [Go.Deep.add_add] at d0 d1 d2 d3
        obtain ⟨k0, r0, _, w0⟩ := DataW.trod_int Tryz.underlying5 g0
        obtain ⟨x1, r1, q1, w1⟩ := DataW.trod_string Tryz.underlying9 g1
        obtain ⟨n2, r2, _, w2⟩ := DataW.trod_int Tryz.underlying3 g2
        obtain ⟨n3, r3, _, w3⟩ := DataW.trod_int Tryz.underlying3 g3
        obtain rfl := (List.cons.inj r0).1
        obtain rfl := (List.cons.inj r1).1
        obtain rfl := (List.cons.inj r2).1
        obtain rfl := (List.cons.inj r3).1
        have hk : 0 ≤ k0 ∧ k0 ≤ 255 := by
          simp [Lit.wf, IntKind.min, IntKind.max, IntKind.bits, IntKind.signed] at w0
          omega
        refine ⟨⟨k0.toNat, x1, n2, n3⟩, ⟨⟨by simp only; omega, w1, w2, w3⟩, ?_⟩, fun c hc => ?_⟩
        · have hd : D i = .agg [y0.1, y1.1, y2.1, y3.1] := congrArg Prod.fst hxy
          rw [hd, congrArg Prod.fst q1]
          exact tok_weight (s := x1.data.toList)
        have hk2 : ((k0.toNat : Nat) : Int) = k0 := Int.toNat_of_nonneg hk.1
        unfold cells4
        simp only [hk2]
        obtain rfl | rfl | rfl | rfl : c = 0 ∨ c = 1 ∨ c = 2 ∨ c = 3 := by omega
        · exact d0
        · exact d1
        · exact d2
        · exact d3
    haveI : Inhabited Tb := ⟨z4⟩
    obtain ⟨q, hq⟩ := Go.Deep.choose_lt each
    have hql : ((List.range len).map q).length = len := by simp
    have hqg : ∀ j, j < len → ((List.range len).map q)[j]?.getD z4 = q j := fun j hj => by
      rw [List.getElem?_map, List.getElem?_range hj]; rfl
    refine ⟨some a, len, cap, (List.range len).map q, rfl, by omega, ⟨some a, cap, by rw [hql], fun h => (by cases h), fun h0 => ?_⟩, fun t ht => ?_⟩
    · rw [hql] at h0 ⊢
      obtain ⟨b, off, spot⟩ := a
      have hs := (hq 0 h0).2 0 (by decide)
      have hspot : spot = none := by
        have e : (cells4 (q 0))[0]? = some (.int .u8 ((q 0).k : Nat)) := rfl
        rw [e] at hs
        simpa [Addr.add] using World.cell?_spot hs
      subst hspot
      refine ⟨b, off, rfl, fun j c hj hc => ?_⟩
      rw [hqg j hj, ← (hq j hj).2 c hc, Go.WideShapes.add_plain]
    · obtain ⟨j, hj, rfl⟩ := List.mem_map.1 ht
      exact ⟨(hq j (List.mem_range.1 hj)).1.1, slice_weight (List.mem_map.2 ⟨j, hj, rfl⟩) (hq j (List.mem_range.1 hj)).1.2⟩
end Go.Proofs.YtphkdagapoonjaaGreatDoor.Lx
