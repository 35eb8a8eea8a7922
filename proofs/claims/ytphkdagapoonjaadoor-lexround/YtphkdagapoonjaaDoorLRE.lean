/- Rows of tokens in memory; append on them. (Stage 15.) -/
import Derived.Test.YtphkdagapoonjaaDoorLXG
import Derived.Test.YtphkdagapoonjaaDoorFO
import Derived.Test.YtphkdagapoonjaaDoorChecked
import Derived.Laws.StructEq
import Derived.Laws.Rows
import Derived.Laws.AppendOwnNone
namespace Go.Proofs.YtphkdagapoonjaaDoor.Lx
open Go.RowKit
open Go.Proofs.YtphkdagapoonjaaDoor.F (bn bn_length bn_append bn_inj bn_get byte_bd hid bn_extract isEmpty_false isEmpty_true str_eq same_eq)
open Go.Proofs.YtphkdagapoonjaaDoor.U (nx enc encs scal Bytes)
set_option linter.unusedVariables false

/-- A token, as it lies in memory. -/
structure Tb where
  k : Nat
  x : ByteArray
  n : Int
  a : Int
def z4 : Tb := ⟨0, ⟨#[]⟩, 0, 0⟩
def cells4 (t : Tb) : List Value := [.int .u8 (t.k : Nat), .string t.x, .int .i64 t.n, .int .i64 t.a]
def flat4 (l : List Tb) : List Value := l.flatMap cells4
/-- What it says. -/
def Tb.tk (t : Tb) : Tk := ⟨t.k, bn t.x, t.n.toNat, t.a.toNat⟩
theorem flat4_len (l : List Tb) : (flat4 l).length = l.length * 4 := by
  induction l with
  | nil => rfl
  | cons s l ih => simp only [flat4, List.flatMap_cons, List.length_append, List.length_cons] at ih ⊢; rw [ih]; simp [cells4]; omega
theorem flat4_append (a b : List Tb) : flat4 (a ++ b) = flat4 a ++ flat4 b := by simp [flat4]
theorem flat4_get : ∀ (l : List Tb) (j c : Nat), j < l.length → c < 4 → (flat4 l)[j * 4 + c]? = (cells4 (l[j]?.getD z4))[c]?
  | [], j, c, h, _ => by simp at h
  | t :: l, 0, c, _, hc => by
    show (cells4 t ++ flat4 l)[0 * 4 + c]? = _
    rw [Nat.zero_mul, Nat.zero_add, List.getElem?_append_left (by simpa [cells4] using hc)]
    rfl
  | t :: l, j + 1, c, h, hc => by
    show (cells4 t ++ flat4 l)[(j + 1) * 4 + c]? = _
    rw [List.getElem?_append_right (by simp [cells4]; omega), show (j + 1) * 4 + c - (cells4 t).length = j * 4 + c by simp [cells4]; omega, flat4_get l j c (by simpa using h) hc]
    rfl
theorem flat4_one (l : List Tb) : ∀ u ∈ flat4 l, u.oneCell' = true := by
  intro u hu
  obtain ⟨t, _, h⟩ := List.mem_flatMap.1 hu
  unfold cells4 at h
  simp at h
  rcases h with rfl | rfl | rfl | rfl <;> rfl
theorem addr_add (g o j : Nat) : ((⟨g, o, none⟩ : Addr).add j) = ⟨g, o + j, none⟩ := by
  unfold Addr.add
  by_cases h : j = 0
  · subst h; rfl
  · rw [if_neg h]
/-- A slice of tokens that can be read. -/
def TokAt (w : World) (v : Value) (l : List Tb) : Prop := ∃ (a : Option Addr) (cap : Nat), v = .slice a l.length cap ∧ (a = none → cap = 0) ∧ (0 < l.length → ∃ b off, a = some ⟨b, off, none⟩ ∧ ∀ j c, j < l.length → c < 4 → w.cell? ⟨b, off + (j * 4 + c), none⟩ = (cells4 (l[j]?.getD z4))[c]?)
/-- A slice of tokens that a call owns. -/
def TokOwn (w : World) (base : Nat) (v : Value) (l : List Tb) : Prop := w.ownsRow base 35 4 v l.length (flat4 l)
theorem TokOwn.nil (w : World) (base : Nat) : TokOwn w base (.slice none 0 0) [] := World.ownsRow_nil _ _ _ _
theorem TokOwn.at {w : World} {base : Nat} {v : Value} {l : List Tb} (h : TokOwn w base v l) : TokAt w v l := by
  rcases id h.2 with ⟨rfl, h0⟩ | ⟨g, cap, cur, rfl, _⟩
  · have : l = [] := List.length_eq_zero_iff.1 h0
    subst this
    exact ⟨none, 0, rfl, fun _ => rfl, fun h => (by simp at h)⟩
  · refine ⟨some ⟨g, 0, none⟩, cap, rfl, fun h => (by cases h), fun _ => ⟨g, 0, rfl, fun j c hj hc => ?_⟩⟩
    have hb : j * 4 + c < l.length * 4 := by omega
    have := h.cellAt (j * 4 + c) hb
    rw [Nat.zero_add, this]
    exact flat4_get l j c hj hc
theorem TokOwn.form {w : World} {base : Nat} {v : Value} {l : List Tb} (h : TokOwn w base v l) : ∃ (a : Option Addr) (cap : Nat), v = .slice a l.length cap := by
  obtain ⟨a, cap, e, _⟩ := h.at
  exact ⟨a, cap, e⟩
theorem infoT : (Tryd.prog.info? 35).map (fun i => (i.zero, i.size, i.bytes)) = some (some (.agg #[.int .u8 0, .string ⟨#[]⟩, .int .i64 0, .int .i64 0]), 4, 40) := by kernel_rfl
theorem wpList_append_toks {w : World} {ops : Array Oper} {rest : List Oper} {o : Oper} {a : Act} {Q : Exit → Act → World → Prop} (hgd : o.guard = none) (s x : Operand)
    (ho : o.op = .call { callee := .builtin .append, args := #[s, x], argTypes := #[22, 22] }) (base : Nat) (v : Value) (ys : List Tb) (hs : a.eval s = v) (hown : TokOwn w base v ys)
    (u : Value) (zs : List Tb) (hx : a.eval x = u) (hu : TokAt w u zs) (hbd : ys.length + zs.length ≤ 1000000000) (hbase : base ≤ w.heap.size)
    (h : ∀ v' w', TokOwn w' base v' (ys ++ zs) → w.grownBy w' v.ownBlock → wpList Tryd.prog ops Q rest (a.put o.dst v') w') : wpList Tryd.prog ops Q (o :: rest) a w := by
  obtain ⟨i0, hi, hz0, hz1, hz2⟩ := info_parts infoT
  obtain ⟨ad, cap, rfl, hcap, hc⟩ := hu
  rcases ad with _ | ad
  · have h0 : zs = [] := by
      rcases zs with _ | ⟨z, zs⟩
      · rfl
      · obtain ⟨b, off, e, _⟩ := hc (by simp); cases e
    subst h0
    rw [hcap rfl] at hx
    exact wpList_append_own_none hgd s x 22 ho base 35 i0 4 Tryd.underlying22 hi v ys.length _ hs hown hx (h v w (by simpa using hown) ⟨rfl, rfl, rfl, Nat.le_refl _, fun _ _ _ => rfl⟩)
  · refine wpList_append_own w hgd s x 22 ho base 35 i0 (.agg #[.int .u8 0, .string ⟨#[]⟩, .int .i64 0, .int .i64 0]) 4 40 Tryd.underlying22 hi hz0 hz1 hz2 rfl (by decide) v ys.length _ hs hown ad zs.length cap (flat4 zs) hx (flat4_len zs) ?_ (flat4_one zs) (by unfold maxLen; omega) (by omega) hbase (fun v' w' h1 h2 _ => h v' w' (by unfold TokOwn; rw [flat4_append, List.length_append]; exact h1) h2)
    intro j y hj
    have hl := (List.getElem?_eq_some_iff.1 hj).1
    rw [flat4_len] at hl
    obtain ⟨b, off, e, hcell⟩ := hc (by omega)
    obtain rfl : ad = ⟨b, off, none⟩ := Option.some.inj e
    have g := hcell (j / 4) (j % 4) (by omega) (by omega)
    rw [addr_add]
    have e1 : j / 4 * 4 + j % 4 = j := by omega
    rw [e1] at g
    have g2 := flat4_get zs (j / 4) (j % 4) (by omega) (by omega)
    rw [e1, hj] at g2
    rw [g, ← g2]
end Go.Proofs.YtphkdagapoonjaaDoor.Lx
