/- What is asked of a head's reader. (Stage 19.) -/
import Derived.Test.YtacbfbhhhofifaaDoorHRJ
import Derived.Test.YtacbfbhhhofifaaDoorHRH
import Derived.Test.YtacbfbhhhofifaaDoorGS
import Derived.Test.YtacbfbhhhofifaaDoorHXC
namespace Go.Proofs.YtacbfbhhhofifaaDoor.Hd
open Go.RowKit
open Go.Proofs.YtacbfbhhhofifaaDoor.F (bn bn_length bn_append bn_inj bn_get byte_bd hid bn_extract isEmpty_false isEmpty_true str_eq same_eq)
set_option linter.unusedVariables false

/-- What Parse answers. -/
def PaR (s : ByteArray) (W' : World) (e : Ending) : Prop := ∃ hv, e = .returned (.tuple #[hv, .int .i64 (if (go s0 (bn s)).e = 0 ∧ (go s0 (bn s)).d = false then 0 else (go s0 (bn s)).n : Nat), .int .i64 (if (go s0 (bn s)).e = 0 ∧ (go s0 (bn s)).d = false then 7 else (go s0 (bn s)).e : Nat)]) ∧
  HdIs W' hv (if (go s0 (bn s)).d = true then (go s0 (bn s)).h else h0)
/-- What Feed answers. -/
def FeR (l m : List Int) (e : Ending) : Prop := e = .returned (if overS l then .tuple #[.int .i64 0, .bool false, .int .i64 (if (go s0 l).d = true then 3 else (go s0 l).e : Nat)] else .tuple #[.int .i64 (((go s0 (l ++ m)).n : Int) - l.length), .bool (go s0 (l ++ m)).d, .int .i64 (go s0 (l ++ m)).e])
/-- What was taken, behind it. -/
def took (l m : List Int) : List Int := if overS l then l else (l ++ m).take (go s0 (l ++ m)).n
structure Ctr (Rd : Nat → World → Value → List Int → Prop) : Prop where
  token : ∀ (s : ByteArray) (w : World), s.size ≤ 1000000 → Calls Tryd.prog 12 #[.string s] w fun e W' => e = .returned (.bool (tok (bn s))) ∧ Below w.heap.size w W'
  get : ∀ (M T : ByteArray) (v : Int) (F : Value) (fs : List Fb) (name : ByteArray) (w : World), FldAt w F fs → fs.length ≤ 1000000 → (∀ x ∈ fs, x.y.size ≤ 140737488351232) → Calls Tryd.prog 14 #[.agg #[.string M, .string T, .int .u8 v, F], .string name] w fun e W' => (∃ u, e = .returned u ∧ StrAt W' u (gots fs name)) ∧ Below w.heap.size w W'
  parse : ∀ (s : ByteArray) (w : World), s.size ≤ 1000000 → Calls Tryd.prog 9 #[.string s] w fun e W' => PaR s W' e ∧ Below w.heap.size w W'
  new : ∀ w : World, Calls Tryd.prog 20 #[] w fun e W' => (∃ a, e = .returned (.pointer (some a)) ∧ Rd w.heap.size W' (.pointer (some a)) []) ∧ Below w.heap.size w W'
  feed : ∀ (base : Nat) (W : World) (p : Value) (l : List Int) (s : ByteArray), Rd base W p l → l.length ≤ 1000000 → s.size ≤ 1000000 → Calls Tryd.prog 17 #[p, .string s] W fun e W' => FeR l (bn s) e ∧ Rd base W' p (took l (bn s)) ∧ Below base W W' ∧ (overS l → Below W.heap.size W W')
  head : ∀ (base : Nat) (W : World) (p : Value) (l : List Int), Rd base W p l → Calls Tryd.prog 19 #[p] W fun e W' => (∃ hv, e = .returned hv ∧ HdIs W' hv (if (go s0 l).d = true then (go s0 l).h else h0)) ∧ Rd base W' p l ∧ Below W.heap.size W W'
  bytes : ∀ (base : Nat) (W : World) (p : Value) (l : List Int), Rd base W p l → Calls Tryd.prog 18 #[p] W fun e W' => e = .returned (.int .i64 l.length) ∧ Rd base W' p l ∧ Below W.heap.size W W'
  keep : ∀ (base : Nat) (W W' : World) (p : Value) (l : List Int), Rd base W p l → Below W.heap.size W W' → Rd base W' p l
  base : ∀ (base : Nat) (W : World) (p : Value) (l : List Int), Rd base W p l → base ≤ W.heap.size
  len : ∀ (base : Nat) (W : World) (p : Value) (l : List Int), Rd base W p l → (go s0 l).n = l.length
  feed0 : ∀ (s : ByteArray) (w : World), Calls Tryd.prog 17 #[.pointer none, .string s] w fun e W' => e = .returned (.tuple #[.int .i64 0, .bool false, .int .i64 1]) ∧ Below w.heap.size w W'
  head0 : ∀ w : World, Calls Tryd.prog 19 #[.pointer none] w fun e W' => (∃ hv, e = .returned hv ∧ HdIs W' hv h0) ∧ Below w.heap.size w W'
  bytes0 : ∀ w : World, Calls Tryd.prog 18 #[.pointer none] w fun e W' => e = .returned (.int .i64 0) ∧ Below w.heap.size w W'
/-- A head that can be read, can be read later. -/
theorem HdIs.below {w W : World} {hv : Value} {h : H} (hh : HdIs w hv h) (hb : Below w.heap.size w W) : HdIs W hv h := by
  obtain ⟨M, T, v, F, fs, e1, e2, e3, e4, e5, e6⟩ := hh
  exact ⟨M, T, v, F, fs, e1, e2.below hb, e3, e4, e5, e6⟩
theorem took_go {l m : List Int} : go s0 (took l m) = if overS l then go s0 l else go s0 (l ++ m) := by
  unfold took
  split
  · rfl
  · have := go_took (l ++ m) s0
    rw [show (go s0 (l ++ m)).n - s0.n = (go s0 (l ++ m)).n from Nat.sub_zero _] at this
    exact this
end Go.Proofs.YtacbfbhhhofifaaDoor.Hd
