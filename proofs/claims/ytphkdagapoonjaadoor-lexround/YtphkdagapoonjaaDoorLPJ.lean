/- strings.Clone; the closure that adds a token. (Stage 15.) -/
import Derived.Test.YtphkdagapoonjaaDoorLPH
import Derived.Test.YtphkdagapoonjaaDoorLPI
import Derived.Test.YtphkdagapoonjaaDoorLRS
import Derived.RangeFuncBox
import Derived.RangeFuncNested
import Derived.Laws.NewBlocks
namespace Go.Proofs.YtphkdagapoonjaaDoor.Lx
open Go.RowKit
open Go.Proofs.YtphkdagapoonjaaDoor.F (bn bn_length bn_append bn_inj bn_get byte_bd hid bn_extract isEmpty_false isEmpty_true str_eq same_eq)
open Go.Proofs.YtphkdagapoonjaaDoor.U (nx enc encs scal val Bytes)
set_option linter.unusedVariables false

set_option maxRecDepth 100000 in
set_option maxHeartbeats 1000000 in
theorem clone_any (s : ByteArray) (hs : s.size ≤ 1000000000) (w : World) : Calls Tryd.prog 32 #[.string s] w fun e w' => e = .returned (.string s) ∧ Below w.heap.size w w' := by
  have HC := hid (show Calls Tryd.prog 43 #[.string s] w _ from AnyPu.stringslite_Clone Tryd.lClo s w (by omega))
  go_enter Tryd.func32, Tryd.ntmps32
  go_wp2_with fail
  refine HC.out.mono ?_
  rintro e w2 ⟨rfl, B⟩
  go_wp2
  go_ret
  exact ⟨rfl, B⟩
theorem tok_new (w : World) (t : Tb) : TokAt (w.alloc (.cells (tcs t) 35)) (.slice (some ⟨w.heap.size, 0, none⟩) 1 1) [t] := by
  refine ⟨_, 1, rfl, fun h => (by cases h), fun _ => ⟨w.heap.size, 0, rfl, fun j c hj hc => ?_⟩⟩
  obtain rfl : j = 0 := by simpa using hj
  rw [cell_of_row _ _ _ _ _ _ (heap_alloc_new w (.cells (tcs t) 35))]
  obtain rfl | rfl | rfl | rfl : c = 0 ∨ c = 1 ∨ c = 2 ∨ c = 3 := by omega
  all_goals rfl
theorem TokOwn.alloc {w : World} {base : Nat} {v : Value} {l : List Tb} (h : TokOwn w base v l) (o : Obj) : TokOwn (w.alloc o) base v l := World.ownsRow.alloc h o
theorem TokOwn.own {w : World} {base : Nat} {v : Value} {l : List Tb} (h : TokOwn w base v l) : ∀ g, v.ownBlock = some g → base ≤ g ∧ ∃ cur, w.heap[g]? = some (.cells cur 35 (0, 0)) := by
  intro g hg
  rcases h.2 with ⟨rfl, _⟩ | ⟨g', cap, cur, rfl, h1, h2, h3⟩
  · simp [Value.ownBlock] at hg
  · simp [Value.ownBlock] at hg
    subst hg
    exact ⟨h1, cur, h2⟩
theorem TokOwn.keep {w w' : World} {base : Nat} {v : Value} {l : List Tb} (h : TokOwn w base v l) (hk : ∀ (g : Nat) (cur : Array Value), w.heap[g]? = some (Obj.cells cur 35 (0, 0)) → w'.heap[g]? = some (Obj.cells cur 35 (0, 0))) : TokOwn w' base v l := by
  refine ⟨h.1, ?_⟩
  rcases h.2 with h | ⟨g, cap, cur, e, h1, h2, h3⟩
  · exact .inl h
  · exact .inr ⟨g, cap, cur, e, h1, hk g cur h2, h3⟩
theorem TokOwn.below {w W : World} {base : Nat} {v : Value} {l : List Tb} (h : TokOwn w base v l) (hb : Below w.heap.size w W) : TokOwn W base v l :=
  h.keep (fun g cur hg => (hb.block g (Array.getElem?_eq_some_iff.1 hg).1).trans hg)
/-- A box of another kind stays when tokens are appended. -/
theorem boxed_grown {w1 w2 : World} {base : Nat} {v : Value} {l : List Tb} {B : Nat} {T : TypeId} {x : Value} (hb : Boxed w1 B T x) (hT : T ≠ 35) (h : TokOwn w1 base v l) (hg : w1.grownBy w2 v.ownBlock) : Boxed w2 B T x := by
  have h1 : w1.heap[B]? = some (.cells #[x] T (0, 0)) := hb
  show w2.heap[B]? = _
  rw [hg.block B (Array.getElem?_eq_some_iff.1 h1).1 ?_]
  · exact h1
  · intro e
    obtain ⟨_, cur, hc⟩ := h.own B e.symm
    rw [h1] at hc
    exact hT (by injection hc with hc; injection hc)
theorem below_grow {B : Nat} {w w1 w2 : World} {v : Value} {l : List Tb} (hB : Below B w w1) (hb : B ≤ w1.heap.size) (hown : TokOwn w1 B v l) (hg : w1.grownBy w2 v.ownBlock) : Below B w w2 :=
  hB.grown hg hb (fun j ej => (hown.own j ej).1)
set_option maxRecDepth 100000 in
set_option maxHeartbeats 4000000 in
theorem add_any (k : Nat) (hk : k ≤ 255) (x : ByteArray) (a n : Int) (Bl Bn base : Nat) (v : Value) (l : List Tb) (w : World) (hl : Boxed w Bl 22 v) (hn : Boxed w Bn 3 (.int .i64 n)) (hown : TokOwn w base v l) (hlen : l.length ≤ 100000000) (hb : base ≤ Bl) (hsz : base ≤ w.heap.size) :
    Calls Tryd.prog 29 #[.int .u8 (k : Int), .string x, .int .i64 a, .pointer (some ⟨Bl, 0, none⟩), .pointer (some ⟨Bn, 0, none⟩)] w fun e w' => e = .returned (.tuple #[]) ∧
      (∃ v', Boxed w' Bl 22 v' ∧ TokOwn w' base v' (l ++ [⟨k, x, n, a⟩])) ∧ Boxed w' Bn 3 (.int .i64 n) ∧ Below base w w' := by
  obtain ⟨ao, cap, rfl⟩ := hown.form
  have c1 := hl.cell
  have f1 := hl.frozen
  have c2 := hn.cell
  have HO := hid hown
  have HL := hid hl
  have HN := hid hn
  have HB := hid ((Below.refl base w).alloc hsz (.cells (tcs ⟨k, x, n, a⟩) 35))
  have HT := hid (tok_new w ⟨k, x, n, a⟩)
  have HO2 := hid (hown.alloc (Obj.cells (tcs ⟨k, x, n, a⟩) 35))
  have hsz2 : base ≤ (w.alloc (Obj.cells (tcs ⟨k, x, n, a⟩) 35)).heap.size := by simp; omega
  have hll : l.length + [(⟨k, x, n, a⟩ : Tb)].length ≤ 1000000000 := by simp; omega
  clear hown hl hn
  go_enter Tryd.func29, Tryd.ntmps29
  go_wp2_with (at_builtin; refine wpList_append_toks rfl _ _ rfl base _ l rfl HO2.out _ [⟨k, x, n, a⟩] rfl HT.out hll hsz2 ?_; intro v' w' r' g'; obtain ⟨ao2, cap2, rfl⟩ := r'.form; have HR := hid r'; have HL2 := hid (boxed_grown (HL.out.alloc _) (by decide) HO2.out g'); have HN2 := hid (boxed_grown (HN.out.alloc _) (by decide) HO2.out g'); have HB2 := hid (below_grow HB.out hsz2 HO2.out g'); have c3 := HL2.out.cell; have f3 := HL2.out.frozen; clear r' g')
  go_end0
  refine ⟨rfl, ⟨_, Boxed.set _ HL2.out, TokOwn.keep (show TokOwn _ base (.slice ao2 (l.length + 1) cap2) _ from by have h := HR.out; rw [List.length_append] at h; exact h) (fun g cur hg => ?_)⟩, Boxed.other HN2.out (fun e => ?_) _, HB2.out.setCell (p := ⟨Bl, 0, none⟩) hb _⟩
  · have h1 : w'.heap[Bl]? = some (Obj.cells _ 22 (0, 0)) := HL2.out
    refine (Below.heap_setCell _ _ _ _ (fun e => ?_)).trans hg
    subst e
    rw [h1] at hg
    injection hg with hg; injection hg with _ hg; exact absurd hg (by decide)
  · have h1 : w'.heap[Bl]? = some (Obj.cells _ 22 (0, 0)) := HL2.out
    have h2 : w'.heap[Bn]? = some (Obj.cells _ 3 (0, 0)) := HN2.out
    rw [e, h1] at h2
    injection h2 with hg; injection hg with _ hg; exact absurd hg (by decide)
end Go.Proofs.YtphkdagapoonjaaDoor.Lx
