/- Points in memory: what a slice of points leads to, and what changes there. -/
import Derived.Test.YtcgfbejcehiolaaProg
import Derived.WalkKit
import Derived.WalkSpells
import Derived.WalkLawsBesides
import Derived.OwnWalk
import Derived.Maps.AppendAt
import Derived.Laws.AppendOwnNone
import Derived.Laws.Concat
import Derived.Laws.OwnMore
import Derived.Deep.QuietTactic
import Derived.BigQuiet
import Derived.RegionTactic
import Derived.BigRegion
import Derived.Laws.Tables
import Derived.Laws.Rows
import Derived.KernelRfl
namespace Go.Proofs.Ytcgfbejcehiolaa
open Go.RowKit
set_option linter.unusedVariables false

/-- A code point beside its class. -/
abbrev Pt := Int × Int
def z2 : Pt := (0, 0)
theorem hid {p : Prop} (h : p) : Hid p := h
theorem lt_of_cell {w : World} {a : Addr} {v : Value} (h : w.cell? a = some v) : a.block < w.heap.size := by
  by_cases hb : a.block < w.heap.size
  · exact hb
  · simp [World.cell?, Array.getElem?_eq_none (Nat.le_of_not_lt hb)] at h
/-- The block b holds the points l, from its cell o on. -/
def Pts (W : World) (b o : Nat) (l : List Pt) : Prop := ∃ cur t, W.heap[b]? = some (.cells cur t (0, 0)) ∧
  ∀ j, j < l.length → cur[o + j * 2]? = some (.int .i32 (l[j]?.getD z2).1) ∧ cur[o + j * 2 + 1]? = some (.int .u8 (l[j]?.getD z2).2)
/-- Of the block b nothing but the n points from its cell o on has changed, of the elder blocks nothing. -/
structure Chg (b o n : Nat) (W W' : World) : Prop where
  g : W.grownBy W' (some b)
  blk : ∃ cur cur' t, W.heap[b]? = some (.cells cur t (0, 0)) ∧ W'.heap[b]? = some (.cells cur' t (0, 0)) ∧ cur'.size = cur.size ∧ ∀ k, k < o ∨ o + n * 2 ≤ k → cur'[k]? = cur[k]?
theorem Pts.lt {W : World} {b o : Nat} {l : List Pt} (h : Pts W b o l) : b < W.heap.size := by
  obtain ⟨cur, t, h, _⟩ := h; exact (Array.getElem?_eq_some_iff.1 h).1
theorem Pts.c0 {W : World} {b o : Nat} {l : List Pt} (h : Pts W b o l) (j : Nat) (hj : j < l.length) : W.cell? ⟨b, o + j * 2, none⟩ = some (.int .i32 (l[j]?.getD z2).1) := by
  obtain ⟨cur, t, h, hc⟩ := h
  simp [World.cell?, h, (hc j hj).1]
theorem Pts.c1 {W : World} {b o : Nat} {l : List Pt} (h : Pts W b o l) (j : Nat) (hj : j < l.length) : W.cell? ⟨b, o + j * 2 + 1, none⟩ = some (.int .u8 (l[j]?.getD z2).2) := by
  obtain ⟨cur, t, h, hc⟩ := h
  simp [World.cell?, h, (hc j hj).2]
theorem Pts.fr {W : World} {b o : Nat} {l : List Pt} (h : Pts W b o l) (k : Nat) : W.frozen? ⟨b, k, none⟩ = false := by
  obtain ⟨cur, t, h, hc⟩ := h
  simp [World.frozen?, h]
theorem Pts.block {W W' : World} {b o : Nat} {l : List Pt} (h : Pts W b o l) (e : W'.heap[b]? = W.heap[b]?) : Pts W' b o l := by
  obtain ⟨cur, t, h, hc⟩ := h; exact ⟨cur, t, e.trans h, hc⟩
theorem Pts.below {W W' : World} {b o n : Nat} {l : List Pt} (h : Pts W b o l) (hB : Below n W W') (hn : b < n) : Pts W' b o l := h.block (hB.block b hn)
theorem Pts.drew {W : World} {b o : Nat} {l : List Pt} (h : Pts W b o l) : Pts W.drew b o l := h
theorem Chg.refl {W : World} {b o : Nat} {l : List Pt} (h : Pts W b o l) (n : Nat) : Chg b o n W W := by
  obtain ⟨cur, t, h, _⟩ := h
  exact ⟨⟨rfl, rfl, rfl, Nat.le_refl _, fun _ _ _ => rfl⟩, cur, cur, t, h, h, rfl, fun _ _ => rfl⟩
theorem Chg.trans {A B C : World} {b o n : Nat} (h : Chg b o n A B) (k : Chg b o n B C) : Chg b o n A C := by
  obtain ⟨c1, c2, t, e1, e2, s1, f1⟩ := h.blk
  obtain ⟨d1, d2, t', e3, e4, s2, f2⟩ := k.blk
  rw [e2] at e3
  cases e3
  exact ⟨⟨k.g.os.trans h.g.os, k.g.tape.trans h.g.tape, k.g.output.trans h.g.output, Nat.le_trans h.g.size k.g.size, fun i hi hne => (k.g.block i (Nat.lt_of_lt_of_le hi h.g.size) hne).trans (h.g.block i hi hne)⟩,
    c1, d2, t, e1, e4, s2.trans s1, fun i hi => (f2 i hi).trans (f1 i hi)⟩
theorem Chg.below {A B C : World} {b o n : Nat} (h : Chg b o n A B) (hB : Below B.heap.size B C) : Chg b o n A C := by
  obtain ⟨c1, c2, t, e1, e2, s1, f1⟩ := h.blk
  have hb : b < B.heap.size := (Array.getElem?_eq_some_iff.1 e2).1
  exact ⟨⟨hB.os.trans h.g.os, hB.tape.trans h.g.tape, hB.output.trans h.g.output, Nat.le_trans h.g.size hB.size, fun i hi hne => (hB.block i (Nat.lt_of_lt_of_le hi h.g.size)).trans (h.g.block i hi hne)⟩,
    c1, c2, t, e1, (hB.block b hb).trans e2, s1, f1⟩
theorem Chg.drew {A B : World} {b o n : Nat} (h : Chg b o n A B) : Chg b o n A B.drew := ⟨⟨h.g.os, h.g.tape, h.g.output, h.g.size, h.g.block⟩, h.blk⟩
theorem Chg.lt {A B : World} {b o n : Nat} (h : Chg b o n A B) : b < A.heap.size := by
  obtain ⟨c1, c2, t, e1, _⟩ := h.blk; exact (Array.getElem?_eq_some_iff.1 e1).1
theorem heap_setCell_same (W : World) (b k : Nat) (v : Value) (cur : Array Value) (t : TypeId) (h : W.heap[b]? = some (.cells cur t (0, 0))) : (W.setCell ⟨b, k, none⟩ v).heap[b]? = some (.cells (cur.setIfInBounds k v) t (0, 0)) := by
  rw [setCell_eq_setRow W b k cur t (0, 0) v h]; exact setRow_heap W b cur _ t (0, 0) h
theorem size_setCell' (W : World) (a : Addr) (v : Value) : (W.setCell a v).heap.size = W.heap.size := by simp [World.setCell]
theorem Chg.set {A B : World} {b o n : Nat} (h : Chg b o n A B) (k : Nat) (v : Value) (h1 : o ≤ k) (h2 : k < o + n * 2) : Chg b o n A (B.setCell ⟨b, k, none⟩ v) := by
  obtain ⟨c1, c2, t, e1, e2, s1, f1⟩ := h.blk
  refine ⟨⟨h.g.os, h.g.tape, h.g.output, by rw [size_setCell']; exact h.g.size, fun i hi hne => ?_⟩, c1, c2.setIfInBounds k v, t, e1, heap_setCell_same B b k v c2 t e2, by simpa using s1, fun i hi => ?_⟩
  · rw [Below.heap_setCell B ⟨b, k, none⟩ v i (fun e => hne (by rw [e]))]; exact h.g.block i hi hne
  · rw [Array.getElem?_setIfInBounds_ne (by omega)]; exact f1 i hi
/-- Two cells written: one point more. -/
theorem Pts.set {W : World} {b o : Nat} {l : List Pt} (h : Pts W b o l) (i : Nat) (x : Pt) (hi : i < l.length) :
    Pts ((W.setCell ⟨b, o + i * 2, none⟩ (.int .i32 x.1)).setCell ⟨b, o + i * 2 + 1, none⟩ (.int .u8 x.2)) b o (l.set i x) := by
  obtain ⟨cur, t, h, hc⟩ := h
  refine ⟨_, t, heap_setCell_same _ b _ _ _ t (heap_setCell_same W b _ _ cur t h), fun j hj => ?_⟩
  rw [List.length_set] at hj
  have hci := hc i hi
  have hsz1 : o + i * 2 + 1 < cur.size := by
    by_cases hh : o + i * 2 + 1 < cur.size
    · exact hh
    · rw [Array.getElem?_eq_none (Nat.le_of_not_lt hh)] at hci; simp at hci
  by_cases hij : j = i
  · subst hij
    rw [Array.getElem?_setIfInBounds_ne (by omega), Array.getElem?_setIfInBounds_self_of_lt (by omega), Array.getElem?_setIfInBounds_self_of_lt (by simpa using hsz1)]
    simp [hi]
  · rw [Array.getElem?_setIfInBounds_ne (by omega), Array.getElem?_setIfInBounds_ne (by omega), Array.getElem?_setIfInBounds_ne (by omega), Array.getElem?_setIfInBounds_ne (by omega)]
    rw [List.getElem?_set_ne (by omega)]
    exact hc j hj

/-- A later world, in which all that lay lies as it lay. -/
structure Later (w : World) where
  W : World
  h : Below w.heap.size w W
theorem wp_region_quiet_in {P : Program} {id : Nat} {Q : Exit → Act → World → Prop} {a : Act} {w : World} {l : List Oper} (hm : P.follows .mixedOrders = true) (hB : Region.lexB .any l.toArray = true)
    (h : wpQuiet P l.toArray (fun w' => ∃ x : Later w, w' = x.W) (fun a' => ∀ w', (∃ x : Later w, w' = x.W) → Q .normal a' w') l a) : (Code.region id l.toArray true).wp P Q a w :=
  wp_region_quiet (C := fun w' => ∃ x : Later w, w' = x.W) hm hB ⟨⟨{ w with drawn := w.drawn + 1 }, ⟨rfl, rfl, rfl, Nat.le_refl _, fun _ _ => rfl⟩⟩, rfl⟩ (by simpa using h)
theorem Later.call {w : World} {f : FuncId} {args : Array Value} {v : Value} (x : Later w) (h : Calls Try.prog f args x.W fun e w' => e = .returned v ∧ Below x.W.heap.size x.W w') : Calls Try.prog f args x.W fun e w' => e = .returned v ∧ ∃ y : Later w, w' = y.W :=
  h.mono fun _ w' ⟨he, hb⟩ => ⟨he, ⟨w', x.h.trans (hb.mono x.h.size)⟩, rfl⟩
end Go.Proofs.Ytcgfbejcehiolaa
