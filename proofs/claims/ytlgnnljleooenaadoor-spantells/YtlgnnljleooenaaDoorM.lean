/- The plain functions of which the contracts speak (spans that may be, what is in them), and what a slice of spans or of code points leads to. -/
import Derived.Test.YtlgnnljleooenaaDoorProg
import Derived.WalkKit
import Derived.WalkSpells
import Derived.WalkLawsBesides
import Derived.OwnWalk
import Derived.Maps.AppendAt
import Derived.Laws.AppendOwnNone
import Derived.Laws.Concat
import Derived.Laws.OwnMore
import Derived.Deep.QuietTactic
import Derived.BigQuiet
import Derived.RegionTactic
namespace Go.Proofs.YtlgnnljleooenaaDoor
open Go.RowKit

/-- A span: from where, to where. -/
abbrev Sp := Int × Int
def ok1 (s : Sp) : Bool := decide (0 ≤ s.1 ∧ s.1 ≤ s.2 ∧ s.2 ≤ 1114111)
/-- What is wrong with spans. -/
def chk (l : List Sp) : Int := if 1024 < l.length then 4 else if l.all ok1 = true then 0 else 2
/-- Is r in one of them? -/
def hasP (l : List Sp) (r : Int) : Bool := l.any fun s => decide (s.1 ≤ r ∧ r ≤ s.2)

/-- The two cells of a span. -/
def cells2 (s : Sp) : List Value := [.int .i32 s.1, .int .i32 s.2]
def flat2 (l : List Sp) : List Value := l.flatMap cells2

/-- The slice value v leads to the spans l. -/
def SpansAt (w : World) (v : Value) (l : List Sp) : Prop :=
  ∃ a cap, v = .slice a l.length cap ∧ (a = none → cap = 0) ∧ (0 < l.length → ∃ b off, a = some ⟨b, off, none⟩ ∧
    ∀ j, j < l.length → w.cell? ⟨b, off + j * 2, none⟩ = some (.int .i32 (l[j]?.getD (0, 0)).1) ∧ w.cell? ⟨b, off + j * 2 + 1, none⟩ = some (.int .i32 (l[j]?.getD (0, 0)).2))
/-- The slice value v leads to the numbers zs. -/
def IntsAt (w : World) (v : Value) (zs : List Int) : Prop :=
  ∃ a cap, v = .slice a zs.length cap ∧ ((a = none → cap = 0) ∧ zs.length ≤ cap) ∧ (0 < zs.length → ∃ b off, a = some ⟨b, off, none⟩ ∧
    ∀ j, j < zs.length → w.cell? ⟨b, off + j, none⟩ = some (.int .i32 (zs[j]?.getD 0)))

theorem lt_of_cell {w : World} {a : Addr} {v : Value} (h : w.cell? a = some v) : a.block < w.heap.size := by
  by_cases hb : a.block < w.heap.size
  · exact hb
  · simp [World.cell?, Array.getElem?_eq_none (Nat.le_of_not_lt hb)] at h
theorem SpansAt.below {A B : World} {n : Nat} (h : Below n A B) (hn : A.heap.size ≤ n) {v : Value} {l : List Sp} : SpansAt A v l → SpansAt B v l
  | ⟨a, cap, e, hc, f⟩ => ⟨a, cap, e, hc, fun hp => by
      obtain ⟨b, off, e2, g⟩ := f hp
      refine ⟨b, off, e2, fun j hj => ⟨?_, ?_⟩⟩
      · exact (h.cell (p := ⟨b, off + j * 2, none⟩) (Nat.lt_of_lt_of_le (lt_of_cell (g j hj).1) hn)).trans (g j hj).1
      · exact (h.cell (p := ⟨b, off + j * 2 + 1, none⟩) (Nat.lt_of_lt_of_le (lt_of_cell (g j hj).2) hn)).trans (g j hj).2⟩
theorem IntsAt.below {A B : World} {n : Nat} (h : Below n A B) (hn : A.heap.size ≤ n) {v : Value} {l : List Int} : IntsAt A v l → IntsAt B v l
  | ⟨a, cap, e, hc, f⟩ => ⟨a, cap, e, hc, fun hp => by
      obtain ⟨b, off, e2, g⟩ := f hp
      exact ⟨b, off, e2, fun j hj => (h.cell (p := ⟨b, off + j, none⟩) (Nat.lt_of_lt_of_le (lt_of_cell (g j hj)) hn)).trans (g j hj)⟩⟩
theorem flat2_len (l : List Sp) : (flat2 l).length = l.length * 2 := by
  induction l with
  | nil => rfl
  | cons s l ih => simp only [flat2, List.flatMap_cons, List.length_append, List.length_cons] at ih ⊢; rw [ih]; simp [cells2]; omega
theorem flat2_get (l : List Sp) : ∀ j, j < l.length → (flat2 l)[j * 2]? = some (.int .i32 (l[j]?.getD (0, 0)).1) ∧ (flat2 l)[j * 2 + 1]? = some (.int .i32 (l[j]?.getD (0, 0)).2) := by
  induction l with
  | nil => intro j hj; simp at hj
  | cons s l ih =>
    intro j hj
    rcases j with _ | j
    · simp [flat2, cells2]
    · have h := ih j (by simpa using hj)
      have e1 : (j + 1) * 2 = j * 2 + 2 := by omega
      have e2 : (j + 1) * 2 + 1 = j * 2 + 1 + 2 := by omega
      have e : flat2 (s :: l) = cells2 s ++ flat2 l := rfl
      rw [e2, e1, e, List.getElem?_append_right (by simp [cells2]), List.getElem?_append_right (by simp [cells2])]
      simpa [cells2] using h
theorem flat2_append (a b : List Sp) : flat2 (a ++ b) = flat2 a ++ flat2 b := by simp [flat2]
theorem flat2_one (l : List Sp) : ∀ u ∈ flat2 l, u.oneCell' = true := by
  intro u hu
  obtain ⟨s, _, hs⟩ := List.mem_flatMap.1 hu
  simp [cells2] at hs
  rcases hs with rfl | rfl <;> rfl
theorem SpansAt.own {w : World} {base : Nat} {v : Value} {n : Nat} {l : List Sp} (hn : n = l.length) (h : w.ownsRow base 44 2 v n (flat2 l)) : SpansAt w v l := by
  subst hn
  rcases id h.2 with ⟨rfl, h0⟩ | ⟨g, cap, cur, rfl, _⟩
  · exact ⟨none, 0, by rw [h0], fun _ => rfl, fun hp => by omega⟩
  · refine ⟨_, cap, rfl, (fun e => by cases e), fun hp => ⟨g, 0, rfl, fun j hj => ?_⟩⟩
    rw [Nat.zero_add, h.cellAt (j * 2) (by omega), h.cellAt (j * 2 + 1) (by omega)]
    exact flat2_get l j hj
theorem IntsAt.own {w : World} {base : Nat} {v : Value} {n : Nat} {zs : List Int} (hn : n = zs.length) (h : w.ownsRow base 21 1 v n (zs.map (Value.int .i32))) : IntsAt w v zs := by
  subst hn
  rcases id h.2 with ⟨rfl, h0⟩ | ⟨g, cap, cur, rfl, _, _, hnc, _⟩
  · exact ⟨none, 0, by rw [h0], ⟨fun _ => rfl, by omega⟩, fun hp => by omega⟩
  · refine ⟨_, cap, rfl, ⟨(fun e => by cases e), hnc⟩, fun hp => ⟨g, 0, rfl, fun j hj => ?_⟩⟩
    rw [Nat.zero_add, h.cellAt j (by omega), List.getElem?_map, List.getElem?_eq_getElem hj]
    rfl
theorem grown_trans {a b c : World} {row : Option Nat} (h : a.grownBy b none) (k : b.grownBy c row) : a.grownBy c row :=
  ⟨k.os.trans h.os, k.tape.trans h.tape, k.output.trans h.output, Nat.le_trans h.size k.size, fun i hi hr => (k.block i (Nat.lt_of_lt_of_le hi h.size) hr).trans (h.block i hi (by simp))⟩
/-- A row of the call's own that is written leaves what lay below its base. -/
theorem below_grow {B : Nat} {w w1 w2 : World} {e : TypeId} {size : Nat} {v : Value} {n : Nat} {xs : List Value} (hB : Below B w w1) (hb : B ≤ w1.heap.size) (hown : w1.ownsRow B e size v n xs) (hg : w1.grownBy w2 v.ownBlock) : Below B w w2 :=
  hB.grown hg hb (fun j ej => by
    rcases hown.2 with ⟨rfl, _⟩ | ⟨g, cap, cur, rfl, hbg, _, _⟩
    · simp [Value.ownBlock] at ej
    · obtain rfl : g = j := by simpa [Value.ownBlock] using ej
      exact hbg)
theorem ownsRow_below {base B : Nat} {e : TypeId} {size : Nat} {v : Value} {n : Nat} {xs : List Value} {w w' : World} (h : w.ownsRow base e size v n xs) (hb : Below B w w') (hB : w.heap.size ≤ B) : w'.ownsRow base e size v n xs := by
  rcases h with ⟨h1, ⟨rfl, h2⟩ | ⟨g, cap, cur, rfl, hbg, hg, h3⟩⟩
  · exact ⟨h1, .inl ⟨rfl, h2⟩⟩
  · have hlt : g < w.heap.size := (Array.getElem?_eq_some_iff.1 hg).1
    exact ⟨h1, .inr ⟨g, cap, cur, rfl, hbg, (hb.block g (by omega)).trans hg, h3⟩⟩
theorem news_at (w : World) (t : TypeId) (l : List Value) : ∀ (j : Nat) (u : Value), l[j]? = some u → (w.alloc (.cells l.toArray t)).cell? ((⟨w.heap.size, 0, none⟩ : Addr).add j) = some u := by
  intro j u h
  have hb : (w.alloc (.cells l.toArray t)).heap[w.heap.size]? = some (.cells l.toArray t) := heap_alloc_new w _
  generalize w.alloc (.cells l.toArray t) = W at hb ⊢
  generalize w.heap.size = g at hb ⊢
  by_cases hj : j = 0
  · subst hj; simp [World.cell?, Addr.add, hb, h]
  · simp [World.cell?, Addr.add, hj, hb, h]
theorem take_snoc {α : Type} (l : List α) (d : α) (k : Nat) (h : k < l.length) : l.take (k + 1) = l.take k ++ [l[k]?.getD d] := by
  rw [List.take_succ_eq_append_getElem h, List.getElem?_eq_getElem h]; rfl
theorem ret_int {k : IntKind} {a b : Int} (h : a = b) : Ending.returned (.int k a) = .returned (.int k b) := by rw [h]
theorem ret_bool {a b : Bool} (h : a = b) : Ending.returned (.bool a) = .returned (.bool b) := by rw [h]
theorem Tryd.info21 : (Tryd.prog.info? 21).map (fun i => (i.zero, i.size, i.bytes)) = some (some (.int .i32 0), 1, 4) := by kernel_rfl
theorem Tryd.info5 : (Tryd.prog.info? 5).map (fun i => (i.zero, i.size, i.bytes)) = some (some (.int .u8 0), 1, 1) := by kernel_rfl
end Go.Proofs.YtlgnnljleooenaaDoor
