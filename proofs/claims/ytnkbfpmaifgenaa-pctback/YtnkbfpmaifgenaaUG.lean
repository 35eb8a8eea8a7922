/- append on slices of code points, and what a slice that came in leads to. -/
import Derived.Test.YtnkbfpmaifgenaaUR
import Derived.Test.YtnkbfpmaifgenaaUT
import Derived.Laws.AppendOwnNone
import Derived.Laws.Concat
namespace Go.Proofs.Ytnkbfpmaifgenaa.U
open Go.RowKit

/-- What an append takes its numbers from. -/
def SrcInts (w : World) (u : Value) (zs : List Int) : Prop :=
  (u = .slice none 0 0 ∧ zs = []) ∨ ∃ ad c, u = .slice (some ad) zs.length c ∧ ∀ j, j < zs.length → w.cell? (ad.add j) = some (.int .i32 (zs[j]?.getD 0))

theorem SrcInts.own {w : World} {base : Nat} {v : Value} {n : Nat} {zs : List Int} (hn : n = zs.length) (h : w.ownsRow base 21 1 v n (zs.map (Value.int .i32))) : SrcInts w v zs := by
  subst hn
  rcases id h.2 with ⟨rfl, h0⟩ | ⟨g, cap, cur, rfl, _⟩
  · exact .inl ⟨rfl, List.length_eq_zero_iff.1 h0⟩
  · refine .inr ⟨⟨g, 0, none⟩, cap, rfl, fun j hj => ?_⟩
    rw [addr_add0, h.cellAt j (by omega), List.getElem?_map, List.getElem?_eq_getElem hj]
    rfl
theorem SrcInts.below {A B : World} {n : Nat} (h : Below n A B) (hn : A.heap.size ≤ n) {v : Value} {zs : List Int} : SrcInts A v zs → SrcInts B v zs
  | .inl e => .inl e
  | .inr ⟨ad, c, e, hc⟩ => .inr ⟨ad, c, e, fun j hj => (h.cell (p := ad.add j) (Nat.lt_of_lt_of_le (lt_of_cell (hc j hj)) hn)).trans (hc j hj)⟩

theorem wpList_append_ints {w : World} {ops : Array Oper} {rest : List Oper} {o : Oper} {a : Act} {Q : Exit → Act → World → Prop} (hgd : o.guard = none) (s x : Operand)
    (ho : o.op = .call { callee := .builtin .append, args := #[s, x], argTypes := #[25, 25] }) (base : Nat) (v : Value) (n : Nat) (ys : List Int) (hs : a.eval s = v) (hown : w.ownsRow base 21 1 v n (ys.map (Value.int .i32)))
    (u : Value) (zs : List Int) (hx : a.eval x = u) (hu : SrcInts w u zs) (hbd : n + zs.length ≤ 17179869184) (hbase : base ≤ w.heap.size)
    (h : ∀ v' w', w'.ownsRow base 21 1 v' (n + zs.length) ((ys ++ zs).map (Value.int .i32)) → w.grownBy w' v.ownBlock → wpList Try.prog ops Q rest (a.put o.dst v') w') : wpList Try.prog ops Q (o :: rest) a w := by
  obtain ⟨i0, hi, hz0, hz1, hz2⟩ := info_parts Try.info21
  rcases hu with ⟨rfl, rfl⟩ | ⟨ad, c, rfl, hc⟩
  · exact wpList_append_own_none hgd s x 25 ho base 21 i0 1 Try.underlying25 hi v n _ hs hown hx (h v w (by simpa using hown) ⟨rfl, rfl, rfl, Nat.le_refl _, fun _ _ _ => rfl⟩)
  · refine wpList_append_own w hgd s x 25 ho base 21 i0 (.int .i32 0) 1 4 Try.underlying25 hi hz0 hz1 hz2 rfl (by decide) v n _ hs hown ad zs.length c (zs.map (Value.int .i32)) hx (by simp) ?_ ?_ (by unfold maxLen; omega) (by omega) hbase (fun v' w' h1 h2 _ => h v' w' (by simpa using h1) h2)
    · intro j y hj
      rw [List.getElem?_map] at hj
      obtain ⟨c', hc', rfl⟩ := Option.map_eq_some_iff.1 hj
      have hj' := (List.getElem?_eq_some_iff.1 hc').1
      rw [hc j hj', hc']; rfl
    · intro y hy
      obtain ⟨c', _, rfl⟩ := List.mem_map.1 hy
      rfl

/-- A row of the call's own that is written leaves what lay below its base. -/
theorem below_grow {B : Nat} {w w1 w2 : World} {e : TypeId} {size : Nat} {v : Value} {n : Nat} {xs : List Value} (hB : Below B w w1) (hb : B ≤ w1.heap.size) (hown : w1.ownsRow B e size v n xs) (hg : w1.grownBy w2 v.ownBlock) : Below B w w2 :=
  hB.grown hg hb (fun j ej => by
    rcases hown.2 with ⟨rfl, _⟩ | ⟨g, cap, cur, rfl, hbg, _, _⟩
    · simp [Value.ownBlock] at ej
    · obtain rfl : g = j := by simpa [Value.ownBlock] using ej
      exact hbg)
theorem bn_append (a b : ByteArray) : bn (a ++ b) = bn a ++ bn b := by
  unfold bn
  rw [← List.map_append]
  congr 1
theorem ownsRow_below {base B : Nat} {e : TypeId} {size : Nat} {v : Value} {n : Nat} {xs : List Value} {w w' : World} (h : w.ownsRow base e size v n xs) (hb : Below B w w') (hB : w.heap.size ≤ B) : w'.ownsRow base e size v n xs := by
  rcases h with ⟨h1, ⟨rfl, h2⟩ | ⟨g, cap, cur, rfl, hbg, hg, h3⟩⟩
  · exact ⟨h1, .inl ⟨rfl, h2⟩⟩
  · have hlt : g < w.heap.size := (Array.getElem?_eq_some_iff.1 hg).1
    exact ⟨h1, .inr ⟨g, cap, cur, rfl, hbg, (hb.block g (by omega)).trans hg, h3⟩⟩
end Go.Proofs.Ytnkbfpmaifgenaa.U
