/- The contracts of the statements' own helpers: runes (two like lists), works. -/
import Derived.Test.YtnkbfpmaifgenaaUE
import Derived.Test.YtnkbfpmaifgenaaUV
import Derived.Deep.QuietTactic
import Derived.BigQuiet
namespace Go.Proofs.Ytnkbfpmaifgenaa.U
open Go.RowKit

theorem bn_inj {s t : ByteArray} (h : bn s = bn t) : s = t := by
  unfold bn at h
  have h2 : s.data.toList = t.data.toList := by
    have : ∀ (a b : List UInt8), a.map (fun c => (c.toNat : Int)) = b.map (fun c => (c.toNat : Int)) → a = b := by
      intro a
      induction a with
      | nil => intro b hb; cases b with
        | nil => rfl
        | cons _ _ => simp at hb
      | cons x a ih => intro b hb; cases b with
        | nil => simp at hb
        | cons y b =>
          simp only [List.map_cons, List.cons.injEq] at hb
          have hxy : x = y := UInt8.toNat_inj.1 (by have := hb.1; omega)
          rw [ih b hb.2, hxy]
    exact this _ _ h
  cases s; cases t
  congr 1
  exact Array.toList_inj.1 h2
theorem drewN_drewN (w : World) (a b : Nat) : (w.drewN a).drewN b = w.drewN (a + b) := by simp [World.drewN, Nat.add_assoc]
theorem below_drewN (B : Nat) (w : World) (n : Nat) : Below B w (w.drewN n) := ⟨rfl, rfl, rfl, Nat.le_refl _, fun _ _ => rfl⟩

theorem ints_new (W : World) (zs : List Int) (hp : 0 < zs.length) (cap : Nat) : IntsAt (W.alloc (.cells (zs.map (Value.int .i32)).toArray 21)) (.slice (some ⟨W.heap.size, 0, none⟩) zs.length cap) zs := by
  refine .inr ⟨hp, W.heap.size, 0, cap, rfl, fun j hj => ?_⟩
  have := news_at W 21 (zs.map (Value.int .i32)) j (.int .i32 (zs[j]?.getD 0)) (by rw [List.getElem?_map, List.getElem?_eq_getElem hj]; rfl)
  rw [addr_add0] at this
  rw [Nat.zero_add]; exact this

end Go.Proofs.Ytnkbfpmaifgenaa.U
