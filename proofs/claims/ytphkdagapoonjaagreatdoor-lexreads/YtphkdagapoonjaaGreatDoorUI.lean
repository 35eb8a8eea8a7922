/- The contract of the iterator that utf.scalars hands back. -/
import Derived.Test.YtphkdagapoonjaaGreatDoorZUM
import Derived.RangeFuncNested
import Derived.RangeFuncBound
import Derived.RangeFuncCalls
import Derived.RangeFuncLeaves
import Derived.RangeFuncBox
import Derived.Shelf.Abstract
import Derived.OwnWalkIn
import Derived.TacticsInMore
import Derived.LoopNIn
import Derived.LoopIn
import Derived.Maps.AppendAt
import Derived.Lib.IndexBytes
namespace Go.Proofs.YtphkdagapoonjaaGreatDoor.U
open Go.RowKit Go.Shelf
attribute [local go_sem] Oper.semAt_some

abbrev encS (x : Sc) : Array Value := #[.int .i32 x.1.1, .bool x.1.2]
/-- What a round keeps: the box of the text. -/
def KeepsBox (B : Nat) (s : ByteArray) (W W' : World) : Prop := Boxed W B 9 (.string s) → Boxed W' B 9 (.string s)

theorem boxed_drewN {W : World} {B : Nat} {t : TypeId} {v : Value} (h : Boxed W B t v) (n : Nat) : Boxed (W.drewN n) B t v := h
theorem grownBy_drewN (W : World) (n : Nat) : W.grownBy (W.drewN n) none := ⟨rfl, rfl, rfl, Nat.le_refl _, fun _ _ _ => rfl⟩

theorem bn_extract (s : ByteArray) (k : Nat) : bn (s.extract k s.size) = (bn s).drop k := by
  unfold bn
  rw [Lib.extract_to_end, List.map_drop]

theorem keepsBox_t {Bs : Nat} {s : ByteArray} {A B C : World} (h : KeepsBox Bs s A B) (k : KeepsBox Bs s B C) : KeepsBox Bs s A C := fun x => k (h x)
theorem keepsBox_b {Bs : Nat} {s : ByteArray} {w : World} (hB : Bs < w.heap.size) (W : World) (l : Nat) (o o' : Obj) (hl : w.heap.size ≤ l) (_ : W.heap[l]? = some o) (_ : o.isCells = false) (_ : o.isWalk = false) : KeepsBox Bs s W (W.putObj l o') :=
  fun x => (World.putObj_heap_other (by omega)).trans x
end Go.Proofs.YtphkdagapoonjaaGreatDoor.U
