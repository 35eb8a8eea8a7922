/- The contract of utf.appendScalar: the bytes of a code point, behind those that there are. -/
import Derived.Test.YtphkdagapoonjaaGreatDoorZUM
import Derived.OwnWalk
import Derived.Maps.AppendAt
namespace Go.Proofs.YtphkdagapoonjaaGreatDoor.U
open Go.RowKit

/-- The bytes of a code point. -/
def enc (c : Int) : List Int :=
  if c < 128 then [c] else if c < 2048 then [192 + c / 64, 128 + c % 64] else if c < 65536 then [224 + c / 4096, 128 + c / 64 % 64, 128 + c % 64]
  else [240 + c / 262144, 128 + c / 4096 % 64, 128 + c / 64 % 64, 128 + c % 64]
theorem enc_len (c : Int) : 1 ≤ (enc c).length ∧ (enc c).length ≤ 4 := by unfold enc; (repeat' split) <;> simp
theorem Tryz.info5 : (Tryz.prog.info? 5).map (fun i => (i.zero, i.size, i.bytes)) = some (some (.int .u8 0), 1, 1) := by kernel_rfl

theorem news_at (w : World) (t : TypeId) (l : List Value) : ∀ (j : Nat) (u : Value), l[j]? = some u → (w.alloc (.cells l.toArray t)).cell? ((⟨w.heap.size, 0, none⟩ : Addr).add j) = some u := by
  intro j u h
  have hb : (w.alloc (.cells l.toArray t)).heap[w.heap.size]? = some (.cells l.toArray t) := heap_alloc_new w _
  generalize w.alloc (.cells l.toArray t) = W at hb ⊢
  generalize w.heap.size = g at hb ⊢
  by_cases hj : j = 0
  · subst hj; simp [World.cell?, Addr.add, hb, h]
  · simp [World.cell?, Addr.add, hj, hb, h]
theorem grown_trans {a b c : World} {row : Option Nat} (h : a.grownBy b none) (k : b.grownBy c row) : a.grownBy c row :=
  ⟨k.os.trans h.os, k.tape.trans h.tape, k.output.trans h.output, Nat.le_trans h.size k.size, fun i hi hr => (k.block i (Nat.lt_of_lt_of_le hi h.size) hr).trans (h.block i hi (by simp))⟩

end Go.Proofs.YtphkdagapoonjaaGreatDoor.U
