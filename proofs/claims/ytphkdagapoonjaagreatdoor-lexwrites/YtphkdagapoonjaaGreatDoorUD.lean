/- The contract of utf.Decode: what it answers is what stands in its bytes, in new memory. -/
import Derived.Test.YtphkdagapoonjaaGreatDoorUI
namespace Go.Proofs.YtphkdagapoonjaaGreatDoor.U
open Go.RowKit Go.Shelf
attribute [local go_sem] Oper.semAt_some

/-- The code points that stand in bytes. -/
def dec (l : List Int) : List Int := (scl l).map fun x => x.1.1
def fsts (l : List Sc) : List Int := l.map fun x => x.1.1
theorem fsts_snoc (l : List Sc) (x : Sc) : fsts (l ++ [x]) = fsts l ++ [x.1.1] := by simp [fsts]
theorem fsts_len (l : List Sc) : (fsts l).length = l.length := by simp [fsts]
theorem Tryz.info21 : (Tryz.prog.info? 21).map (fun i => (i.zero, i.size, i.bytes)) = some (some (.int .i32 0), 1, 4) := by kernel_rfl

end Go.Proofs.YtphkdagapoonjaaGreatDoor.U
