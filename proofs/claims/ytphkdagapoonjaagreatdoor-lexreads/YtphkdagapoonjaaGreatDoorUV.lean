/- The contract of utf.Valid: it answers whether all that stands in its bytes is whole. -/
import Derived.Test.YtphkdagapoonjaaGreatDoorUI
namespace Go.Proofs.YtphkdagapoonjaaGreatDoor.U
open Go.RowKit Go.Shelf
attribute [local go_sem] Oper.semAt_some

/-- Is all that stands in bytes whole? -/
def val (l : List Int) : Bool := (scl l).all fun x => x.1.2

end Go.Proofs.YtphkdagapoonjaaGreatDoor.U
