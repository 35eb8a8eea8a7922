/- What the walks of stage 10 want, met by the program. -/
import Derived.Test.YtklplalfcpigcaaDoorFC
import Derived.Test.YtklplalfcpigcaaDoorFV
import Derived.Test.YtklplalfcpigcaaDoorFX
namespace Go.Proofs.YtklplalfcpigcaaDoor.F
open Go.RowKit
set_option linter.unusedVariables false

/-- The listed table as the text lays it; a variable of the library that holds any number. -/
def Gw (w : World) : Prop := Pow w ∧ Max w
theorem ctr : Ctr Gw where
  keep := fun w w' h hb => ⟨h.1.below h.1.size hb, h.2.below hb⟩
  cn := fun s w hs _ => (number_any s w hs)
  ce := fun s w hs _ => ends_any s w hs
  cp := fun s w hs h => parse_any s w hs h.2
  ct := fun a w ha h => text_any a ha w h.1
end Go.Proofs.YtklplalfcpigcaaDoor.F
