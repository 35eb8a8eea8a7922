/- A strings.Builder's check of itself, by the shelf. (Stage 15.) -/
import Derived.Test.YtphkdagapoonjaaDoorLSA
import Derived.Shelf.Strings.Builder1
namespace Go.Proofs.YtphkdagapoonjaaDoor.Lx
open Go.RowKit Go.Shelf
set_option linter.unusedVariables false

/-- The numbers of this program, in place of the shelf's. -/
def ren : Ren := ⟨fun n => match n with | 240 => 22 | 276 => 35 | _ => 0, fun n => match n with | 0 => 0 | 4 => 4 | 9 => 9 | 20 => 20 | 37 => 38 | 70 => 37 | 72 => 40 | 164 => 69 | _ => 0, fun n => 0⟩
set_option maxRecDepth 100000 in
theorem l240 : Lays.n240 Tryd.prog ren := ⟨by kernel_rfl, by kernel_rfl, by kernel_rfl,
  by kernel_rfl, fun w => by kernel_rfl, fun w => by kernel_rfl, fun w => by kernel_rfl,
  by kernel_rfl, fun w => by kernel_rfl, fun w => by kernel_rfl, fun w => by kernel_rfl,
  by kernel_rfl, fun w => by kernel_rfl, fun w => by kernel_rfl, fun w => by kernel_rfl,
  by kernel_rfl, fun w => by kernel_rfl, fun w => by kernel_rfl, fun w => by kernel_rfl,
  by kernel_rfl, fun w => by kernel_rfl, fun w => by kernel_rfl, fun w => by kernel_rfl,
  by kernel_rfl, fun w => by kernel_rfl, fun w => by kernel_rfl, fun w => by kernel_rfl,
  by kernel_rfl, fun w => by kernel_rfl, fun w => by kernel_rfl, fun w => by kernel_rfl⟩
theorem cc_fresh (b : Nat) (w : World) (h0 : w.cell? ⟨b, 0, none⟩ = some (.pointer none)) (hsh : w.shape? b = some (40, 2)) (hfz : w.frozen? ⟨b, 0, none⟩ = false) :
    Calls Tryd.prog 22 #[.pointer (some ⟨b, 0, none⟩)] w fun e w' => e = .returned (.tuple #[]) ∧ w' = w.setCell ⟨b, 0, none⟩ (.pointer (some ⟨b, 0, none⟩)) :=
  Any.Builder_copyCheck_fresh l240 ⟨by kernel_rfl, by kernel_rfl⟩ b w h0 hsh hfz
end Go.Proofs.YtphkdagapoonjaaDoor.Lx
