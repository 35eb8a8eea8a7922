/- The contracts of the document's own answer (package portcullisref01): Scalar, Bytes, Encode. -/
import Derived.Test.YtpjbiapgkbooaaaUG
namespace Go.Proofs.Ytpjbiapgkbooaaa.U
open Go.RowKit

set_option maxHeartbeats 400000 in
theorem refScalar_any (c : Int) (w : World) :
    Calls Try.prog 18 #[.int .i32 c] w fun e w' => e = .returned (.bool (scal c)) ∧ w' = w := by
  go_enter Try.func18, Try.ntmps18
  go_wp2
  all_goals (go_ret; exact ⟨ret_bool (by unfold scal; rw [Bool.eq_iff_iff]; simp; try omega), rfl⟩)

/-- What the document's Encode answers. -/
def encQ (zs : List Int) (t : ByteArray) (e : Bool) : Prop := (zs.all scal = true ∧ e = true ∧ bn t = encs zs) ∨ (zs.all scal = false ∧ e = false ∧ t = ⟨#[]⟩)

end Go.Proofs.Ytpjbiapgkbooaaa.U
