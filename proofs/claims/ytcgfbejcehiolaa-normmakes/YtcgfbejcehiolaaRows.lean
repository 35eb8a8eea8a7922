/-
  No cell of these rows narrows 'for every input' (looked for: loops, veiled, ifaces, maps, wideKeys, modest, calm, conditions, laid).
  DERIVED. THE GIVEN ROWS OF THIS SEAT. 4 by the template 'for every input the law returns true; each argument reads behind the call as it read before'; 0 by the template 'total and deterministic' (their statements: YtcgfbejcehiolaaTotals.lean).
  GIVEN WITH THE SEED: the statements are not yours to turn. If you find one false, say at which input.
  Laid BY PROGRAM, IN A SANDBOX (cutbox-rows.mjs): the forced cells as the released guide's own fill.sh prints them over the translation a801a1003b0ed56c… (all of the seat's roots in one cut). By AI agents, Wed Nov 11 2026. No macro, syntax, notation, axiom, sorry.
-/
import Derived.Test.YtcgfbejcehiolaaChecked
import GoSem.Claim
import GoSem.ClaimJoined
import GoSem.ClaimMapViews
import Derived.JoinedTies
import Derived.KernelRfl
namespace Go.Proofs.Ytcgfbejcehiolaa
/- THE CELL 'sum', in the pinned program and in every row, IS THE sha256 OF THE DUMP (.gsa) THAT YtcgfbejcehiolaaProg.lean LOADS. Nothing in Lean hashes anything: it is a label: what it is worth is what the hold of that sum in a sandbox is worth. -/
noncomputable def Try.pinned : Pinned := { name := "ytcgfbejcehiolaa", sum := "a801a1003b0ed56cc40bd20fca1c1d366a2571fa76a8692310d35b95c55c5df7", checked := Try.checked }
namespace Rows
def none {H : Type} : Left H := { results := [], args := [] }

/-- 'portcullislaw04.NormMakes': WHATEVER THE INPUT: true; the input reads as it did. -/
def normMakesSpec : ChangeSpec := { name := "normMakes", fn := fun _ => fun
  | [d1, d2] => { results := [.lit (.bool true)], args := [d1, d2] }
  | _ => none }
def normMakesRow : OpenClaim := { program := "ytcgfbejcehiolaa", sum := "a801a1003b0ed56cc40bd20fca1c1d366a2571fa76a8692310d35b95c55c5df7", func := "portcullis/portcullislaw04.NormMakes", spec := "normMakes", unfollowed := true, recurses := true, apart := false }
def NormMakesSaid : Prop := normMakesRow.holds Try.pinned (OpenSpec.ofChange normMakesSpec)

/-- ITS FALSE NEIGHBOUR: 'it returns false'. Refute it at one input. -/
def normMakesWrong : ChangeSpec := { name := "normMakes", fn := fun _ => fun
  | [d1, d2] => { results := [.lit (.bool false)], args := [d1, d2] }
  | _ => none }
def NormMakesWrongFalsely : Prop := normMakesRow.holds Try.pinned (OpenSpec.ofChange normMakesWrong)

/-- 'portcullislaw04.NormRests': WHATEVER THE INPUT: true; the input reads as it did. -/
def normRestsSpec : ChangeSpec := { name := "normRests", fn := fun _ => fun
  | [d] => { results := [.lit (.bool true)], args := [d] }
  | _ => none }
def normRestsRow : OpenClaim := { program := "ytcgfbejcehiolaa", sum := "a801a1003b0ed56cc40bd20fca1c1d366a2571fa76a8692310d35b95c55c5df7", func := "portcullis/portcullislaw04.NormRests", spec := "normRests", unfollowed := true, recurses := true, apart := false }
def NormRestsSaid : Prop := normRestsRow.holds Try.pinned (OpenSpec.ofChange normRestsSpec)

/-- ITS FALSE NEIGHBOUR: 'it returns false'. Refute it at one input. -/
def normRestsWrong : ChangeSpec := { name := "normRests", fn := fun _ => fun
  | [d] => { results := [.lit (.bool false)], args := [d] }
  | _ => none }
def NormRestsWrongFalsely : Prop := normRestsRow.holds Try.pinned (OpenSpec.ofChange normRestsWrong)

/-- 'portcullislaw04.NormKeeps': WHATEVER THE INPUT: true; the input reads as it did. -/
def normKeepsSpec : ChangeSpec := { name := "normKeeps", fn := fun _ => fun
  | [d] => { results := [.lit (.bool true)], args := [d] }
  | _ => none }
def normKeepsRow : OpenClaim := { program := "ytcgfbejcehiolaa", sum := "a801a1003b0ed56cc40bd20fca1c1d366a2571fa76a8692310d35b95c55c5df7", func := "portcullis/portcullislaw04.NormKeeps", spec := "normKeeps", unfollowed := true, recurses := true, apart := false }
def NormKeepsSaid : Prop := normKeepsRow.holds Try.pinned (OpenSpec.ofChange normKeepsSpec)

/-- ITS FALSE NEIGHBOUR: 'it returns false'. Refute it at one input. -/
def normKeepsWrong : ChangeSpec := { name := "normKeeps", fn := fun _ => fun
  | [d] => { results := [.lit (.bool false)], args := [d] }
  | _ => none }
def NormKeepsWrongFalsely : Prop := normKeepsRow.holds Try.pinned (OpenSpec.ofChange normKeepsWrong)

/-- 'portcullislaw04.NormJoins': WHATEVER THE INPUT: true; the input reads as it did. -/
def normJoinsSpec : ChangeSpec := { name := "normJoins", fn := fun _ => fun
  | [d1, d2] => { results := [.lit (.bool true)], args := [d1, d2] }
  | _ => none }
def normJoinsRow : OpenClaim := { program := "ytcgfbejcehiolaa", sum := "a801a1003b0ed56cc40bd20fca1c1d366a2571fa76a8692310d35b95c55c5df7", func := "portcullis/portcullislaw04.NormJoins", spec := "normJoins", unfollowed := true, recurses := true, apart := false }
def NormJoinsSaid : Prop := normJoinsRow.holds Try.pinned (OpenSpec.ofChange normJoinsSpec)

/-- ITS FALSE NEIGHBOUR: 'it returns false'. Refute it at one input. -/
def normJoinsWrong : ChangeSpec := { name := "normJoins", fn := fun _ => fun
  | [d1, d2] => { results := [.lit (.bool false)], args := [d1, d2] }
  | _ => none }
def NormJoinsWrongFalsely : Prop := normJoinsRow.holds Try.pinned (OpenSpec.ofChange normJoinsWrong)

/- THE SECOND FORM. 'bulk': how many values and letters a reading holds, each counted each time it is reached (what is shared counts as often as it is met; a slice's spare places count too). A statement '..UptoSaid' is the law's where the arguments, and the package variables that the reading takes, are together of bulk at most 1048576: NARROWER than '..Said'. Prove '..Said' where nothing that the law and all that it calls make is longer than what came in: it says more and counts as full. Else prove '..UptoSaid'. A law counts once. -/
mutual
def uptoBulk {H : Type} : DataW H → Nat
  | .lit (.string bytes) => bytes.length + 1
  | .lit _ => 1
  | .nil => 1
  | .ptr d => uptoBulk d + 1
  | .slice elems spare => uptoBulkAll elems + uptoBulkAll spare + 1
  | .agg parts => uptoBulkAll parts + 1
  | .iface _ d => uptoBulk d + 1
  | .map entries => uptoBulkEntries entries + 1
  | .held _ => 1
def uptoBulkAll {H : Type} : List (DataW H) → Nat
  | [] => 0
  | d :: r => uptoBulk d + uptoBulkAll r
def uptoBulkEntries {H : Type} : List (Lit × DataW H) → Nat
  | [] => 0
  | x :: r => uptoBulkEntry x + uptoBulkEntries r
def uptoBulkEntry {H : Type} : Lit × DataW H → Nat
  | (.string bytes, d) => bytes.length + uptoBulk d + 1
  | (_, d) => uptoBulk d + 1
 end
def uptoSmall : (H : Type) → List (DataW H) → Bool := fun _ ds => decide (uptoBulkAll ds ≤ 1048576)
def OpenSpec.upto (s : _root_.Go.ChangeSpec) : _root_.Go.OpenSpec := { _root_.Go.OpenSpec.ofChange s with cond := some uptoSmall }

/-- 'portcullislaw04.NormMakes', WHERE WHAT IT READS IS OF BULK AT MOST 1048576: true; the input reads as it did. -/
def normMakesUptoRow : OpenClaim := { program := "ytcgfbejcehiolaa", sum := "a801a1003b0ed56cc40bd20fca1c1d366a2571fa76a8692310d35b95c55c5df7", func := "portcullis/portcullislaw04.NormMakes", spec := "normMakes", unfollowed := true, recurses := true, apart := false, narrowed := true }
def NormMakesUptoSaid : Prop := normMakesUptoRow.holds Try.pinned (OpenSpec.upto normMakesSpec)

/-- 'portcullislaw04.NormRests', WHERE WHAT IT READS IS OF BULK AT MOST 1048576: true; the input reads as it did. -/
def normRestsUptoRow : OpenClaim := { program := "ytcgfbejcehiolaa", sum := "a801a1003b0ed56cc40bd20fca1c1d366a2571fa76a8692310d35b95c55c5df7", func := "portcullis/portcullislaw04.NormRests", spec := "normRests", unfollowed := true, recurses := true, apart := false, narrowed := true }
def NormRestsUptoSaid : Prop := normRestsUptoRow.holds Try.pinned (OpenSpec.upto normRestsSpec)

/-- 'portcullislaw04.NormKeeps', WHERE WHAT IT READS IS OF BULK AT MOST 1048576: true; the input reads as it did. -/
def normKeepsUptoRow : OpenClaim := { program := "ytcgfbejcehiolaa", sum := "a801a1003b0ed56cc40bd20fca1c1d366a2571fa76a8692310d35b95c55c5df7", func := "portcullis/portcullislaw04.NormKeeps", spec := "normKeeps", unfollowed := true, recurses := true, apart := false, narrowed := true }
def NormKeepsUptoSaid : Prop := normKeepsUptoRow.holds Try.pinned (OpenSpec.upto normKeepsSpec)

/-- 'portcullislaw04.NormJoins', WHERE WHAT IT READS IS OF BULK AT MOST 1048576: true; the input reads as it did. -/
def normJoinsUptoRow : OpenClaim := { program := "ytcgfbejcehiolaa", sum := "a801a1003b0ed56cc40bd20fca1c1d366a2571fa76a8692310d35b95c55c5df7", func := "portcullis/portcullislaw04.NormJoins", spec := "normJoins", unfollowed := true, recurses := true, apart := false, narrowed := true }
def NormJoinsUptoSaid : Prop := normJoinsUptoRow.holds Try.pinned (OpenSpec.upto normJoinsSpec)

end Rows
end Go.Proofs.Ytcgfbejcehiolaa
