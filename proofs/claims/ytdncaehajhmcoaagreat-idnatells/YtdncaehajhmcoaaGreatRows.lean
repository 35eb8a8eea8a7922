/-
  No cell of these rows narrows 'for every input' (looked for: loops, veiled, ifaces, maps, wideKeys, modest, calm, conditions, laid).
  DERIVED. THE GIVEN ROWS OF THIS SEAT. 5 by the template 'for every input the law returns true; each argument reads behind the call as it read before'; 0 by the template 'total and deterministic' (their statements: YtdncaehajhmcoaaGreatTotals.lean).
  GIVEN WITH THE SEED: the statements are not yours to turn. If you find one false, say at which input.
  Laid BY PROGRAM, IN A SANDBOX (cutbox-rows.mjs): the forced cells as the released guide's own fill.sh prints them over the translation 88ebdae10f37d24b… (all of the seat's roots in one cut). By AI agents, Wed Nov 11 2026. No macro, syntax, notation, axiom, sorry.
-/
import Derived.Test.YtdncaehajhmcoaaGreatChecked
import GoSem.Claim
import GoSem.ClaimJoined
import GoSem.ClaimMapViews
import Derived.JoinedTies
import Derived.KernelRfl
namespace Go.Proofs.YtdncaehajhmcoaaGreat
/- THE CELL 'sum', in the pinned program and in every row, IS THE sha256 OF THE DUMP (.gsa) THAT YtdncaehajhmcoaaGreatProg.lean LOADS. Nothing in Lean hashes anything: it is a label: what it is worth is what the hold of that sum in a sandbox is worth. -/
noncomputable def Tryz.pinned : Pinned := { name := "ytdncaehajhmcoaagreat", sum := "88ebdae10f37d24b36b715e691c7dfed076efbc28d2bb0a499322e30f3d83b22", checked := Tryz.checked }
namespace Rows
def none {H : Type} : Left H := { results := [], args := [] }

/-- 'portcullislaw07.IdnaTells': WHATEVER THE INPUT: true; the input reads as it did. -/
def idnaTellsSpec : ChangeSpec := { name := "idnaTells", fn := fun _ => fun
  | [d1, d2, d3] => { results := [.lit (.bool true)], args := [d1, d2, d3] }
  | _ => none }
def idnaTellsRow : OpenClaim := { program := "ytdncaehajhmcoaagreat", sum := "88ebdae10f37d24b36b715e691c7dfed076efbc28d2bb0a499322e30f3d83b22", func := "portcullis/portcullislaw07.IdnaTells", spec := "idnaTells", inPlace := ["slices.overlaps[rune]", "internal/abi.NoEscape", "internal/bytealg.MakeNoZero"], unfollowed := true, recurses := true, apart := false }
def IdnaTellsSaid : Prop := idnaTellsRow.holds Tryz.pinned (OpenSpec.ofChange idnaTellsSpec)

/-- ITS FALSE NEIGHBOUR: 'it returns false'. Refute it at one input. -/
def idnaTellsWrong : ChangeSpec := { name := "idnaTells", fn := fun _ => fun
  | [d1, d2, d3] => { results := [.lit (.bool false)], args := [d1, d2, d3] }
  | _ => none }
def IdnaTellsWrongFalsely : Prop := idnaTellsRow.holds Tryz.pinned (OpenSpec.ofChange idnaTellsWrong)

/-- 'portcullislaw07.IdnaRests': WHATEVER THE INPUT: true; the input reads as it did. -/
def idnaRestsSpec : ChangeSpec := { name := "idnaRests", fn := fun _ => fun
  | [d1, d2, d3] => { results := [.lit (.bool true)], args := [d1, d2, d3] }
  | _ => none }
def idnaRestsRow : OpenClaim := { program := "ytdncaehajhmcoaagreat", sum := "88ebdae10f37d24b36b715e691c7dfed076efbc28d2bb0a499322e30f3d83b22", func := "portcullis/portcullislaw07.IdnaRests", spec := "idnaRests", inPlace := ["slices.overlaps[rune]", "internal/abi.NoEscape", "internal/bytealg.MakeNoZero"], unfollowed := true, recurses := true, apart := false }
def IdnaRestsSaid : Prop := idnaRestsRow.holds Tryz.pinned (OpenSpec.ofChange idnaRestsSpec)

/-- ITS FALSE NEIGHBOUR: 'it returns false'. Refute it at one input. -/
def idnaRestsWrong : ChangeSpec := { name := "idnaRests", fn := fun _ => fun
  | [d1, d2, d3] => { results := [.lit (.bool false)], args := [d1, d2, d3] }
  | _ => none }
def IdnaRestsWrongFalsely : Prop := idnaRestsRow.holds Tryz.pinned (OpenSpec.ofChange idnaRestsWrong)

/-- 'portcullislaw07.IdnaFolds': WHATEVER THE INPUT: true; the input reads as it did. -/
def idnaFoldsSpec : ChangeSpec := { name := "idnaFolds", fn := fun _ => fun
  | [d1, d2, d3] => { results := [.lit (.bool true)], args := [d1, d2, d3] }
  | _ => none }
def idnaFoldsRow : OpenClaim := { program := "ytdncaehajhmcoaagreat", sum := "88ebdae10f37d24b36b715e691c7dfed076efbc28d2bb0a499322e30f3d83b22", func := "portcullis/portcullislaw07.IdnaFolds", spec := "idnaFolds", inPlace := ["slices.overlaps[rune]", "internal/abi.NoEscape", "internal/bytealg.MakeNoZero"], unfollowed := true, recurses := true, apart := false }
def IdnaFoldsSaid : Prop := idnaFoldsRow.holds Tryz.pinned (OpenSpec.ofChange idnaFoldsSpec)

/-- ITS FALSE NEIGHBOUR: 'it returns false'. Refute it at one input. -/
def idnaFoldsWrong : ChangeSpec := { name := "idnaFolds", fn := fun _ => fun
  | [d1, d2, d3] => { results := [.lit (.bool false)], args := [d1, d2, d3] }
  | _ => none }
def IdnaFoldsWrongFalsely : Prop := idnaFoldsRow.holds Tryz.pinned (OpenSpec.ofChange idnaFoldsWrong)

/-- 'portcullislaw07.IdnaJoins': WHATEVER THE INPUT: true; the input reads as it did. -/
def idnaJoinsSpec : ChangeSpec := { name := "idnaJoins", fn := fun _ => fun
  | [d1, d2, d3] => { results := [.lit (.bool true)], args := [d1, d2, d3] }
  | _ => none }
def idnaJoinsRow : OpenClaim := { program := "ytdncaehajhmcoaagreat", sum := "88ebdae10f37d24b36b715e691c7dfed076efbc28d2bb0a499322e30f3d83b22", func := "portcullis/portcullislaw07.IdnaJoins", spec := "idnaJoins", inPlace := ["slices.overlaps[rune]", "internal/abi.NoEscape", "internal/bytealg.MakeNoZero"], unfollowed := true, recurses := true, apart := false }
def IdnaJoinsSaid : Prop := idnaJoinsRow.holds Tryz.pinned (OpenSpec.ofChange idnaJoinsSpec)

/-- ITS FALSE NEIGHBOUR: 'it returns false'. Refute it at one input. -/
def idnaJoinsWrong : ChangeSpec := { name := "idnaJoins", fn := fun _ => fun
  | [d1, d2, d3] => { results := [.lit (.bool false)], args := [d1, d2, d3] }
  | _ => none }
def IdnaJoinsWrongFalsely : Prop := idnaJoinsRow.holds Tryz.pinned (OpenSpec.ofChange idnaJoinsWrong)

/-- 'portcullislaw07.IdnaPlain': WHATEVER THE INPUT: true; the input reads as it did. -/
def idnaPlainSpec : ChangeSpec := { name := "idnaPlain", fn := fun _ => fun
  | [d1, d2] => { results := [.lit (.bool true)], args := [d1, d2] }
  | _ => none }
def idnaPlainRow : OpenClaim := { program := "ytdncaehajhmcoaagreat", sum := "88ebdae10f37d24b36b715e691c7dfed076efbc28d2bb0a499322e30f3d83b22", func := "portcullis/portcullislaw07.IdnaPlain", spec := "idnaPlain", inPlace := ["slices.overlaps[rune]", "internal/abi.NoEscape", "internal/bytealg.MakeNoZero"], unfollowed := true, recurses := true, apart := false }
def IdnaPlainSaid : Prop := idnaPlainRow.holds Tryz.pinned (OpenSpec.ofChange idnaPlainSpec)

/-- ITS FALSE NEIGHBOUR: 'it returns false'. Refute it at one input. -/
def idnaPlainWrong : ChangeSpec := { name := "idnaPlain", fn := fun _ => fun
  | [d1, d2] => { results := [.lit (.bool false)], args := [d1, d2] }
  | _ => none }
def IdnaPlainWrongFalsely : Prop := idnaPlainRow.holds Tryz.pinned (OpenSpec.ofChange idnaPlainWrong)

/- THE SECOND FORM. 'bulk': how many values and letters a reading holds, each counted each time it is reached (what is shared counts as often as it is met; a slice's spare places count too). A statement '..UptoSaid' is the law's where the arguments, and the package variables that the reading takes, are together of bulk at most 1048576: NARROWER than '..Said'. Prove '..Said' where nothing that the law and all that it calls make is longer than what came in: it says more and counts as full. Else prove '..UptoSaid'. A law counts once. -/
mutual
def uptoBulk {H : Type} : DataW H → Nat
  | .lit (.string bytes) => bytes.length + 1
  | .lit _ => 1
  | .nil => 1
  | .ptr d => uptoBulk d + 1
  | .slice elems spare => uptoBulkAll elems + uptoBulkAll spare + 1
  | .agg parts => uptoBulkAll parts + 1
  | .iface _ d => uptoBulk d + 1
  | .map entries => uptoBulkEntries entries + 1
  | .held _ => 1
def uptoBulkAll {H : Type} : List (DataW H) → Nat
  | [] => 0
  | d :: r => uptoBulk d + uptoBulkAll r
def uptoBulkEntries {H : Type} : List (Lit × DataW H) → Nat
  | [] => 0
  | x :: r => uptoBulkEntry x + uptoBulkEntries r
def uptoBulkEntry {H : Type} : Lit × DataW H → Nat
  | (.string bytes, d) => bytes.length + uptoBulk d + 1
  | (_, d) => uptoBulk d + 1
 end
def uptoSmall : (H : Type) → List (DataW H) → Bool := fun _ ds => decide (uptoBulkAll ds ≤ 1048576)
def OpenSpec.upto (s : _root_.Go.ChangeSpec) : _root_.Go.OpenSpec := { _root_.Go.OpenSpec.ofChange s with cond := some uptoSmall }

/-- 'portcullislaw07.IdnaTells', WHERE WHAT IT READS IS OF BULK AT MOST 1048576: true; the input reads as it did. -/
def idnaTellsUptoRow : OpenClaim := { program := "ytdncaehajhmcoaagreat", sum := "88ebdae10f37d24b36b715e691c7dfed076efbc28d2bb0a499322e30f3d83b22", func := "portcullis/portcullislaw07.IdnaTells", spec := "idnaTells", inPlace := ["slices.overlaps[rune]", "internal/abi.NoEscape", "internal/bytealg.MakeNoZero"], unfollowed := true, recurses := true, apart := false, narrowed := true }
def IdnaTellsUptoSaid : Prop := idnaTellsUptoRow.holds Tryz.pinned (OpenSpec.upto idnaTellsSpec)

/-- 'portcullislaw07.IdnaRests', WHERE WHAT IT READS IS OF BULK AT MOST 1048576: true; the input reads as it did. -/
def idnaRestsUptoRow : OpenClaim := { program := "ytdncaehajhmcoaagreat", sum := "88ebdae10f37d24b36b715e691c7dfed076efbc28d2bb0a499322e30f3d83b22", func := "portcullis/portcullislaw07.IdnaRests", spec := "idnaRests", inPlace := ["slices.overlaps[rune]", "internal/abi.NoEscape", "internal/bytealg.MakeNoZero"], unfollowed := true, recurses := true, apart := false, narrowed := true }
def IdnaRestsUptoSaid : Prop := idnaRestsUptoRow.holds Tryz.pinned (OpenSpec.upto idnaRestsSpec)

/-- 'portcullislaw07.IdnaFolds', WHERE WHAT IT READS IS OF BULK AT MOST 1048576: true; the input reads as it did. -/
def idnaFoldsUptoRow : OpenClaim := { program := "ytdncaehajhmcoaagreat", sum := "88ebdae10f37d24b36b715e691c7dfed076efbc28d2bb0a499322e30f3d83b22", func := "portcullis/portcullislaw07.IdnaFolds", spec := "idnaFolds", inPlace := ["slices.overlaps[rune]", "internal/abi.NoEscape", "internal/bytealg.MakeNoZero"], unfollowed := true, recurses := true, apart := false, narrowed := true }
def IdnaFoldsUptoSaid : Prop := idnaFoldsUptoRow.holds Tryz.pinned (OpenSpec.upto idnaFoldsSpec)

/-- 'portcullislaw07.IdnaJoins', WHERE WHAT IT READS IS OF BULK AT MOST 1048576: true; the input reads as it did. -/
def idnaJoinsUptoRow : OpenClaim := { program := "ytdncaehajhmcoaagreat", sum := "88ebdae10f37d24b36b715e691c7dfed076efbc28d2bb0a499322e30f3d83b22", func := "portcullis/portcullislaw07.IdnaJoins", spec := "idnaJoins", inPlace := ["slices.overlaps[rune]", "internal/abi.NoEscape", "internal/bytealg.MakeNoZero"], unfollowed := true, recurses := true, apart := false, narrowed := true }
def IdnaJoinsUptoSaid : Prop := idnaJoinsUptoRow.holds Tryz.pinned (OpenSpec.upto idnaJoinsSpec)

/-- 'portcullislaw07.IdnaPlain', WHERE WHAT IT READS IS OF BULK AT MOST 1048576: true; the input reads as it did. -/
def idnaPlainUptoRow : OpenClaim := { program := "ytdncaehajhmcoaagreat", sum := "88ebdae10f37d24b36b715e691c7dfed076efbc28d2bb0a499322e30f3d83b22", func := "portcullis/portcullislaw07.IdnaPlain", spec := "idnaPlain", inPlace := ["slices.overlaps[rune]", "internal/abi.NoEscape", "internal/bytealg.MakeNoZero"], unfollowed := true, recurses := true, apart := false, narrowed := true }
def IdnaPlainUptoSaid : Prop := idnaPlainUptoRow.holds Tryz.pinned (OpenSpec.upto idnaPlainSpec)

end Rows
end Go.Proofs.YtdncaehajhmcoaaGreat
