/-
  NARROWER THAN 'FOR EVERY INPUT', by the rows' own cells (each row's printed sentence says how): SkelTells: laid · SkelRests: laid · SkelAlike: laid · SkelLevels: laid · SkelPlain: laid.
  DERIVED. THE GIVEN ROWS OF THIS SEAT. 5 by the template 'for every input the law returns true; each argument reads behind the call as it read before'; 0 by the template 'total and deterministic' (their statements: YtpkegjbmnilmdaaDoorTotals.lean).
  GIVEN WITH THE SEED: the statements are not yours to turn. If you find one false, say at which input.
  Laid BY PROGRAM, IN A SANDBOX (cutbox-rows.mjs): the forced cells as the released guide's own fill.sh prints them over the translation 2dbbaa5e4e437704… (all of the seat's roots in one cut). By AI agents, Wed Nov 11 2026. No macro, syntax, notation, axiom, sorry.
-/
import Derived.Test.YtpkegjbmnilmdaaDoorChecked
import GoSem.Claim
import GoSem.ClaimJoined
import GoSem.ClaimMapViews
import Derived.JoinedTies
import Derived.KernelRfl
namespace Go.Proofs.YtpkegjbmnilmdaaDoor
/- THE CELL 'sum', in the pinned program and in every row, IS THE sha256 OF THE DUMP (.gsa) THAT YtpkegjbmnilmdaaDoorProg.lean LOADS. Nothing in Lean hashes anything: it is a label: what it is worth is what the hold of that sum in a sandbox is worth. -/
noncomputable def Tryd.pinned : Pinned := { name := "ytpkegjbmnilmdaadoor", sum := "2dbbaa5e4e437704150425ac04027bb928e54ee17a0c9fb0271595ebb3e5c293", checked := Tryd.checked }
namespace Rows
def none {H : Type} : Left H := { results := [], args := [] }

/- WHAT THE LISTED PACKAGE-LEVEL VARIABLES READ AS WHEN THE CALL BEGINS. Each datum BY PROGRAM (the guide's laid-datum.mjs) off the statement by which the dump's own 'gosem.cut.vars' lays the variable. In a bare row this is a premise. The card (YtpkegjbmnilmdaaDoorCards.lean) ties it to the program's text. -/
def laid_portcullis_skel_names {H : Type} : DataW H := .agg [.lit (.string [67, 111, 109, 109, 111, 110]), .lit (.string [73, 110, 104, 101, 114, 105, 116, 101, 100]), .lit (.string [76, 97, 116, 105, 110]), .lit (.string [71, 114, 101, 101, 107]), .lit (.string [67, 121, 114, 105, 108, 108, 105, 99]), .lit (.string [72, 101, 98, 114, 101, 119]), .lit (.string [65, 114, 97, 98, 105, 99]), .lit (.string [68, 101, 118, 97, 110, 97, 103, 97, 114, 105]), .lit (.string [72, 105, 114, 97, 103, 97, 110, 97]), .lit (.string [75, 97, 116, 97, 107, 97, 110, 97]), .lit (.string [72, 97, 110]), .lit (.string [68, 101, 115, 101, 114, 101, 116])]

/-- 'portcullislaw08.SkelTells': WHATEVER THE INPUT: true; the input reads as it did. -/
def skelTellsSpec : ChangeSpec := { name := "skelTells", fn := fun _ => fun
  | [d1, d2, d3] => { results := [.lit (.bool true)], args := [d1, d2, d3] }
  | _ => none }
def skelTellsRow : OpenClaim := { program := "ytpkegjbmnilmdaadoor", sum := "2dbbaa5e4e437704150425ac04027bb928e54ee17a0c9fb0271595ebb3e5c293", func := "portcullis/portcullislaw08.SkelTells", spec := "skelTells", unfollowed := true, recurses := true, named := ["portcullis/skel.names"], apart := false, laid := [("portcullis/skel.names", laid_portcullis_skel_names)] }
def SkelTellsSaid : Prop := skelTellsRow.holds Tryd.pinned (OpenSpec.ofChange skelTellsSpec)

/-- ITS FALSE NEIGHBOUR: 'it returns false'. Refute it at one input. -/
def skelTellsWrong : ChangeSpec := { name := "skelTells", fn := fun _ => fun
  | [d1, d2, d3] => { results := [.lit (.bool false)], args := [d1, d2, d3] }
  | _ => none }
def SkelTellsWrongFalsely : Prop := skelTellsRow.holds Tryd.pinned (OpenSpec.ofChange skelTellsWrong)

/-- 'portcullislaw08.SkelRests': WHATEVER THE INPUT: true; the input reads as it did. -/
def skelRestsSpec : ChangeSpec := { name := "skelRests", fn := fun _ => fun
  | [d] => { results := [.lit (.bool true)], args := [d] }
  | _ => none }
def skelRestsRow : OpenClaim := { program := "ytpkegjbmnilmdaadoor", sum := "2dbbaa5e4e437704150425ac04027bb928e54ee17a0c9fb0271595ebb3e5c293", func := "portcullis/portcullislaw08.SkelRests", spec := "skelRests", unfollowed := true, recurses := true, named := ["portcullis/skel.names"], apart := false, laid := [("portcullis/skel.names", laid_portcullis_skel_names)] }
def SkelRestsSaid : Prop := skelRestsRow.holds Tryd.pinned (OpenSpec.ofChange skelRestsSpec)

/-- ITS FALSE NEIGHBOUR: 'it returns false'. Refute it at one input. -/
def skelRestsWrong : ChangeSpec := { name := "skelRests", fn := fun _ => fun
  | [d] => { results := [.lit (.bool false)], args := [d] }
  | _ => none }
def SkelRestsWrongFalsely : Prop := skelRestsRow.holds Tryd.pinned (OpenSpec.ofChange skelRestsWrong)

/-- 'portcullislaw08.SkelAlike': WHATEVER THE INPUT: true; the input reads as it did. -/
def skelAlikeSpec : ChangeSpec := { name := "skelAlike", fn := fun _ => fun
  | [d1, d2, d3] => { results := [.lit (.bool true)], args := [d1, d2, d3] }
  | _ => none }
def skelAlikeRow : OpenClaim := { program := "ytpkegjbmnilmdaadoor", sum := "2dbbaa5e4e437704150425ac04027bb928e54ee17a0c9fb0271595ebb3e5c293", func := "portcullis/portcullislaw08.SkelAlike", spec := "skelAlike", unfollowed := true, recurses := true, named := ["portcullis/skel.names"], apart := false, laid := [("portcullis/skel.names", laid_portcullis_skel_names)] }
def SkelAlikeSaid : Prop := skelAlikeRow.holds Tryd.pinned (OpenSpec.ofChange skelAlikeSpec)

/-- ITS FALSE NEIGHBOUR: 'it returns false'. Refute it at one input. -/
def skelAlikeWrong : ChangeSpec := { name := "skelAlike", fn := fun _ => fun
  | [d1, d2, d3] => { results := [.lit (.bool false)], args := [d1, d2, d3] }
  | _ => none }
def SkelAlikeWrongFalsely : Prop := skelAlikeRow.holds Tryd.pinned (OpenSpec.ofChange skelAlikeWrong)

/-- 'portcullislaw08.SkelLevels': WHATEVER THE INPUT: true; the input reads as it did. -/
def skelLevelsSpec : ChangeSpec := { name := "skelLevels", fn := fun _ => fun
  | [d1, d2] => { results := [.lit (.bool true)], args := [d1, d2] }
  | _ => none }
def skelLevelsRow : OpenClaim := { program := "ytpkegjbmnilmdaadoor", sum := "2dbbaa5e4e437704150425ac04027bb928e54ee17a0c9fb0271595ebb3e5c293", func := "portcullis/portcullislaw08.SkelLevels", spec := "skelLevels", unfollowed := true, recurses := true, named := ["portcullis/skel.names"], apart := false, laid := [("portcullis/skel.names", laid_portcullis_skel_names)] }
def SkelLevelsSaid : Prop := skelLevelsRow.holds Tryd.pinned (OpenSpec.ofChange skelLevelsSpec)

/-- ITS FALSE NEIGHBOUR: 'it returns false'. Refute it at one input. -/
def skelLevelsWrong : ChangeSpec := { name := "skelLevels", fn := fun _ => fun
  | [d1, d2] => { results := [.lit (.bool false)], args := [d1, d2] }
  | _ => none }
def SkelLevelsWrongFalsely : Prop := skelLevelsRow.holds Tryd.pinned (OpenSpec.ofChange skelLevelsWrong)

/-- 'portcullislaw08.SkelPlain': WHATEVER THE INPUT: true; the input reads as it did. -/
def skelPlainSpec : ChangeSpec := { name := "skelPlain", fn := fun _ => fun
  | [d] => { results := [.lit (.bool true)], args := [d] }
  | _ => none }
def skelPlainRow : OpenClaim := { program := "ytpkegjbmnilmdaadoor", sum := "2dbbaa5e4e437704150425ac04027bb928e54ee17a0c9fb0271595ebb3e5c293", func := "portcullis/portcullislaw08.SkelPlain", spec := "skelPlain", unfollowed := true, recurses := true, named := ["portcullis/skel.names"], apart := false, laid := [("portcullis/skel.names", laid_portcullis_skel_names)] }
def SkelPlainSaid : Prop := skelPlainRow.holds Tryd.pinned (OpenSpec.ofChange skelPlainSpec)

/-- ITS FALSE NEIGHBOUR: 'it returns false'. Refute it at one input. -/
def skelPlainWrong : ChangeSpec := { name := "skelPlain", fn := fun _ => fun
  | [d] => { results := [.lit (.bool false)], args := [d] }
  | _ => none }
def SkelPlainWrongFalsely : Prop := skelPlainRow.holds Tryd.pinned (OpenSpec.ofChange skelPlainWrong)

/- THE SECOND FORM. 'bulk': how many values and letters a reading holds, each counted each time it is reached (what is shared counts as often as it is met; a slice's spare places count too). A statement '..UptoSaid' is the law's where the arguments, and the package variables that the reading takes, are together of bulk at most 1048576: NARROWER than '..Said'. Prove '..Said' where nothing that the law and all that it calls make is longer than what came in: it says more and counts as full. Else prove '..UptoSaid'. A law counts once. -/
mutual
def uptoBulk {H : Type} : DataW H → Nat
  | .lit (.string bytes) => bytes.length + 1
  | .lit _ => 1
  | .nil => 1
  | .ptr d => uptoBulk d + 1
  | .slice elems spare => uptoBulkAll elems + uptoBulkAll spare + 1
  | .agg parts => uptoBulkAll parts + 1
  | .iface _ d => uptoBulk d + 1
  | .map entries => uptoBulkEntries entries + 1
  | .held _ => 1
def uptoBulkAll {H : Type} : List (DataW H) → Nat
  | [] => 0
  | d :: r => uptoBulk d + uptoBulkAll r
def uptoBulkEntries {H : Type} : List (Lit × DataW H) → Nat
  | [] => 0
  | x :: r => uptoBulkEntry x + uptoBulkEntries r
def uptoBulkEntry {H : Type} : Lit × DataW H → Nat
  | (.string bytes, d) => bytes.length + uptoBulk d + 1
  | (_, d) => uptoBulk d + 1
 end
def uptoSmall : (H : Type) → List (DataW H) → Bool := fun _ ds => decide (uptoBulkAll ds ≤ 1048576)
def OpenSpec.upto (s : _root_.Go.ChangeSpec) : _root_.Go.OpenSpec := { _root_.Go.OpenSpec.ofChange s with cond := some uptoSmall }

/-- 'portcullislaw08.SkelTells', WHERE WHAT IT READS IS OF BULK AT MOST 1048576: true; the input reads as it did. -/
def skelTellsUptoRow : OpenClaim := { program := "ytpkegjbmnilmdaadoor", sum := "2dbbaa5e4e437704150425ac04027bb928e54ee17a0c9fb0271595ebb3e5c293", func := "portcullis/portcullislaw08.SkelTells", spec := "skelTells", unfollowed := true, recurses := true, named := ["portcullis/skel.names"], apart := false, laid := [("portcullis/skel.names", laid_portcullis_skel_names)], narrowed := true }
def SkelTellsUptoSaid : Prop := skelTellsUptoRow.holds Tryd.pinned (OpenSpec.upto skelTellsSpec)

/-- 'portcullislaw08.SkelRests', WHERE WHAT IT READS IS OF BULK AT MOST 1048576: true; the input reads as it did. -/
def skelRestsUptoRow : OpenClaim := { program := "ytpkegjbmnilmdaadoor", sum := "2dbbaa5e4e437704150425ac04027bb928e54ee17a0c9fb0271595ebb3e5c293", func := "portcullis/portcullislaw08.SkelRests", spec := "skelRests", unfollowed := true, recurses := true, named := ["portcullis/skel.names"], apart := false, laid := [("portcullis/skel.names", laid_portcullis_skel_names)], narrowed := true }
def SkelRestsUptoSaid : Prop := skelRestsUptoRow.holds Tryd.pinned (OpenSpec.upto skelRestsSpec)

/-- 'portcullislaw08.SkelAlike', WHERE WHAT IT READS IS OF BULK AT MOST 1048576: true; the input reads as it did. -/
def skelAlikeUptoRow : OpenClaim := { program := "ytpkegjbmnilmdaadoor", sum := "2dbbaa5e4e437704150425ac04027bb928e54ee17a0c9fb0271595ebb3e5c293", func := "portcullis/portcullislaw08.SkelAlike", spec := "skelAlike", unfollowed := true, recurses := true, named := ["portcullis/skel.names"], apart := false, laid := [("portcullis/skel.names", laid_portcullis_skel_names)], narrowed := true }
def SkelAlikeUptoSaid : Prop := skelAlikeUptoRow.holds Tryd.pinned (OpenSpec.upto skelAlikeSpec)

/-- 'portcullislaw08.SkelLevels', WHERE WHAT IT READS IS OF BULK AT MOST 1048576: true; the input reads as it did. -/
def skelLevelsUptoRow : OpenClaim := { program := "ytpkegjbmnilmdaadoor", sum := "2dbbaa5e4e437704150425ac04027bb928e54ee17a0c9fb0271595ebb3e5c293", func := "portcullis/portcullislaw08.SkelLevels", spec := "skelLevels", unfollowed := true, recurses := true, named := ["portcullis/skel.names"], apart := false, laid := [("portcullis/skel.names", laid_portcullis_skel_names)], narrowed := true }
def SkelLevelsUptoSaid : Prop := skelLevelsUptoRow.holds Tryd.pinned (OpenSpec.upto skelLevelsSpec)

/-- 'portcullislaw08.SkelPlain', WHERE WHAT IT READS IS OF BULK AT MOST 1048576: true; the input reads as it did. -/
def skelPlainUptoRow : OpenClaim := { program := "ytpkegjbmnilmdaadoor", sum := "2dbbaa5e4e437704150425ac04027bb928e54ee17a0c9fb0271595ebb3e5c293", func := "portcullis/portcullislaw08.SkelPlain", spec := "skelPlain", unfollowed := true, recurses := true, named := ["portcullis/skel.names"], apart := false, laid := [("portcullis/skel.names", laid_portcullis_skel_names)], narrowed := true }
def SkelPlainUptoSaid : Prop := skelPlainUptoRow.holds Tryd.pinned (OpenSpec.upto skelPlainSpec)

end Rows
end Go.Proofs.YtpkegjbmnilmdaaDoor
