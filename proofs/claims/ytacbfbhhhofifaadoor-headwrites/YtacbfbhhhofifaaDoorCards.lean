/-
  DERIVED. GIVEN WITH THE SEED: THE CARDS: each row of YtacbfbhhhofifaaDoorRows.lean that lists a variable, with what it lists TIED to the program's text (the seventh form; the later family's looks); each row that meets fmt, with fmt's text TOLD by the authors' own Lean function (tested against real Go, not proved from fmt's source: count such statements apart). THE CARD IS WHAT COUNTS. Prove the row's statement (the work); the ties are given (YtacbfbhhhofifaaDoorTie.lean); close each card by the builder's one call (the guide's Derived/Test/ToyasCard.lean, 'card_holds'). Laid BY PROGRAM, IN A SANDBOX (cutbox-door.mjs). By AI agents, Wed Nov 11 2026. No macro, syntax, notation, axiom, sorry.
-/
import Derived.Test.YtacbfbhhhofifaaDoorRows
import GoSem.ClaimSeven
namespace Go.Proofs.YtacbfbhhhofifaaDoor
namespace Rows

/-- THE TIED CARD OF 'portcullislaw19.HeadReads'. -/
def headReadsCard : Claim7 := { stood := { row := headReadsRow, standIns := [], harness := (true, "e7f736deda3f2a1445940cbf043380b901019268c4d3b6d72abb6efe44a5a87e"), looks := true }, kinds := [], alts := [], laidByText := true, laidKinds := [.data, .pinned, .pinned], laidTests := true, laidLooks := .later }
def HeadReadsCardSaid : Prop := Claim7.holds Tryd.pinned (.plain (OpenSpec.ofChange headReadsSpec)) headReadsCard

/-- THE TIED CARD OF 'portcullislaw19.HeadParses'. -/
def headParsesCard : Claim7 := { stood := { row := headParsesRow, standIns := [], harness := (true, "e7f736deda3f2a1445940cbf043380b901019268c4d3b6d72abb6efe44a5a87e"), looks := true }, kinds := [], alts := [], laidByText := true, laidKinds := [.data, .pinned, .pinned], laidTests := true, laidLooks := .later }
def HeadParsesCardSaid : Prop := Claim7.holds Tryd.pinned (.plain (OpenSpec.ofChange headParsesSpec)) headParsesCard

/-- THE TIED CARD OF 'portcullislaw19.HeadWrites'. -/
def headWritesCard : Claim7 := { stood := { row := headWritesRow, standIns := [], harness := (true, "e7f736deda3f2a1445940cbf043380b901019268c4d3b6d72abb6efe44a5a87e"), looks := true }, kinds := [], alts := [], laidByText := true, laidKinds := [.data, .pinned, .pinned], laidTests := true, laidLooks := .later }
def HeadWritesCardSaid : Prop := Claim7.holds Tryd.pinned (.plain (OpenSpec.ofChange headWritesSpec)) headWritesCard

/-- THE TIED CARD OF 'portcullislaw19.HeadNil'. -/
def headNilCard : Claim7 := { stood := { row := headNilRow, standIns := [], harness := (true, "e7f736deda3f2a1445940cbf043380b901019268c4d3b6d72abb6efe44a5a87e"), looks := true }, kinds := [], alts := [], laidByText := true, laidKinds := [.data, .pinned, .pinned], laidTests := true, laidLooks := .later }
def HeadNilCardSaid : Prop := Claim7.holds Tryd.pinned (.plain (OpenSpec.ofChange headNilSpec)) headNilCard

/-- THE SECOND FORM's CARD OF 'portcullislaw19.HeadReads'. -/
def headReadsUptoCard : Claim7 := { stood := { row := headReadsUptoRow, standIns := [], harness := (true, "e7f736deda3f2a1445940cbf043380b901019268c4d3b6d72abb6efe44a5a87e"), looks := true }, kinds := [], alts := [], laidByText := true, laidKinds := [.data, .pinned, .pinned], laidTests := true, laidLooks := .later }
def HeadReadsUptoCardSaid : Prop := Claim7.holds Tryd.pinned (.plain (OpenSpec.upto headReadsSpec)) headReadsUptoCard

/-- THE SECOND FORM's CARD OF 'portcullislaw19.HeadParses'. -/
def headParsesUptoCard : Claim7 := { stood := { row := headParsesUptoRow, standIns := [], harness := (true, "e7f736deda3f2a1445940cbf043380b901019268c4d3b6d72abb6efe44a5a87e"), looks := true }, kinds := [], alts := [], laidByText := true, laidKinds := [.data, .pinned, .pinned], laidTests := true, laidLooks := .later }
def HeadParsesUptoCardSaid : Prop := Claim7.holds Tryd.pinned (.plain (OpenSpec.upto headParsesSpec)) headParsesUptoCard

/-- THE SECOND FORM's CARD OF 'portcullislaw19.HeadWrites'. -/
def headWritesUptoCard : Claim7 := { stood := { row := headWritesUptoRow, standIns := [], harness := (true, "e7f736deda3f2a1445940cbf043380b901019268c4d3b6d72abb6efe44a5a87e"), looks := true }, kinds := [], alts := [], laidByText := true, laidKinds := [.data, .pinned, .pinned], laidTests := true, laidLooks := .later }
def HeadWritesUptoCardSaid : Prop := Claim7.holds Tryd.pinned (.plain (OpenSpec.upto headWritesSpec)) headWritesUptoCard

/-- THE SECOND FORM's CARD OF 'portcullislaw19.HeadNil'. -/
def headNilUptoCard : Claim7 := { stood := { row := headNilUptoRow, standIns := [], harness := (true, "e7f736deda3f2a1445940cbf043380b901019268c4d3b6d72abb6efe44a5a87e"), looks := true }, kinds := [], alts := [], laidByText := true, laidKinds := [.data, .pinned, .pinned], laidTests := true, laidLooks := .later }
def HeadNilUptoCardSaid : Prop := Claim7.holds Tryd.pinned (.plain (OpenSpec.upto headNilSpec)) headNilUptoCard
end Rows
end Go.Proofs.YtacbfbhhhofifaaDoor
