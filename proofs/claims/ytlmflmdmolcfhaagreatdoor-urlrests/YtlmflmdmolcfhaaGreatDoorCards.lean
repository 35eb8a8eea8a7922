/-
  DERIVED. GIVEN WITH THE SEED: THE CARDS: each row of YtlmflmdmolcfhaaGreatDoorRows.lean that lists a variable, with what it lists TIED to the program's text (the seventh form; the later family's looks); each row that meets fmt, with fmt's text TOLD by the authors' own Lean function (tested against real Go, not proved from fmt's source: count such statements apart). THE CARD IS WHAT COUNTS. Prove the row's statement (the work); the ties are given (YtlmflmdmolcfhaaGreatDoorTie.lean); close each card by the builder's one call (the guide's Derived/Test/ToyasCard.lean, 'card_holds'). Laid BY PROGRAM, IN A SANDBOX (cutbox-door.mjs). By AI agents, Wed Nov 11 2026. No macro, syntax, notation, axiom, sorry.
-/
import Derived.Test.YtlmflmdmolcfhaaGreatDoorRows
import GoSem.ClaimSeven
namespace Go.Proofs.YtlmflmdmolcfhaaGreatDoor
namespace Rows

/-- THE TIED CARD OF 'portcullislaw13.UrlTells'. -/
def urlTellsCard : Claim7 := { stood := { row := urlTellsRow, standIns := [], harness := (true, "e73843ee19409bd4ed4195138a7720a917fe02c2c65b0803f77d53c68a673d90"), looks := true }, kinds := [], alts := [], laidByText := true, laidKinds := [.data, .data, .data, .data, .sentinel, .sentinel, .pinned, .pinned], laidTests := true, laidLooks := .later }
def UrlTellsCardSaid : Prop := Claim7.holds Tryz.pinned (.plain (OpenSpec.ofChange urlTellsSpec)) urlTellsCard

/-- THE TIED CARD OF 'portcullislaw13.UrlRests'. -/
def urlRestsCard : Claim7 := { stood := { row := urlRestsRow, standIns := [], harness := (true, "e73843ee19409bd4ed4195138a7720a917fe02c2c65b0803f77d53c68a673d90"), looks := true }, kinds := [], alts := [], laidByText := true, laidKinds := [.data, .data, .data, .data, .sentinel, .sentinel, .pinned, .pinned], laidTests := true, laidLooks := .later }
def UrlRestsCardSaid : Prop := Claim7.holds Tryz.pinned (.plain (OpenSpec.ofChange urlRestsSpec)) urlRestsCard

/-- THE TIED CARD OF 'portcullislaw13.UrlBlanks'. -/
def urlBlanksCard : Claim7 := { stood := { row := urlBlanksRow, standIns := [], harness := (true, "e73843ee19409bd4ed4195138a7720a917fe02c2c65b0803f77d53c68a673d90"), looks := true }, kinds := [], alts := [], laidByText := true, laidKinds := [.data, .data, .data, .data, .sentinel, .sentinel, .pinned, .pinned], laidTests := true, laidLooks := .later }
def UrlBlanksCardSaid : Prop := Claim7.holds Tryz.pinned (.plain (OpenSpec.ofChange urlBlanksSpec)) urlBlanksCard

/-- THE TIED CARD OF 'portcullislaw13.UrlSlashes'. -/
def urlSlashesCard : Claim7 := { stood := { row := urlSlashesRow, standIns := [], harness := (true, "e73843ee19409bd4ed4195138a7720a917fe02c2c65b0803f77d53c68a673d90"), looks := true }, kinds := [], alts := [], laidByText := true, laidKinds := [.data, .data, .data, .data, .sentinel, .sentinel, .pinned, .pinned], laidTests := true, laidLooks := .later }
def UrlSlashesCardSaid : Prop := Claim7.holds Tryz.pinned (.plain (OpenSpec.ofChange urlSlashesSpec)) urlSlashesCard

/-- THE TIED CARD OF 'portcullislaw13.UrlParts'. -/
def urlPartsCard : Claim7 := { stood := { row := urlPartsRow, standIns := [], harness := (true, "e73843ee19409bd4ed4195138a7720a917fe02c2c65b0803f77d53c68a673d90"), looks := true }, kinds := [], alts := [], laidByText := true, laidKinds := [.data, .data, .data, .data, .sentinel, .sentinel, .pinned, .pinned], laidTests := true, laidLooks := .later }
def UrlPartsCardSaid : Prop := Claim7.holds Tryz.pinned (.plain (OpenSpec.ofChange urlPartsSpec)) urlPartsCard

/-- THE TIED CARD OF 'portcullislaw13.UrlFragments'. -/
def urlFragmentsCard : Claim7 := { stood := { row := urlFragmentsRow, standIns := [], harness := (true, "e73843ee19409bd4ed4195138a7720a917fe02c2c65b0803f77d53c68a673d90"), looks := true }, kinds := [], alts := [], laidByText := true, laidKinds := [.data, .data, .data, .data, .sentinel, .sentinel, .pinned, .pinned], laidTests := true, laidLooks := .later }
def UrlFragmentsCardSaid : Prop := Claim7.holds Tryz.pinned (.plain (OpenSpec.ofChange urlFragmentsSpec)) urlFragmentsCard

/-- THE SECOND FORM's CARD OF 'portcullislaw13.UrlTells'. -/
def urlTellsUptoCard : Claim7 := { stood := { row := urlTellsUptoRow, standIns := [], harness := (true, "e73843ee19409bd4ed4195138a7720a917fe02c2c65b0803f77d53c68a673d90"), looks := true }, kinds := [], alts := [], laidByText := true, laidKinds := [.data, .data, .data, .data, .sentinel, .sentinel, .pinned, .pinned], laidTests := true, laidLooks := .later }
def UrlTellsUptoCardSaid : Prop := Claim7.holds Tryz.pinned (.plain (OpenSpec.upto urlTellsSpec)) urlTellsUptoCard

/-- THE SECOND FORM's CARD OF 'portcullislaw13.UrlRests'. -/
def urlRestsUptoCard : Claim7 := { stood := { row := urlRestsUptoRow, standIns := [], harness := (true, "e73843ee19409bd4ed4195138a7720a917fe02c2c65b0803f77d53c68a673d90"), looks := true }, kinds := [], alts := [], laidByText := true, laidKinds := [.data, .data, .data, .data, .sentinel, .sentinel, .pinned, .pinned], laidTests := true, laidLooks := .later }
def UrlRestsUptoCardSaid : Prop := Claim7.holds Tryz.pinned (.plain (OpenSpec.upto urlRestsSpec)) urlRestsUptoCard

/-- THE SECOND FORM's CARD OF 'portcullislaw13.UrlBlanks'. -/
def urlBlanksUptoCard : Claim7 := { stood := { row := urlBlanksUptoRow, standIns := [], harness := (true, "e73843ee19409bd4ed4195138a7720a917fe02c2c65b0803f77d53c68a673d90"), looks := true }, kinds := [], alts := [], laidByText := true, laidKinds := [.data, .data, .data, .data, .sentinel, .sentinel, .pinned, .pinned], laidTests := true, laidLooks := .later }
def UrlBlanksUptoCardSaid : Prop := Claim7.holds Tryz.pinned (.plain (OpenSpec.upto urlBlanksSpec)) urlBlanksUptoCard

/-- THE SECOND FORM's CARD OF 'portcullislaw13.UrlSlashes'. -/
def urlSlashesUptoCard : Claim7 := { stood := { row := urlSlashesUptoRow, standIns := [], harness := (true, "e73843ee19409bd4ed4195138a7720a917fe02c2c65b0803f77d53c68a673d90"), looks := true }, kinds := [], alts := [], laidByText := true, laidKinds := [.data, .data, .data, .data, .sentinel, .sentinel, .pinned, .pinned], laidTests := true, laidLooks := .later }
def UrlSlashesUptoCardSaid : Prop := Claim7.holds Tryz.pinned (.plain (OpenSpec.upto urlSlashesSpec)) urlSlashesUptoCard

/-- THE SECOND FORM's CARD OF 'portcullislaw13.UrlParts'. -/
def urlPartsUptoCard : Claim7 := { stood := { row := urlPartsUptoRow, standIns := [], harness := (true, "e73843ee19409bd4ed4195138a7720a917fe02c2c65b0803f77d53c68a673d90"), looks := true }, kinds := [], alts := [], laidByText := true, laidKinds := [.data, .data, .data, .data, .sentinel, .sentinel, .pinned, .pinned], laidTests := true, laidLooks := .later }
def UrlPartsUptoCardSaid : Prop := Claim7.holds Tryz.pinned (.plain (OpenSpec.upto urlPartsSpec)) urlPartsUptoCard

/-- THE SECOND FORM's CARD OF 'portcullislaw13.UrlFragments'. -/
def urlFragmentsUptoCard : Claim7 := { stood := { row := urlFragmentsUptoRow, standIns := [], harness := (true, "e73843ee19409bd4ed4195138a7720a917fe02c2c65b0803f77d53c68a673d90"), looks := true }, kinds := [], alts := [], laidByText := true, laidKinds := [.data, .data, .data, .data, .sentinel, .sentinel, .pinned, .pinned], laidTests := true, laidLooks := .later }
def UrlFragmentsUptoCardSaid : Prop := Claim7.holds Tryz.pinned (.plain (OpenSpec.upto urlFragmentsSpec)) urlFragmentsUptoCard
end Rows
end Go.Proofs.YtlmflmdmolcfhaaGreatDoor
