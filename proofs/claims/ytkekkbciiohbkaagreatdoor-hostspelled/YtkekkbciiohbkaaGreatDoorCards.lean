/-
  DERIVED. GIVEN WITH THE SEED: THE CARDS: each row of YtkekkbciiohbkaaGreatDoorRows.lean that lists a variable, with what it lists TIED to the program's text (the seventh form; the later family's looks); each row that meets fmt, with fmt's text TOLD by the authors' own Lean function (tested against real Go, not proved from fmt's source: count such statements apart). THE CARD IS WHAT COUNTS. Prove the row's statement (the work); the ties are given (YtkekkbciiohbkaaGreatDoorTie.lean); close each card by the builder's one call (the guide's Derived/Test/ToyasCard.lean, 'card_holds'). Laid BY PROGRAM, IN A SANDBOX (cutbox-door.mjs). By AI agents, Wed Nov 11 2026. No macro, syntax, notation, axiom, sorry.
-/
import Derived.Test.YtkekkbciiohbkaaGreatDoorRows
import GoSem.ClaimSeven
namespace Go.Proofs.YtkekkbciiohbkaaGreatDoor
namespace Rows

/-- THE TIED CARD OF 'portcullislaw12.HostTells'. -/
def hostTellsCard : Claim7 := { stood := { row := hostTellsRow, standIns := [], harness := (true, "d2f4667b4d03ca91fe5943e08196b9dcb116d9fdc1532a3cccbd31234208eb66"), looks := true }, kinds := [], alts := [], laidByText := true, laidKinds := [.data, .data, .data, .data, .sentinel, .sentinel, .pinned], laidTests := true, laidLooks := .later }
def HostTellsCardSaid : Prop := Claim7.holds Tryz.pinned (.plain (OpenSpec.ofChange hostTellsSpec)) hostTellsCard

/-- THE TIED CARD OF 'portcullislaw12.HostRests'. -/
def hostRestsCard : Claim7 := { stood := { row := hostRestsRow, standIns := [], harness := (true, "d2f4667b4d03ca91fe5943e08196b9dcb116d9fdc1532a3cccbd31234208eb66"), looks := true }, kinds := [], alts := [], laidByText := true, laidKinds := [.data, .data, .data, .data, .sentinel, .sentinel, .pinned], laidTests := true, laidLooks := .later }
def HostRestsCardSaid : Prop := Claim7.holds Tryz.pinned (.plain (OpenSpec.ofChange hostRestsSpec)) hostRestsCard

/-- THE TIED CARD OF 'portcullislaw12.HostSpelled'. -/
def hostSpelledCard : Claim7 := { stood := { row := hostSpelledRow, standIns := [], harness := (true, "d2f4667b4d03ca91fe5943e08196b9dcb116d9fdc1532a3cccbd31234208eb66"), looks := true }, kinds := [], alts := [], laidByText := true, laidKinds := [.data, .data, .data, .data, .sentinel, .sentinel, .pinned], laidTests := true, laidLooks := .later }
def HostSpelledCardSaid : Prop := Claim7.holds Tryz.pinned (.plain (OpenSpec.ofChange hostSpelledSpec)) hostSpelledCard

/-- THE TIED CARD OF 'portcullislaw12.HostKinds'. -/
def hostKindsCard : Claim7 := { stood := { row := hostKindsRow, standIns := [], harness := (true, "d2f4667b4d03ca91fe5943e08196b9dcb116d9fdc1532a3cccbd31234208eb66"), looks := true }, kinds := [], alts := [], laidByText := true, laidKinds := [.data, .data, .data, .data, .sentinel, .sentinel, .pinned], laidTests := true, laidLooks := .later }
def HostKindsCardSaid : Prop := Claim7.holds Tryz.pinned (.plain (OpenSpec.ofChange hostKindsSpec)) hostKindsCard

/-- THE TIED CARD OF 'portcullislaw12.HostOpaque'. -/
def hostOpaqueCard : Claim7 := { stood := { row := hostOpaqueRow, standIns := [], harness := (true, "d2f4667b4d03ca91fe5943e08196b9dcb116d9fdc1532a3cccbd31234208eb66"), looks := true }, kinds := [], alts := [], laidByText := true, laidKinds := [.data, .data, .data, .data, .sentinel, .sentinel, .pinned], laidTests := true, laidLooks := .later }
def HostOpaqueCardSaid : Prop := Claim7.holds Tryz.pinned (.plain (OpenSpec.ofChange hostOpaqueSpec)) hostOpaqueCard

/-- THE SECOND FORM's CARD OF 'portcullislaw12.HostTells'. -/
def hostTellsUptoCard : Claim7 := { stood := { row := hostTellsUptoRow, standIns := [], harness := (true, "d2f4667b4d03ca91fe5943e08196b9dcb116d9fdc1532a3cccbd31234208eb66"), looks := true }, kinds := [], alts := [], laidByText := true, laidKinds := [.data, .data, .data, .data, .sentinel, .sentinel, .pinned], laidTests := true, laidLooks := .later }
def HostTellsUptoCardSaid : Prop := Claim7.holds Tryz.pinned (.plain (OpenSpec.upto hostTellsSpec)) hostTellsUptoCard

/-- THE SECOND FORM's CARD OF 'portcullislaw12.HostRests'. -/
def hostRestsUptoCard : Claim7 := { stood := { row := hostRestsUptoRow, standIns := [], harness := (true, "d2f4667b4d03ca91fe5943e08196b9dcb116d9fdc1532a3cccbd31234208eb66"), looks := true }, kinds := [], alts := [], laidByText := true, laidKinds := [.data, .data, .data, .data, .sentinel, .sentinel, .pinned], laidTests := true, laidLooks := .later }
def HostRestsUptoCardSaid : Prop := Claim7.holds Tryz.pinned (.plain (OpenSpec.upto hostRestsSpec)) hostRestsUptoCard

/-- THE SECOND FORM's CARD OF 'portcullislaw12.HostSpelled'. -/
def hostSpelledUptoCard : Claim7 := { stood := { row := hostSpelledUptoRow, standIns := [], harness := (true, "d2f4667b4d03ca91fe5943e08196b9dcb116d9fdc1532a3cccbd31234208eb66"), looks := true }, kinds := [], alts := [], laidByText := true, laidKinds := [.data, .data, .data, .data, .sentinel, .sentinel, .pinned], laidTests := true, laidLooks := .later }
def HostSpelledUptoCardSaid : Prop := Claim7.holds Tryz.pinned (.plain (OpenSpec.upto hostSpelledSpec)) hostSpelledUptoCard

/-- THE SECOND FORM's CARD OF 'portcullislaw12.HostKinds'. -/
def hostKindsUptoCard : Claim7 := { stood := { row := hostKindsUptoRow, standIns := [], harness := (true, "d2f4667b4d03ca91fe5943e08196b9dcb116d9fdc1532a3cccbd31234208eb66"), looks := true }, kinds := [], alts := [], laidByText := true, laidKinds := [.data, .data, .data, .data, .sentinel, .sentinel, .pinned], laidTests := true, laidLooks := .later }
def HostKindsUptoCardSaid : Prop := Claim7.holds Tryz.pinned (.plain (OpenSpec.upto hostKindsSpec)) hostKindsUptoCard

/-- THE SECOND FORM's CARD OF 'portcullislaw12.HostOpaque'. -/
def hostOpaqueUptoCard : Claim7 := { stood := { row := hostOpaqueUptoRow, standIns := [], harness := (true, "d2f4667b4d03ca91fe5943e08196b9dcb116d9fdc1532a3cccbd31234208eb66"), looks := true }, kinds := [], alts := [], laidByText := true, laidKinds := [.data, .data, .data, .data, .sentinel, .sentinel, .pinned], laidTests := true, laidLooks := .later }
def HostOpaqueUptoCardSaid : Prop := Claim7.holds Tryz.pinned (.plain (OpenSpec.upto hostOpaqueSpec)) hostOpaqueUptoCard
end Rows
end Go.Proofs.YtkekkbciiohbkaaGreatDoor
