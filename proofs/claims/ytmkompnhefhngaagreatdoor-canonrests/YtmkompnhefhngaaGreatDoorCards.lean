/-
  DERIVED. GIVEN WITH THE SEED: THE CARDS: each row of YtmkompnhefhngaaGreatDoorRows.lean that lists a variable, with what it lists TIED to the program's text (the seventh form; the later family's looks); each row that meets fmt, with fmt's text TOLD by the authors' own Lean function (tested against real Go, not proved from fmt's source: count such statements apart). THE CARD IS WHAT COUNTS. Prove the row's statement (the work); the ties are given (YtmkompnhefhngaaGreatDoorTie.lean); close each card by the builder's one call (the guide's Derived/Test/ToyasCard.lean, 'card_holds'). Laid BY PROGRAM, IN A SANDBOX (cutbox-door.mjs). By AI agents, Wed Nov 11 2026. No macro, syntax, notation, axiom, sorry.
-/
import Derived.Test.YtmkompnhefhngaaGreatDoorRows
import GoSem.ClaimSeven
namespace Go.Proofs.YtmkompnhefhngaaGreatDoor
namespace Rows

/-- THE TIED CARD OF 'portcullislaw14.CanonRests'. -/
def canonRestsCard : Claim7 := { stood := { row := canonRestsRow, standIns := [], harness := (true, "8b8ff982d243d8624c326447a6613685f9a739914fdf4bcfb839bdbc926cce6f"), looks := true }, kinds := [], alts := [], laidByText := true, laidKinds := [.data, .data, .data, .data, .sentinel, .sentinel, .pinned, .pinned], laidTests := true, laidLooks := .later }
def CanonRestsCardSaid : Prop := Claim7.holds Tryz.pinned (.plain (OpenSpec.ofChange canonRestsSpec)) canonRestsCard

/-- THE TIED CARD OF 'portcullislaw14.CanonOne'. -/
def canonOneCard : Claim7 := { stood := { row := canonOneRow, standIns := [], harness := (true, "8b8ff982d243d8624c326447a6613685f9a739914fdf4bcfb839bdbc926cce6f"), looks := true }, kinds := [], alts := [], laidByText := true, laidKinds := [.data, .data, .data, .data, .sentinel, .sentinel, .pinned, .pinned], laidTests := true, laidLooks := .later }
def CanonOneCardSaid : Prop := Claim7.holds Tryz.pinned (.plain (OpenSpec.ofChange canonOneSpec)) canonOneCard

/-- THE SECOND FORM's CARD OF 'portcullislaw14.CanonRests'. -/
def canonRestsUptoCard : Claim7 := { stood := { row := canonRestsUptoRow, standIns := [], harness := (true, "8b8ff982d243d8624c326447a6613685f9a739914fdf4bcfb839bdbc926cce6f"), looks := true }, kinds := [], alts := [], laidByText := true, laidKinds := [.data, .data, .data, .data, .sentinel, .sentinel, .pinned, .pinned], laidTests := true, laidLooks := .later }
def CanonRestsUptoCardSaid : Prop := Claim7.holds Tryz.pinned (.plain (OpenSpec.upto canonRestsSpec)) canonRestsUptoCard

/-- THE SECOND FORM's CARD OF 'portcullislaw14.CanonOne'. -/
def canonOneUptoCard : Claim7 := { stood := { row := canonOneUptoRow, standIns := [], harness := (true, "8b8ff982d243d8624c326447a6613685f9a739914fdf4bcfb839bdbc926cce6f"), looks := true }, kinds := [], alts := [], laidByText := true, laidKinds := [.data, .data, .data, .data, .sentinel, .sentinel, .pinned, .pinned], laidTests := true, laidLooks := .later }
def CanonOneUptoCardSaid : Prop := Claim7.holds Tryz.pinned (.plain (OpenSpec.upto canonOneSpec)) canonOneUptoCard
end Rows
end Go.Proofs.YtmkompnhefhngaaGreatDoor
