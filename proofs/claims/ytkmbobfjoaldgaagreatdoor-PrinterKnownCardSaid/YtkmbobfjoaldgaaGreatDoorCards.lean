/-
  DERIVED. GIVEN WITH THE SEED: THE CARDS: each row of YtkmbobfjoaldgaaGreatDoorRows.lean that lists a variable, with what it lists TIED to the program's text (the seventh form; the later family's looks); each row that meets fmt, with fmt's text TOLD by the authors' own Lean function (tested against real Go, not proved from fmt's source: count such statements apart). THE CARD IS WHAT COUNTS. Prove the row's statement (the work); the ties are given (YtkmbobfjoaldgaaGreatDoorTie.lean); close each card by the builder's one call (the guide's Derived/Test/ToyasCard.lean, 'card_holds'). Laid BY PROGRAM, IN A SANDBOX (cutbox-door.mjs). By AI agents, Wed Nov 11 2026. No macro, syntax, notation, axiom, sorry.
-/
import Derived.Test.YtkmbobfjoaldgaaGreatDoorRows
import GoSem.ClaimSeven
namespace Go.Proofs.YtkmbobfjoaldgaaGreatDoor
namespace Rows

/-- THE TIED CARD OF 'puppeteerlaw11.TreeSame'. -/
def treeSameCard : Claim7 := { stood := { row := treeSameRow, standIns := [], harness := (true, "070f8e729f6256902932deb163e62b1425c8cabb8834176bedea7fe4d0492e66"), looks := true }, kinds := [], alts := [], laidByText := true, laidKinds := [.data, .data, .data, .sentinel, .sentinel, .data], laidTests := true, laidLooks := .later }
def TreeSameCardSaid : Prop := Claim7.holds Tryz.pinned (.plain (OpenSpec.ofChange treeSameSpec)) treeSameCard

/-- THE TIED CARD OF 'puppeteerlaw12.PrinterWrites'. -/
def printerWritesCard : Claim7 := { stood := { row := printerWritesRow, standIns := [], harness := (true, "070f8e729f6256902932deb163e62b1425c8cabb8834176bedea7fe4d0492e66"), looks := true }, kinds := [], alts := [], laidByText := true, laidKinds := [.data, .data, .data, .sentinel, .sentinel, .data], laidTests := true, laidLooks := .later }
def PrinterWritesCardSaid : Prop := Claim7.holds Tryz.pinned (.plain (OpenSpec.ofChange printerWritesSpec)) printerWritesCard

/-- THE TIED CARD OF 'puppeteerlaw12.PrinterKnown'. -/
def printerKnownCard : Claim7 := { stood := { row := printerKnownRow, standIns := [], harness := (true, "070f8e729f6256902932deb163e62b1425c8cabb8834176bedea7fe4d0492e66"), looks := true }, kinds := [], alts := [], laidByText := true, laidKinds := [.data, .data, .data, .sentinel, .sentinel, .data], laidTests := true, laidLooks := .later }
def PrinterKnownCardSaid : Prop := Claim7.holds Tryz.pinned (.plain (OpenSpec.ofChange printerKnownSpec)) printerKnownCard

/-- THE SECOND FORM's CARD OF 'puppeteerlaw11.TreeSame'. -/
def treeSameUptoCard : Claim7 := { stood := { row := treeSameUptoRow, standIns := [], harness := (true, "070f8e729f6256902932deb163e62b1425c8cabb8834176bedea7fe4d0492e66"), looks := true }, kinds := [], alts := [], laidByText := true, laidKinds := [.data, .data, .data, .sentinel, .sentinel, .data], laidTests := true, laidLooks := .later }
def TreeSameUptoCardSaid : Prop := Claim7.holds Tryz.pinned (.plain (OpenSpec.upto treeSameSpec)) treeSameUptoCard

/-- THE SECOND FORM's CARD OF 'puppeteerlaw12.PrinterWrites'. -/
def printerWritesUptoCard : Claim7 := { stood := { row := printerWritesUptoRow, standIns := [], harness := (true, "070f8e729f6256902932deb163e62b1425c8cabb8834176bedea7fe4d0492e66"), looks := true }, kinds := [], alts := [], laidByText := true, laidKinds := [.data, .data, .data, .sentinel, .sentinel, .data], laidTests := true, laidLooks := .later }
def PrinterWritesUptoCardSaid : Prop := Claim7.holds Tryz.pinned (.plain (OpenSpec.upto printerWritesSpec)) printerWritesUptoCard

/-- THE SECOND FORM's CARD OF 'puppeteerlaw12.PrinterKnown'. -/
def printerKnownUptoCard : Claim7 := { stood := { row := printerKnownUptoRow, standIns := [], harness := (true, "070f8e729f6256902932deb163e62b1425c8cabb8834176bedea7fe4d0492e66"), looks := true }, kinds := [], alts := [], laidByText := true, laidKinds := [.data, .data, .data, .sentinel, .sentinel, .data], laidTests := true, laidLooks := .later }
def PrinterKnownUptoCardSaid : Prop := Claim7.holds Tryz.pinned (.plain (OpenSpec.upto printerKnownSpec)) printerKnownUptoCard
end Rows
end Go.Proofs.YtkmbobfjoaldgaaGreatDoor
