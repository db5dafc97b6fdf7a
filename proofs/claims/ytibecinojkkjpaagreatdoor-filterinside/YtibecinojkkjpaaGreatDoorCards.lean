/-
  DERIVED. GIVEN WITH THE SEED: THE CARDS: each row of YtibecinojkkjpaaGreatDoorRows.lean that lists a variable, with what it lists TIED to the program's text (the seventh form; the later family's looks); each row that meets fmt, with fmt's text TOLD by the authors' own Lean function (tested against real Go, not proved from fmt's source: count such statements apart). THE CARD IS WHAT COUNTS. Prove the row's statement (the work); the ties are given (YtibecinojkkjpaaGreatDoorTie.lean); close each card by the builder's one call (the guide's Derived/Test/ToyasCard.lean, 'card_holds'). Laid BY PROGRAM, IN A SANDBOX (cutbox-door.mjs). By AI agents, Wed Nov 11 2026. No macro, syntax, notation, axiom, sorry.
-/
import Derived.Test.YtibecinojkkjpaaGreatDoorRows
import GoSem.ClaimSeven
namespace Go.Proofs.YtibecinojkkjpaaGreatDoor
namespace Rows

/-- THE TIED CARD OF 'millracelaw.FilterParses'. -/
def filterParsesCard : Claim7 := { stood := { row := filterParsesRow, standIns := [], harness := (true, "c137caabb6872f4ef1edf0aa65ca9b4e3c1fb32b140b0c141f3716bb88c8a20b"), looks := true }, kinds := [], alts := [], laidByText := true, laidKinds := [.data, .data, .data, .handle, .sentinel, .sentinel, .data, .data, .data], laidTests := true, laidLooks := .later }
def FilterParsesCardSaid : Prop := Claim7.holds Tryz.pinned (.plain (OpenSpec.ofChange filterParsesSpec)) filterParsesCard

/-- THE TIED CARD OF 'millracelaw.FilterInside'. -/
def filterInsideCard : Claim7 := { stood := { row := filterInsideRow, standIns := [], harness := (true, "c137caabb6872f4ef1edf0aa65ca9b4e3c1fb32b140b0c141f3716bb88c8a20b"), looks := true }, kinds := [], alts := [], laidByText := true, laidKinds := [.data, .data, .data, .sentinel, .sentinel, .data, .data, .data], laidTests := true, laidLooks := .later }
def FilterInsideCardSaid : Prop := Claim7.holds Tryz.pinned (.plain (OpenSpec.ofChange filterInsideSpec)) filterInsideCard

/-- THE SECOND FORM's CARD OF 'millracelaw.FilterParses'. -/
def filterParsesUptoCard : Claim7 := { stood := { row := filterParsesUptoRow, standIns := [], harness := (true, "c137caabb6872f4ef1edf0aa65ca9b4e3c1fb32b140b0c141f3716bb88c8a20b"), looks := true }, kinds := [], alts := [], laidByText := true, laidKinds := [.data, .data, .data, .handle, .sentinel, .sentinel, .data, .data, .data], laidTests := true, laidLooks := .later }
def FilterParsesUptoCardSaid : Prop := Claim7.holds Tryz.pinned (.plain (OpenSpec.upto filterParsesSpec)) filterParsesUptoCard

/-- THE SECOND FORM's CARD OF 'millracelaw.FilterInside'. -/
def filterInsideUptoCard : Claim7 := { stood := { row := filterInsideUptoRow, standIns := [], harness := (true, "c137caabb6872f4ef1edf0aa65ca9b4e3c1fb32b140b0c141f3716bb88c8a20b"), looks := true }, kinds := [], alts := [], laidByText := true, laidKinds := [.data, .data, .data, .sentinel, .sentinel, .data, .data, .data], laidTests := true, laidLooks := .later }
def FilterInsideUptoCardSaid : Prop := Claim7.holds Tryz.pinned (.plain (OpenSpec.upto filterInsideSpec)) filterInsideUptoCard
end Rows
end Go.Proofs.YtibecinojkkjpaaGreatDoor
