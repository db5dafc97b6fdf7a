/-
  DERIVED. GIVEN WITH THE SEED: THE CARDS: each row of YtlcifhmnjmnofaaDoorRows.lean that lists a variable, with what it lists TIED to the program's text (the seventh form; the later family's looks); each row that meets fmt, with fmt's text TOLD by the authors' own Lean function (tested against real Go, not proved from fmt's source: count such statements apart). THE CARD IS WHAT COUNTS. Prove the row's statement (the work); the ties are given (YtlcifhmnjmnofaaDoorTie.lean); close each card by the builder's one call (the guide's Derived/Test/ToyasCard.lean, 'card_holds'). Laid BY PROGRAM, IN A SANDBOX (cutbox-door.mjs). By AI agents, Wed Nov 11 2026. No macro, syntax, notation, axiom, sorry.
-/
import Derived.Test.YtlcifhmnjmnofaaDoorRows
import GoSem.ClaimSeven
namespace Go.Proofs.YtlcifhmnjmnofaaDoor
namespace Rows

/-- THE TIED CARD OF 'millracelaw.BucketCells'. -/
def bucketCellsCard : Claim7 := { stood := { row := bucketCellsRow, standIns := [], harness := (true, "ca93e4b7e5ebda1c6b41c6724c8ba99930164c6b77e2d6ac6b0ead19bc1f8016"), looks := true }, kinds := [], alts := [], laidByText := true, laidKinds := [.handle, .data], laidTests := true, laidLooks := .later }
def BucketCellsCardSaid : Prop := Claim7.holds Tryd.pinned (.plain (OpenSpec.ofChange bucketCellsSpec)) bucketCellsCard

/-- THE SECOND FORM's CARD OF 'millracelaw.BucketCells'. -/
def bucketCellsUptoCard : Claim7 := { stood := { row := bucketCellsUptoRow, standIns := [], harness := (true, "ca93e4b7e5ebda1c6b41c6724c8ba99930164c6b77e2d6ac6b0ead19bc1f8016"), looks := true }, kinds := [], alts := [], laidByText := true, laidKinds := [.handle, .data], laidTests := true, laidLooks := .later }
def BucketCellsUptoCardSaid : Prop := Claim7.holds Tryd.pinned (.plain (OpenSpec.upto bucketCellsSpec)) bucketCellsUptoCard
end Rows
end Go.Proofs.YtlcifhmnjmnofaaDoor
