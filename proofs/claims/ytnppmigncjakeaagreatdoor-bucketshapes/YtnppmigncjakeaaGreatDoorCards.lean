/-
  DERIVED. GIVEN WITH THE SEED: THE CARDS: each row of YtnppmigncjakeaaGreatDoorRows.lean that lists a variable, with what it lists TIED to the program's text (the seventh form; the later family's looks); each row that meets fmt, with fmt's text TOLD by the authors' own Lean function (tested against real Go, not proved from fmt's source: count such statements apart). THE CARD IS WHAT COUNTS. Prove the row's statement (the work); the ties are given (YtnppmigncjakeaaGreatDoorTie.lean); close each card by the builder's one call (the guide's Derived/Test/ToyasCard.lean, 'card_holds'). Laid BY PROGRAM, IN A SANDBOX (cutbox-door.mjs). By AI agents, Wed Nov 11 2026. No macro, syntax, notation, axiom, sorry.
-/
import Derived.Test.YtnppmigncjakeaaGreatDoorRows
import GoSem.ClaimSeven
namespace Go.Proofs.YtnppmigncjakeaaGreatDoor
namespace Rows

/-- THE TIED CARD OF 'millracelaw.BucketConforms'. -/
def bucketConformsCard : Claim7 := { stood := { row := bucketConformsRow, standIns := [], harness := (true, "919b774cf105b77a5aafa1732079b2a4e7daa2b87a186c9effb5abd851db1a5f"), looks := true }, kinds := [], alts := [], laidByText := true, laidKinds := [.handle, .data], laidTests := true, laidLooks := .later }
def BucketConformsCardSaid : Prop := Claim7.holds Tryz.pinned (.plain (OpenSpec.ofChange bucketConformsSpec)) bucketConformsCard

/-- THE TIED CARD OF 'millracelaw.BucketShapes'. -/
def bucketShapesCard : Claim7 := { stood := { row := bucketShapesRow, standIns := [], harness := (true, "919b774cf105b77a5aafa1732079b2a4e7daa2b87a186c9effb5abd851db1a5f"), looks := true }, kinds := [], alts := [], laidByText := true, laidKinds := [.handle, .data], laidTests := true, laidLooks := .later }
def BucketShapesCardSaid : Prop := Claim7.holds Tryz.pinned (.plain (OpenSpec.ofChange bucketShapesSpec)) bucketShapesCard

/-- THE TIED CARD OF 'millracelaw.BucketOne'. -/
def bucketOneCard : Claim7 := { stood := { row := bucketOneRow, standIns := [], harness := (true, "919b774cf105b77a5aafa1732079b2a4e7daa2b87a186c9effb5abd851db1a5f"), looks := true }, kinds := [], alts := [], laidByText := true, laidKinds := [.handle, .data], laidTests := true, laidLooks := .later }
def BucketOneCardSaid : Prop := Claim7.holds Tryz.pinned (.plain (OpenSpec.ofChange bucketOneSpec)) bucketOneCard

/-- THE TIED CARD OF 'millracelaw.BucketTwo'. -/
def bucketTwoCard : Claim7 := { stood := { row := bucketTwoRow, standIns := [], harness := (true, "919b774cf105b77a5aafa1732079b2a4e7daa2b87a186c9effb5abd851db1a5f"), looks := true }, kinds := [], alts := [], laidByText := true, laidKinds := [.handle, .data], laidTests := true, laidLooks := .later }
def BucketTwoCardSaid : Prop := Claim7.holds Tryz.pinned (.plain (OpenSpec.ofChange bucketTwoSpec)) bucketTwoCard

/-- THE SECOND FORM's CARD OF 'millracelaw.BucketConforms'. -/
def bucketConformsUptoCard : Claim7 := { stood := { row := bucketConformsUptoRow, standIns := [], harness := (true, "919b774cf105b77a5aafa1732079b2a4e7daa2b87a186c9effb5abd851db1a5f"), looks := true }, kinds := [], alts := [], laidByText := true, laidKinds := [.handle, .data], laidTests := true, laidLooks := .later }
def BucketConformsUptoCardSaid : Prop := Claim7.holds Tryz.pinned (.plain (OpenSpec.upto bucketConformsSpec)) bucketConformsUptoCard

/-- THE SECOND FORM's CARD OF 'millracelaw.BucketShapes'. -/
def bucketShapesUptoCard : Claim7 := { stood := { row := bucketShapesUptoRow, standIns := [], harness := (true, "919b774cf105b77a5aafa1732079b2a4e7daa2b87a186c9effb5abd851db1a5f"), looks := true }, kinds := [], alts := [], laidByText := true, laidKinds := [.handle, .data], laidTests := true, laidLooks := .later }
def BucketShapesUptoCardSaid : Prop := Claim7.holds Tryz.pinned (.plain (OpenSpec.upto bucketShapesSpec)) bucketShapesUptoCard

/-- THE SECOND FORM's CARD OF 'millracelaw.BucketOne'. -/
def bucketOneUptoCard : Claim7 := { stood := { row := bucketOneUptoRow, standIns := [], harness := (true, "919b774cf105b77a5aafa1732079b2a4e7daa2b87a186c9effb5abd851db1a5f"), looks := true }, kinds := [], alts := [], laidByText := true, laidKinds := [.handle, .data], laidTests := true, laidLooks := .later }
def BucketOneUptoCardSaid : Prop := Claim7.holds Tryz.pinned (.plain (OpenSpec.upto bucketOneSpec)) bucketOneUptoCard

/-- THE SECOND FORM's CARD OF 'millracelaw.BucketTwo'. -/
def bucketTwoUptoCard : Claim7 := { stood := { row := bucketTwoUptoRow, standIns := [], harness := (true, "919b774cf105b77a5aafa1732079b2a4e7daa2b87a186c9effb5abd851db1a5f"), looks := true }, kinds := [], alts := [], laidByText := true, laidKinds := [.handle, .data], laidTests := true, laidLooks := .later }
def BucketTwoUptoCardSaid : Prop := Claim7.holds Tryz.pinned (.plain (OpenSpec.upto bucketTwoSpec)) bucketTwoUptoCard
end Rows
end Go.Proofs.YtnppmigncjakeaaGreatDoor
