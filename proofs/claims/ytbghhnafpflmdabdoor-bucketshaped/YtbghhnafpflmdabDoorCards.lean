/-
  DERIVED. GIVEN WITH THE SEED: THE CARDS: each row of YtbghhnafpflmdabDoorRows.lean that lists a variable, with what it lists TIED to the program's text (the seventh form; the later family's looks); each row that meets fmt, with fmt's text TOLD by the authors' own Lean function (tested against real Go, not proved from fmt's source: count such statements apart). THE CARD IS WHAT COUNTS. Prove the row's statement (the work); the ties are given (YtbghhnafpflmdabDoorTie.lean); close each card by the builder's one call (the guide's Derived/Test/ToyasCard.lean, 'card_holds'). Laid BY PROGRAM, IN A SANDBOX (cutbox-door.mjs). By AI agents, Wed Nov 11 2026. No macro, syntax, notation, axiom, sorry.
-/
import Derived.Test.YtbghhnafpflmdabDoorRows
import GoSem.ClaimSeven
namespace Go.Proofs.YtbghhnafpflmdabDoor
namespace Rows

/-- THE TIED CARD OF 'millracekeep.BucketGcra'. -/
def bucketGcraCard : Claim7 := { stood := { row := bucketGcraRow, standIns := [], harness := (true, "c9f18b1ff2765379c4d0211ebcbf9c725e8a48b10d5083ea4879d9844547baf9"), looks := true }, kinds := [], alts := [], laidByText := true, laidKinds := [.handle], laidTests := true, laidLooks := .later }
def BucketGcraCardSaid : Prop := Claim7.holds Tryd.pinned (.plain (OpenSpec.ofChange bucketGcraSpec)) bucketGcraCard

/-- THE TIED CARD OF 'millracekeep.BucketBounds'. -/
def bucketBoundsCard : Claim7 := { stood := { row := bucketBoundsRow, standIns := [], harness := (true, "c9f18b1ff2765379c4d0211ebcbf9c725e8a48b10d5083ea4879d9844547baf9"), looks := true }, kinds := [], alts := [], laidByText := true, laidKinds := [.handle], laidTests := true, laidLooks := .later }
def BucketBoundsCardSaid : Prop := Claim7.holds Tryd.pinned (.plain (OpenSpec.ofChange bucketBoundsSpec)) bucketBoundsCard

/-- THE TIED CARD OF 'millracekeep.BucketShaped'. -/
def bucketShapedCard : Claim7 := { stood := { row := bucketShapedRow, standIns := [], harness := (true, "c9f18b1ff2765379c4d0211ebcbf9c725e8a48b10d5083ea4879d9844547baf9"), looks := true }, kinds := [], alts := [], laidByText := true, laidKinds := [.handle], laidTests := true, laidLooks := .later }
def BucketShapedCardSaid : Prop := Claim7.holds Tryd.pinned (.plain (OpenSpec.ofChange bucketShapedSpec)) bucketShapedCard

/-- THE TIED CARD OF 'millracekeep.BucketColors'. -/
def bucketColorsCard : Claim7 := { stood := { row := bucketColorsRow, standIns := [], harness := (true, "c9f18b1ff2765379c4d0211ebcbf9c725e8a48b10d5083ea4879d9844547baf9"), looks := true }, kinds := [], alts := [], laidByText := true, laidKinds := [.handle], laidTests := true, laidLooks := .later }
def BucketColorsCardSaid : Prop := Claim7.holds Tryd.pinned (.plain (OpenSpec.ofChange bucketColorsSpec)) bucketColorsCard

/-- THE SECOND FORM's CARD OF 'millracekeep.BucketGcra'. -/
def bucketGcraUptoCard : Claim7 := { stood := { row := bucketGcraUptoRow, standIns := [], harness := (true, "c9f18b1ff2765379c4d0211ebcbf9c725e8a48b10d5083ea4879d9844547baf9"), looks := true }, kinds := [], alts := [], laidByText := true, laidKinds := [.handle], laidTests := true, laidLooks := .later }
def BucketGcraUptoCardSaid : Prop := Claim7.holds Tryd.pinned (.plain (OpenSpec.upto bucketGcraSpec)) bucketGcraUptoCard

/-- THE SECOND FORM's CARD OF 'millracekeep.BucketBounds'. -/
def bucketBoundsUptoCard : Claim7 := { stood := { row := bucketBoundsUptoRow, standIns := [], harness := (true, "c9f18b1ff2765379c4d0211ebcbf9c725e8a48b10d5083ea4879d9844547baf9"), looks := true }, kinds := [], alts := [], laidByText := true, laidKinds := [.handle], laidTests := true, laidLooks := .later }
def BucketBoundsUptoCardSaid : Prop := Claim7.holds Tryd.pinned (.plain (OpenSpec.upto bucketBoundsSpec)) bucketBoundsUptoCard

/-- THE SECOND FORM's CARD OF 'millracekeep.BucketShaped'. -/
def bucketShapedUptoCard : Claim7 := { stood := { row := bucketShapedUptoRow, standIns := [], harness := (true, "c9f18b1ff2765379c4d0211ebcbf9c725e8a48b10d5083ea4879d9844547baf9"), looks := true }, kinds := [], alts := [], laidByText := true, laidKinds := [.handle], laidTests := true, laidLooks := .later }
def BucketShapedUptoCardSaid : Prop := Claim7.holds Tryd.pinned (.plain (OpenSpec.upto bucketShapedSpec)) bucketShapedUptoCard

/-- THE SECOND FORM's CARD OF 'millracekeep.BucketColors'. -/
def bucketColorsUptoCard : Claim7 := { stood := { row := bucketColorsUptoRow, standIns := [], harness := (true, "c9f18b1ff2765379c4d0211ebcbf9c725e8a48b10d5083ea4879d9844547baf9"), looks := true }, kinds := [], alts := [], laidByText := true, laidKinds := [.handle], laidTests := true, laidLooks := .later }
def BucketColorsUptoCardSaid : Prop := Claim7.holds Tryd.pinned (.plain (OpenSpec.upto bucketColorsSpec)) bucketColorsUptoCard
end Rows
end Go.Proofs.YtbghhnafpflmdabDoor
