/-
  DERIVED. GIVEN WITH THE SEED: THE CARDS: each row of YtgklojgflcekoaaDoorRows.lean that lists a variable, with what it lists TIED to the program's text (the seventh form; the later family's looks); each row that meets fmt, with fmt's text TOLD by the authors' own Lean function (tested against real Go, not proved from fmt's source: count such statements apart). THE CARD IS WHAT COUNTS. Prove the row's statement (the work); the ties are given (YtgklojgflcekoaaDoorTie.lean); close each card by the builder's one call (the guide's Derived/Test/ToyasCard.lean, 'card_holds'). Laid BY PROGRAM, IN A SANDBOX (cutbox-door.mjs). By AI agents, Wed Nov 11 2026. No macro, syntax, notation, axiom, sorry.
-/
import Derived.Test.YtgklojgflcekoaaDoorRows
import GoSem.ClaimSeven
namespace Go.Proofs.YtgklojgflcekoaaDoor
namespace Rows

/-- THE TIED CARD OF 'millracekeep.LinkShaped'. -/
def linkShapedCard : Claim7 := { stood := { row := linkShapedRow, standIns := [], harness := (true, "8e0ea5a6ca1720571fdd806169847b7993162601765f8da9c76f253e9232edf9"), looks := true }, kinds := [], alts := [], laidByText := true, laidKinds := [.handle], laidTests := true, laidLooks := .later }
def LinkShapedCardSaid : Prop := Claim7.holds Tryd.pinned (.plain (OpenSpec.ofChange linkShapedSpec)) linkShapedCard

/-- THE SECOND FORM's CARD OF 'millracekeep.LinkShaped'. -/
def linkShapedUptoCard : Claim7 := { stood := { row := linkShapedUptoRow, standIns := [], harness := (true, "8e0ea5a6ca1720571fdd806169847b7993162601765f8da9c76f253e9232edf9"), looks := true }, kinds := [], alts := [], laidByText := true, laidKinds := [.handle], laidTests := true, laidLooks := .later }
def LinkShapedUptoCardSaid : Prop := Claim7.holds Tryd.pinned (.plain (OpenSpec.upto linkShapedSpec)) linkShapedUptoCard
end Rows
end Go.Proofs.YtgklojgflcekoaaDoor
