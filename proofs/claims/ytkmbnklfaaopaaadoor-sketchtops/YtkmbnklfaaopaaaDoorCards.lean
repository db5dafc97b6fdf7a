/-
  DERIVED. GIVEN WITH THE SEED: THE CARDS: each row of YtkmbnklfaaopaaaDoorRows.lean that lists a variable, with what it lists TIED to the program's text (the seventh form; the later family's looks); each row that meets fmt, with fmt's text TOLD by the authors' own Lean function (tested against real Go, not proved from fmt's source: count such statements apart). THE CARD IS WHAT COUNTS. Prove the row's statement (the work); the ties are given (YtkmbnklfaaopaaaDoorTie.lean); close each card by the builder's one call (the guide's Derived/Test/ToyasCard.lean, 'card_holds'). Laid BY PROGRAM, IN A SANDBOX (cutbox-door.mjs). By AI agents, Wed Nov 11 2026. No macro, syntax, notation, axiom, sorry.
-/
import Derived.Test.YtkmbnklfaaopaaaDoorRows
import GoSem.ClaimSeven
namespace Go.Proofs.YtkmbnklfaaopaaaDoor
namespace Rows

/-- THE TIED CARD OF 'millracelaw.SketchTops'. -/
def sketchTopsCard : Claim7 := { stood := { row := sketchTopsRow, standIns := [], harness := (true, "e57bcb21ae2b2cfd1c9bd191ca2611053e4a137d29415505c4d9be5565fb2bfa"), looks := true }, kinds := [], alts := [], laidByText := true, laidKinds := [.handle], laidTests := true, laidLooks := .later }
def SketchTopsCardSaid : Prop := Claim7.holds Tryd.pinned (.plain (OpenSpec.ofChange sketchTopsSpec)) sketchTopsCard

/-- THE TIED CARD OF 'millracelaw.SketchGrids'. -/
def sketchGridsCard : Claim7 := { stood := { row := sketchGridsRow, standIns := [], harness := (true, "e57bcb21ae2b2cfd1c9bd191ca2611053e4a137d29415505c4d9be5565fb2bfa"), looks := true }, kinds := [], alts := [], laidByText := true, laidKinds := [.handle], laidTests := true, laidLooks := .later }
def SketchGridsCardSaid : Prop := Claim7.holds Tryd.pinned (.plain (OpenSpec.ofChange sketchGridsSpec)) sketchGridsCard

/-- THE TIED CARD OF 'millracelaw.SketchRates'. -/
def sketchRatesCard : Claim7 := { stood := { row := sketchRatesRow, standIns := [], harness := (true, "e57bcb21ae2b2cfd1c9bd191ca2611053e4a137d29415505c4d9be5565fb2bfa"), looks := true }, kinds := [], alts := [], laidByText := true, laidKinds := [.handle], laidTests := true, laidLooks := .later }
def SketchRatesCardSaid : Prop := Claim7.holds Tryd.pinned (.plain (OpenSpec.ofChange sketchRatesSpec)) sketchRatesCard

/-- THE SECOND FORM's CARD OF 'millracelaw.SketchTops'. -/
def sketchTopsUptoCard : Claim7 := { stood := { row := sketchTopsUptoRow, standIns := [], harness := (true, "e57bcb21ae2b2cfd1c9bd191ca2611053e4a137d29415505c4d9be5565fb2bfa"), looks := true }, kinds := [], alts := [], laidByText := true, laidKinds := [.handle], laidTests := true, laidLooks := .later }
def SketchTopsUptoCardSaid : Prop := Claim7.holds Tryd.pinned (.plain (OpenSpec.upto sketchTopsSpec)) sketchTopsUptoCard

/-- THE SECOND FORM's CARD OF 'millracelaw.SketchGrids'. -/
def sketchGridsUptoCard : Claim7 := { stood := { row := sketchGridsUptoRow, standIns := [], harness := (true, "e57bcb21ae2b2cfd1c9bd191ca2611053e4a137d29415505c4d9be5565fb2bfa"), looks := true }, kinds := [], alts := [], laidByText := true, laidKinds := [.handle], laidTests := true, laidLooks := .later }
def SketchGridsUptoCardSaid : Prop := Claim7.holds Tryd.pinned (.plain (OpenSpec.upto sketchGridsSpec)) sketchGridsUptoCard

/-- THE SECOND FORM's CARD OF 'millracelaw.SketchRates'. -/
def sketchRatesUptoCard : Claim7 := { stood := { row := sketchRatesUptoRow, standIns := [], harness := (true, "e57bcb21ae2b2cfd1c9bd191ca2611053e4a137d29415505c4d9be5565fb2bfa"), looks := true }, kinds := [], alts := [], laidByText := true, laidKinds := [.handle], laidTests := true, laidLooks := .later }
def SketchRatesUptoCardSaid : Prop := Claim7.holds Tryd.pinned (.plain (OpenSpec.upto sketchRatesSpec)) sketchRatesUptoCard
end Rows
end Go.Proofs.YtkmbnklfaaopaaaDoor
