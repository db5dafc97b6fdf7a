/-
  DERIVED. GIVEN WITH THE SEED: THE CARDS: each row of YtebahbcmlhdleaaDoorRows.lean that lists a variable, with what it lists TIED to the program's text (the seventh form; the later family's looks); each row that meets fmt, with fmt's text TOLD by the authors' own Lean function (tested against real Go, not proved from fmt's source: count such statements apart). THE CARD IS WHAT COUNTS. Prove the row's statement (the work); the ties are given (YtebahbcmlhdleaaDoorTie.lean); close each card by the builder's one call (the guide's Derived/Test/ToyasCard.lean, 'card_holds'). Laid BY PROGRAM, IN A SANDBOX (cutbox-door.mjs). By AI agents, Wed Nov 11 2026. No macro, syntax, notation, axiom, sorry.
-/
import Derived.Test.YtebahbcmlhdleaaDoorRows
import GoSem.ClaimSeven
namespace Go.Proofs.YtebahbcmlhdleaaDoor
namespace Rows

/-- THE TIED CARD OF 'millracelaw.CurveMakes'. -/
def curveMakesCard : Claim7 := { stood := { row := curveMakesRow, standIns := [], harness := (true, "c5796624cf24f79b78622ac1f468536ae43d6b2060f05900960692493bdff7af"), looks := true }, kinds := [], alts := [], laidByText := true, laidKinds := [.handle], laidTests := true, laidLooks := .later }
def CurveMakesCardSaid : Prop := Claim7.holds Tryd.pinned (.plain (OpenSpec.ofChange curveMakesSpec)) curveMakesCard

/-- THE TIED CARD OF 'millracekeep.CurveConforms'. -/
def curveConformsCard : Claim7 := { stood := { row := curveConformsRow, standIns := [], harness := (true, "c5796624cf24f79b78622ac1f468536ae43d6b2060f05900960692493bdff7af"), looks := true }, kinds := [], alts := [], laidByText := true, laidKinds := [.handle], laidTests := true, laidLooks := .later }
def CurveConformsCardSaid : Prop := Claim7.holds Tryd.pinned (.plain (OpenSpec.ofChange curveConformsSpec)) curveConformsCard

/-- THE SECOND FORM's CARD OF 'millracelaw.CurveMakes'. -/
def curveMakesUptoCard : Claim7 := { stood := { row := curveMakesUptoRow, standIns := [], harness := (true, "c5796624cf24f79b78622ac1f468536ae43d6b2060f05900960692493bdff7af"), looks := true }, kinds := [], alts := [], laidByText := true, laidKinds := [.handle], laidTests := true, laidLooks := .later }
def CurveMakesUptoCardSaid : Prop := Claim7.holds Tryd.pinned (.plain (OpenSpec.upto curveMakesSpec)) curveMakesUptoCard

/-- THE SECOND FORM's CARD OF 'millracekeep.CurveConforms'. -/
def curveConformsUptoCard : Claim7 := { stood := { row := curveConformsUptoRow, standIns := [], harness := (true, "c5796624cf24f79b78622ac1f468536ae43d6b2060f05900960692493bdff7af"), looks := true }, kinds := [], alts := [], laidByText := true, laidKinds := [.handle], laidTests := true, laidLooks := .later }
def CurveConformsUptoCardSaid : Prop := Claim7.holds Tryd.pinned (.plain (OpenSpec.upto curveConformsSpec)) curveConformsUptoCard
end Rows
end Go.Proofs.YtebahbcmlhdleaaDoor
