/-
  DERIVED. GIVEN WITH THE SEED: THE CARDS: each row of YtpaojmfgpeldeaaDoorRows.lean that lists a variable, with what it lists TIED to the program's text (the seventh form; the later family's looks); each row that meets fmt, with fmt's text TOLD by the authors' own Lean function (tested against real Go, not proved from fmt's source: count such statements apart). THE CARD IS WHAT COUNTS. Prove the row's statement (the work); the ties are given (YtpaojmfgpeldeaaDoorTie.lean); close each card by the builder's one call (the guide's Derived/Test/ToyasCard.lean, 'card_holds'). Laid BY PROGRAM, IN A SANDBOX (cutbox-door.mjs). By AI agents, Wed Nov 11 2026. No macro, syntax, notation, axiom, sorry.
-/
import Derived.Test.YtpaojmfgpeldeaaDoorRows
import GoSem.ClaimSeven
namespace Go.Proofs.YtpaojmfgpeldeaaDoor
namespace Rows

/-- THE TIED CARD OF 'millracekeep.FilterMorgan'. -/
def filterMorganCard : Claim7 := { stood := { row := filterMorganRow, standIns := [], harness := (true, "09b762579c0c29ee6667e3783581b02c72c0d4870e4ab31ca44d2a684e47684b"), looks := true }, kinds := [], alts := [], laidByText := true, laidKinds := [.data, .data, .data, .sentinel, .sentinel, .data], laidTests := true, laidLooks := .later }
def FilterMorganCardSaid : Prop := Claim7.holds Tryd.pinned (.plain (OpenSpec.ofChange filterMorganSpec)) filterMorganCard

/-- THE SECOND FORM's CARD OF 'millracekeep.FilterMorgan'. -/
def filterMorganUptoCard : Claim7 := { stood := { row := filterMorganUptoRow, standIns := [], harness := (true, "09b762579c0c29ee6667e3783581b02c72c0d4870e4ab31ca44d2a684e47684b"), looks := true }, kinds := [], alts := [], laidByText := true, laidKinds := [.data, .data, .data, .sentinel, .sentinel, .data], laidTests := true, laidLooks := .later }
def FilterMorganUptoCardSaid : Prop := Claim7.holds Tryd.pinned (.plain (OpenSpec.upto filterMorganSpec)) filterMorganUptoCard
end Rows
end Go.Proofs.YtpaojmfgpeldeaaDoor
