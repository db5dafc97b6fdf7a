/-
  DERIVED. GIVEN WITH THE SEED: THE CARDS: each row of YtnoppfgikanebaaDoorRows.lean that lists a variable, with what it lists TIED to the program's text (the seventh form; the later family's looks); each row that meets fmt, with fmt's text TOLD by the authors' own Lean function (tested against real Go, not proved from fmt's source: count such statements apart). THE CARD IS WHAT COUNTS. Prove the row's statement (the work); the ties are given (YtnoppfgikanebaaDoorTie.lean); close each card by the builder's one call (the guide's Derived/Test/ToyasCard.lean, 'card_holds'). Laid BY PROGRAM, IN A SANDBOX (cutbox-door.mjs). By AI agents, Wed Nov 11 2026. No macro, syntax, notation, axiom, sorry.
-/
import Derived.Test.YtnoppfgikanebaaDoorRows
import GoSem.ClaimSeven
namespace Go.Proofs.YtnoppfgikanebaaDoor
namespace Rows

/-- THE TIED CARD OF 'millracekeep.ActionFields'. -/
def actionFieldsCard : Claim7 := { stood := { row := actionFieldsRow, standIns := [], harness := (true, "101f8b4c0b89eb399ce4191b8aeac19d3170aae78f429dde8944e1a9156d2a5d"), looks := true }, kinds := [], alts := [], laidByText := true, laidKinds := [.handle], laidTests := true, laidLooks := .later }
def ActionFieldsCardSaid : Prop := Claim7.holds Tryd.pinned (.plain (OpenSpec.ofChange actionFieldsSpec)) actionFieldsCard

/-- THE TIED CARD OF 'millracekeep.ActionOnce'. -/
def actionOnceCard : Claim7 := { stood := { row := actionOnceRow, standIns := [], harness := (true, "101f8b4c0b89eb399ce4191b8aeac19d3170aae78f429dde8944e1a9156d2a5d"), looks := true }, kinds := [], alts := [], laidByText := true, laidKinds := [.handle], laidTests := true, laidLooks := .later }
def ActionOnceCardSaid : Prop := Claim7.holds Tryd.pinned (.plain (OpenSpec.ofChange actionOnceSpec)) actionOnceCard

/-- THE SECOND FORM's CARD OF 'millracekeep.ActionFields'. -/
def actionFieldsUptoCard : Claim7 := { stood := { row := actionFieldsUptoRow, standIns := [], harness := (true, "101f8b4c0b89eb399ce4191b8aeac19d3170aae78f429dde8944e1a9156d2a5d"), looks := true }, kinds := [], alts := [], laidByText := true, laidKinds := [.handle], laidTests := true, laidLooks := .later }
def ActionFieldsUptoCardSaid : Prop := Claim7.holds Tryd.pinned (.plain (OpenSpec.upto actionFieldsSpec)) actionFieldsUptoCard

/-- THE SECOND FORM's CARD OF 'millracekeep.ActionOnce'. -/
def actionOnceUptoCard : Claim7 := { stood := { row := actionOnceUptoRow, standIns := [], harness := (true, "101f8b4c0b89eb399ce4191b8aeac19d3170aae78f429dde8944e1a9156d2a5d"), looks := true }, kinds := [], alts := [], laidByText := true, laidKinds := [.handle], laidTests := true, laidLooks := .later }
def ActionOnceUptoCardSaid : Prop := Claim7.holds Tryd.pinned (.plain (OpenSpec.upto actionOnceSpec)) actionOnceUptoCard
end Rows
end Go.Proofs.YtnoppfgikanebaaDoor
