/-
  DERIVED. GIVEN WITH THE SEED: THE CARDS: each row of YticplgdfgckicaaGreatDoorRows.lean that lists a variable, with what it lists TIED to the program's text (the seventh form; the later family's looks); each row that meets fmt, with fmt's text TOLD by the authors' own Lean function (tested against real Go, not proved from fmt's source: count such statements apart). THE CARD IS WHAT COUNTS. Prove the row's statement (the work); the ties are given (YticplgdfgckicaaGreatDoorTie.lean); close each card by the builder's one call (the guide's Derived/Test/ToyasCard.lean, 'card_holds'). Laid BY PROGRAM, IN A SANDBOX (cutbox-door.mjs). By AI agents, Wed Nov 11 2026. No macro, syntax, notation, axiom, sorry.
-/
import Derived.Test.YticplgdfgckicaaGreatDoorRows
import GoSem.ClaimSeven
namespace Go.Proofs.YticplgdfgckicaaGreatDoor
namespace Rows

/-- THE TIED CARD OF 'millracekeep.LinkBusy'. -/
def linkBusyCard : Claim7 := { stood := { row := linkBusyRow, standIns := [], harness := (true, "d5e3b1ba959144d0b836810a63b3dc8d6f64b741c8d7f9f265e4d14d286e468b"), looks := true }, kinds := [], alts := [], laidByText := true, laidKinds := [.data, .data, .data, .handle, .sentinel, .sentinel], laidTests := true, laidLooks := .later }
def LinkBusyCardSaid : Prop := Claim7.holds Tryz.pinned (.plain (OpenSpec.ofChange linkBusySpec)) linkBusyCard

/-- THE TIED CARD OF 'millracekeep.LinkWaits'. -/
def linkWaitsCard : Claim7 := { stood := { row := linkWaitsRow, standIns := [], harness := (true, "d5e3b1ba959144d0b836810a63b3dc8d6f64b741c8d7f9f265e4d14d286e468b"), looks := true }, kinds := [], alts := [], laidByText := true, laidKinds := [.data, .data, .data, .handle, .sentinel, .sentinel], laidTests := true, laidLooks := .later }
def LinkWaitsCardSaid : Prop := Claim7.holds Tryz.pinned (.plain (OpenSpec.ofChange linkWaitsSpec)) linkWaitsCard

/-- THE SECOND FORM's CARD OF 'millracekeep.LinkBusy'. -/
def linkBusyUptoCard : Claim7 := { stood := { row := linkBusyUptoRow, standIns := [], harness := (true, "d5e3b1ba959144d0b836810a63b3dc8d6f64b741c8d7f9f265e4d14d286e468b"), looks := true }, kinds := [], alts := [], laidByText := true, laidKinds := [.data, .data, .data, .handle, .sentinel, .sentinel], laidTests := true, laidLooks := .later }
def LinkBusyUptoCardSaid : Prop := Claim7.holds Tryz.pinned (.plain (OpenSpec.upto linkBusySpec)) linkBusyUptoCard

/-- THE SECOND FORM's CARD OF 'millracekeep.LinkWaits'. -/
def linkWaitsUptoCard : Claim7 := { stood := { row := linkWaitsUptoRow, standIns := [], harness := (true, "d5e3b1ba959144d0b836810a63b3dc8d6f64b741c8d7f9f265e4d14d286e468b"), looks := true }, kinds := [], alts := [], laidByText := true, laidKinds := [.data, .data, .data, .handle, .sentinel, .sentinel], laidTests := true, laidLooks := .later }
def LinkWaitsUptoCardSaid : Prop := Claim7.holds Tryz.pinned (.plain (OpenSpec.upto linkWaitsSpec)) linkWaitsUptoCard
end Rows
end Go.Proofs.YticplgdfgckicaaGreatDoor
