/-
  DERIVED. GIVEN WITH THE SEED: THE CARDS: each row of YtgiommaelipmhaaDoorRows.lean that lists a variable, with what it lists TIED to the program's text (the seventh form; the later family's looks); each row that meets fmt, with fmt's text TOLD by the authors' own Lean function (tested against real Go, not proved from fmt's source: count such statements apart). THE CARD IS WHAT COUNTS. Prove the row's statement (the work); the ties are given (YtgiommaelipmhaaDoorTie.lean); close each card by the builder's one call (the guide's Derived/Test/ToyasCard.lean, 'card_holds'). Laid BY PROGRAM, IN A SANDBOX (cutbox-door.mjs). By AI agents, Wed Nov 11 2026. No macro, syntax, notation, axiom, sorry.
-/
import Derived.Test.YtgiommaelipmhaaDoorRows
import GoSem.ClaimSeven
namespace Go.Proofs.YtgiommaelipmhaaDoor
namespace Rows

/-- THE TIED CARD OF 'millracelaw.QueueFifo'. -/
def queueFifoCard : Claim7 := { stood := { row := queueFifoRow, standIns := [], harness := (true, "6d63b572ad556c81a27aaef1670a13ea02be138921460a053b54e69ecbf8d6fd"), looks := true }, kinds := [], alts := [], laidByText := true, laidKinds := [.handle], laidTests := true, laidLooks := .later }
def QueueFifoCardSaid : Prop := Claim7.holds Tryd.pinned (.plain (OpenSpec.ofChange queueFifoSpec)) queueFifoCard

/-- THE TIED CARD OF 'millracelaw.QueueBands'. -/
def queueBandsCard : Claim7 := { stood := { row := queueBandsRow, standIns := [], harness := (true, "6d63b572ad556c81a27aaef1670a13ea02be138921460a053b54e69ecbf8d6fd"), looks := true }, kinds := [], alts := [], laidByText := true, laidKinds := [.handle], laidTests := true, laidLooks := .later }
def QueueBandsCardSaid : Prop := Claim7.holds Tryd.pinned (.plain (OpenSpec.ofChange queueBandsSpec)) queueBandsCard

/-- THE SECOND FORM's CARD OF 'millracelaw.QueueFifo'. -/
def queueFifoUptoCard : Claim7 := { stood := { row := queueFifoUptoRow, standIns := [], harness := (true, "6d63b572ad556c81a27aaef1670a13ea02be138921460a053b54e69ecbf8d6fd"), looks := true }, kinds := [], alts := [], laidByText := true, laidKinds := [.handle], laidTests := true, laidLooks := .later }
def QueueFifoUptoCardSaid : Prop := Claim7.holds Tryd.pinned (.plain (OpenSpec.upto queueFifoSpec)) queueFifoUptoCard

/-- THE SECOND FORM's CARD OF 'millracelaw.QueueBands'. -/
def queueBandsUptoCard : Claim7 := { stood := { row := queueBandsUptoRow, standIns := [], harness := (true, "6d63b572ad556c81a27aaef1670a13ea02be138921460a053b54e69ecbf8d6fd"), looks := true }, kinds := [], alts := [], laidByText := true, laidKinds := [.handle], laidTests := true, laidLooks := .later }
def QueueBandsUptoCardSaid : Prop := Claim7.holds Tryd.pinned (.plain (OpenSpec.upto queueBandsSpec)) queueBandsUptoCard
end Rows
end Go.Proofs.YtgiommaelipmhaaDoor
