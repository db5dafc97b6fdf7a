/-
  DERIVED. GIVEN WITH THE SEED: THE CARDS: each row of YtefflbibacmboaaDoorRows.lean that lists a variable, with what it lists TIED to the program's text (the seventh form; the later family's looks); each row that meets fmt, with fmt's text TOLD by the authors' own Lean function (tested against real Go, not proved from fmt's source: count such statements apart). THE CARD IS WHAT COUNTS. Prove the row's statement (the work); the ties are given (YtefflbibacmboaaDoorTie.lean); close each card by the builder's one call (the guide's Derived/Test/ToyasCard.lean, 'card_holds'). Laid BY PROGRAM, IN A SANDBOX (cutbox-door.mjs). By AI agents, Wed Nov 11 2026. No macro, syntax, notation, axiom, sorry.
-/
import Derived.Test.YtefflbibacmboaaDoorRows
import GoSem.ClaimSeven
namespace Go.Proofs.YtefflbibacmboaaDoor
namespace Rows

/-- THE TIED CARD OF 'millracelaw.EarlyRed'. -/
def earlyRedCard : Claim7 := { stood := { row := earlyRedRow, standIns := [], harness := (true, "6bcde9cce727cba9e0b60ecd3e4761d4471159ae6cbe6624fd31d6bec83a9d83"), looks := true }, kinds := [], alts := [], laidByText := true, laidKinds := [.handle], laidTests := true, laidLooks := .later }
def EarlyRedCardSaid : Prop := Claim7.holds Tryd.pinned (.plain (OpenSpec.ofChange earlyRedSpec)) earlyRedCard

/-- THE TIED CARD OF 'millracelaw.EarlyDelay'. -/
def earlyDelayCard : Claim7 := { stood := { row := earlyDelayRow, standIns := [], harness := (true, "6bcde9cce727cba9e0b60ecd3e4761d4471159ae6cbe6624fd31d6bec83a9d83"), looks := true }, kinds := [], alts := [], laidByText := true, laidKinds := [.handle], laidTests := true, laidLooks := .later }
def EarlyDelayCardSaid : Prop := Claim7.holds Tryd.pinned (.plain (OpenSpec.ofChange earlyDelaySpec)) earlyDelayCard

/-- THE TIED CARD OF 'millracelaw.FairRounds'. -/
def fairRoundsCard : Claim7 := { stood := { row := fairRoundsRow, standIns := [], harness := (true, "6bcde9cce727cba9e0b60ecd3e4761d4471159ae6cbe6624fd31d6bec83a9d83"), looks := true }, kinds := [], alts := [], laidByText := true, laidKinds := [.handle], laidTests := true, laidLooks := .later }
def FairRoundsCardSaid : Prop := Claim7.holds Tryd.pinned (.plain (OpenSpec.ofChange fairRoundsSpec)) fairRoundsCard

/-- THE TIED CARD OF 'millracelaw.FairHashed'. -/
def fairHashedCard : Claim7 := { stood := { row := fairHashedRow, standIns := [], harness := (true, "6bcde9cce727cba9e0b60ecd3e4761d4471159ae6cbe6624fd31d6bec83a9d83"), looks := true }, kinds := [], alts := [], laidByText := true, laidKinds := [.handle], laidTests := true, laidLooks := .later }
def FairHashedCardSaid : Prop := Claim7.holds Tryd.pinned (.plain (OpenSpec.ofChange fairHashedSpec)) fairHashedCard

/-- THE SECOND FORM's CARD OF 'millracelaw.EarlyRed'. -/
def earlyRedUptoCard : Claim7 := { stood := { row := earlyRedUptoRow, standIns := [], harness := (true, "6bcde9cce727cba9e0b60ecd3e4761d4471159ae6cbe6624fd31d6bec83a9d83"), looks := true }, kinds := [], alts := [], laidByText := true, laidKinds := [.handle], laidTests := true, laidLooks := .later }
def EarlyRedUptoCardSaid : Prop := Claim7.holds Tryd.pinned (.plain (OpenSpec.upto earlyRedSpec)) earlyRedUptoCard

/-- THE SECOND FORM's CARD OF 'millracelaw.EarlyDelay'. -/
def earlyDelayUptoCard : Claim7 := { stood := { row := earlyDelayUptoRow, standIns := [], harness := (true, "6bcde9cce727cba9e0b60ecd3e4761d4471159ae6cbe6624fd31d6bec83a9d83"), looks := true }, kinds := [], alts := [], laidByText := true, laidKinds := [.handle], laidTests := true, laidLooks := .later }
def EarlyDelayUptoCardSaid : Prop := Claim7.holds Tryd.pinned (.plain (OpenSpec.upto earlyDelaySpec)) earlyDelayUptoCard

/-- THE SECOND FORM's CARD OF 'millracelaw.FairRounds'. -/
def fairRoundsUptoCard : Claim7 := { stood := { row := fairRoundsUptoRow, standIns := [], harness := (true, "6bcde9cce727cba9e0b60ecd3e4761d4471159ae6cbe6624fd31d6bec83a9d83"), looks := true }, kinds := [], alts := [], laidByText := true, laidKinds := [.handle], laidTests := true, laidLooks := .later }
def FairRoundsUptoCardSaid : Prop := Claim7.holds Tryd.pinned (.plain (OpenSpec.upto fairRoundsSpec)) fairRoundsUptoCard

/-- THE SECOND FORM's CARD OF 'millracelaw.FairHashed'. -/
def fairHashedUptoCard : Claim7 := { stood := { row := fairHashedUptoRow, standIns := [], harness := (true, "6bcde9cce727cba9e0b60ecd3e4761d4471159ae6cbe6624fd31d6bec83a9d83"), looks := true }, kinds := [], alts := [], laidByText := true, laidKinds := [.handle], laidTests := true, laidLooks := .later }
def FairHashedUptoCardSaid : Prop := Claim7.holds Tryd.pinned (.plain (OpenSpec.upto fairHashedSpec)) fairHashedUptoCard
end Rows
end Go.Proofs.YtefflbibacmboaaDoor
