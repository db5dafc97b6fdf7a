/-
  DERIVED. GIVEN WITH THE SEED: THE CARDS: each row of YtpjhiioecigfhaaDoorRows.lean that lists a variable, with what it lists TIED to the program's text (the seventh form; the later family's looks); each row that meets fmt, with fmt's text TOLD by the authors' own Lean function (tested against real Go, not proved from fmt's source: count such statements apart). THE CARD IS WHAT COUNTS. Prove the row's statement (the work); the ties are given (YtpjhiioecigfhaaDoorTie.lean); close each card by the builder's one call (the guide's Derived/Test/ToyasCard.lean, 'card_holds'). Laid BY PROGRAM, IN A SANDBOX (cutbox-door.mjs). By AI agents, Wed Nov 11 2026. No macro, syntax, notation, axiom, sorry.
-/
import Derived.Test.YtpjhiioecigfhaaDoorRows
import GoSem.ClaimSeven
namespace Go.Proofs.YtpjhiioecigfhaaDoor
namespace Rows

/-- THE TIED CARD OF 'millracelaw.QueueBands'. -/
def queueBandsCard : Claim7 := { stood := { row := queueBandsRow, standIns := [], harness := (true, "bca3dd08ce9cdbcfb0f29da7e39eef06350d7226c3cbb568de2897ac1547f3a3"), looks := true }, kinds := [], alts := [], laidByText := true, laidKinds := [.handle], laidTests := true, laidLooks := .later }
def QueueBandsCardSaid : Prop := Claim7.holds Tryd.pinned (.plain (OpenSpec.ofChange queueBandsSpec)) queueBandsCard

/-- THE TIED CARD OF 'millracelaw.EarlyRed'. -/
def earlyRedCard : Claim7 := { stood := { row := earlyRedRow, standIns := [], harness := (true, "bca3dd08ce9cdbcfb0f29da7e39eef06350d7226c3cbb568de2897ac1547f3a3"), looks := true }, kinds := [], alts := [], laidByText := true, laidKinds := [.handle], laidTests := true, laidLooks := .later }
def EarlyRedCardSaid : Prop := Claim7.holds Tryd.pinned (.plain (OpenSpec.ofChange earlyRedSpec)) earlyRedCard

/-- THE TIED CARD OF 'millracelaw.EarlyDelay'. -/
def earlyDelayCard : Claim7 := { stood := { row := earlyDelayRow, standIns := [], harness := (true, "bca3dd08ce9cdbcfb0f29da7e39eef06350d7226c3cbb568de2897ac1547f3a3"), looks := true }, kinds := [], alts := [], laidByText := true, laidKinds := [.handle], laidTests := true, laidLooks := .later }
def EarlyDelayCardSaid : Prop := Claim7.holds Tryd.pinned (.plain (OpenSpec.ofChange earlyDelaySpec)) earlyDelayCard

/-- THE SECOND FORM's CARD OF 'millracelaw.QueueBands'. -/
def queueBandsUptoCard : Claim7 := { stood := { row := queueBandsUptoRow, standIns := [], harness := (true, "bca3dd08ce9cdbcfb0f29da7e39eef06350d7226c3cbb568de2897ac1547f3a3"), looks := true }, kinds := [], alts := [], laidByText := true, laidKinds := [.handle], laidTests := true, laidLooks := .later }
def QueueBandsUptoCardSaid : Prop := Claim7.holds Tryd.pinned (.plain (OpenSpec.upto queueBandsSpec)) queueBandsUptoCard

/-- THE SECOND FORM's CARD OF 'millracelaw.EarlyRed'. -/
def earlyRedUptoCard : Claim7 := { stood := { row := earlyRedUptoRow, standIns := [], harness := (true, "bca3dd08ce9cdbcfb0f29da7e39eef06350d7226c3cbb568de2897ac1547f3a3"), looks := true }, kinds := [], alts := [], laidByText := true, laidKinds := [.handle], laidTests := true, laidLooks := .later }
def EarlyRedUptoCardSaid : Prop := Claim7.holds Tryd.pinned (.plain (OpenSpec.upto earlyRedSpec)) earlyRedUptoCard

/-- THE SECOND FORM's CARD OF 'millracelaw.EarlyDelay'. -/
def earlyDelayUptoCard : Claim7 := { stood := { row := earlyDelayUptoRow, standIns := [], harness := (true, "bca3dd08ce9cdbcfb0f29da7e39eef06350d7226c3cbb568de2897ac1547f3a3"), looks := true }, kinds := [], alts := [], laidByText := true, laidKinds := [.handle], laidTests := true, laidLooks := .later }
def EarlyDelayUptoCardSaid : Prop := Claim7.holds Tryd.pinned (.plain (OpenSpec.upto earlyDelaySpec)) earlyDelayUptoCard
end Rows
end Go.Proofs.YtpjhiioecigfhaaDoor
