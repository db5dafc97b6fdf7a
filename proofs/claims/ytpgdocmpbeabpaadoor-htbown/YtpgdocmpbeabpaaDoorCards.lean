/-
  DERIVED. GIVEN WITH THE SEED: THE CARDS: each row of YtpgdocmpbeabpaaDoorRows.lean that lists a variable, with what it lists TIED to the program's text (the seventh form; the later family's looks); each row that meets fmt, with fmt's text TOLD by the authors' own Lean function (tested against real Go, not proved from fmt's source: count such statements apart). THE CARD IS WHAT COUNTS. Prove the row's statement (the work); the ties are given (YtpgdocmpbeabpaaDoorTie.lean); close each card by the builder's one call (the guide's Derived/Test/ToyasCard.lean, 'card_holds'). Laid BY PROGRAM, IN A SANDBOX (cutbox-door.mjs). By AI agents, Wed Nov 11 2026. No macro, syntax, notation, axiom, sorry.
-/
import Derived.Test.YtpgdocmpbeabpaaDoorRows
import GoSem.ClaimSeven
namespace Go.Proofs.YtpgdocmpbeabpaaDoor
namespace Rows

/-- THE TIED CARD OF 'millracekeep.HtbCeils'. -/
def htbCeilsCard : Claim7 := { stood := { row := htbCeilsRow, standIns := [], harness := (true, "5c3538aa09b5c5d375e7398fe5d0fa8dbe298aa3a7330d6d1ada04fe21738c19"), looks := true }, kinds := [], alts := [], laidByText := true, laidKinds := [.handle], laidTests := true, laidLooks := .later }
def HtbCeilsCardSaid : Prop := Claim7.holds Tryd.pinned (.plain (OpenSpec.ofChange htbCeilsSpec)) htbCeilsCard

/-- THE TIED CARD OF 'millracekeep.HtbOwn'. -/
def htbOwnCard : Claim7 := { stood := { row := htbOwnRow, standIns := [], harness := (true, "5c3538aa09b5c5d375e7398fe5d0fa8dbe298aa3a7330d6d1ada04fe21738c19"), looks := true }, kinds := [], alts := [], laidByText := true, laidKinds := [.handle], laidTests := true, laidLooks := .later }
def HtbOwnCardSaid : Prop := Claim7.holds Tryd.pinned (.plain (OpenSpec.ofChange htbOwnSpec)) htbOwnCard

/-- THE SECOND FORM's CARD OF 'millracekeep.HtbCeils'. -/
def htbCeilsUptoCard : Claim7 := { stood := { row := htbCeilsUptoRow, standIns := [], harness := (true, "5c3538aa09b5c5d375e7398fe5d0fa8dbe298aa3a7330d6d1ada04fe21738c19"), looks := true }, kinds := [], alts := [], laidByText := true, laidKinds := [.handle], laidTests := true, laidLooks := .later }
def HtbCeilsUptoCardSaid : Prop := Claim7.holds Tryd.pinned (.plain (OpenSpec.upto htbCeilsSpec)) htbCeilsUptoCard

/-- THE SECOND FORM's CARD OF 'millracekeep.HtbOwn'. -/
def htbOwnUptoCard : Claim7 := { stood := { row := htbOwnUptoRow, standIns := [], harness := (true, "5c3538aa09b5c5d375e7398fe5d0fa8dbe298aa3a7330d6d1ada04fe21738c19"), looks := true }, kinds := [], alts := [], laidByText := true, laidKinds := [.handle], laidTests := true, laidLooks := .later }
def HtbOwnUptoCardSaid : Prop := Claim7.holds Tryd.pinned (.plain (OpenSpec.upto htbOwnSpec)) htbOwnUptoCard
end Rows
end Go.Proofs.YtpgdocmpbeabpaaDoor
