/-
  DERIVED. GIVEN WITH THE SEED: THE CARDS: each row of YtcdcplocpdmjaaaDoorRows.lean that lists a variable, with what it lists TIED to the program's text (the seventh form; the later family's looks); each row that meets fmt, with fmt's text TOLD by the authors' own Lean function (tested against real Go, not proved from fmt's source: count such statements apart). THE CARD IS WHAT COUNTS. Prove the row's statement (the work); the ties are given (YtcdcplocpdmjaaaDoorTie.lean); close each card by the builder's one call (the guide's Derived/Test/ToyasCard.lean, 'card_holds'). Laid BY PROGRAM, IN A SANDBOX (cutbox-door.mjs). By AI agents, Wed Nov 11 2026. No macro, syntax, notation, axiom, sorry.
-/
import Derived.Test.YtcdcplocpdmjaaaDoorRows
import GoSem.ClaimSeven
namespace Go.Proofs.YtcdcplocpdmjaaaDoor
namespace Rows

/-- THE TIED CARD OF 'millracelaw.ItemParses'. -/
def itemParsesCard : Claim7 := { stood := { row := itemParsesRow, standIns := [], harness := (true, "071bf6ceead6e28560639a51351fc8ed177aabaf067c5fa4587dffcff1b3efef"), looks := true }, kinds := [], alts := [], laidByText := true, laidKinds := [.data, .data, .data, .data, .handle, .sentinel, .sentinel, .data, .pinned], laidTests := true, laidLooks := .later }
def ItemParsesCardSaid : Prop := Claim7.holds Tryd.pinned (.plain (OpenSpec.ofChange itemParsesSpec)) itemParsesCard

/-- THE TIED CARD OF 'millracekeep.ItemBack'. -/
def itemBackCard : Claim7 := { stood := { row := itemBackRow, standIns := [], harness := (true, "071bf6ceead6e28560639a51351fc8ed177aabaf067c5fa4587dffcff1b3efef"), looks := true }, kinds := [], alts := [], laidByText := true, laidKinds := [.data, .data, .data, .data, .handle, .sentinel, .sentinel, .pinned], laidTests := true, laidLooks := .later }
def ItemBackCardSaid : Prop := Claim7.holds Tryd.pinned (.plain (OpenSpec.ofChange itemBackSpec)) itemBackCard

/-- THE SECOND FORM's CARD OF 'millracelaw.ItemParses'. -/
def itemParsesUptoCard : Claim7 := { stood := { row := itemParsesUptoRow, standIns := [], harness := (true, "071bf6ceead6e28560639a51351fc8ed177aabaf067c5fa4587dffcff1b3efef"), looks := true }, kinds := [], alts := [], laidByText := true, laidKinds := [.data, .data, .data, .data, .handle, .sentinel, .sentinel, .data, .pinned], laidTests := true, laidLooks := .later }
def ItemParsesUptoCardSaid : Prop := Claim7.holds Tryd.pinned (.plain (OpenSpec.upto itemParsesSpec)) itemParsesUptoCard

/-- THE SECOND FORM's CARD OF 'millracekeep.ItemBack'. -/
def itemBackUptoCard : Claim7 := { stood := { row := itemBackUptoRow, standIns := [], harness := (true, "071bf6ceead6e28560639a51351fc8ed177aabaf067c5fa4587dffcff1b3efef"), looks := true }, kinds := [], alts := [], laidByText := true, laidKinds := [.data, .data, .data, .data, .handle, .sentinel, .sentinel, .pinned], laidTests := true, laidLooks := .later }
def ItemBackUptoCardSaid : Prop := Claim7.holds Tryd.pinned (.plain (OpenSpec.upto itemBackSpec)) itemBackUptoCard
end Rows
end Go.Proofs.YtcdcplocpdmjaaaDoor
