/-
  No cell of these rows narrows 'for every input' (looked for: loops, veiled, ifaces, maps, wideKeys, modest, calm, conditions, laid).
  DERIVED. THE GIVEN ROWS OF THIS SEAT. 2 by the template 'for every input the law returns true; each argument reads behind the call as it read before'; 0 by the template 'total and deterministic' (their statements: YtakggmhjfghfkaaTotals.lean).
  GIVEN WITH THE SEED: the statements are not yours to turn. If you find one false, say at which input.
  Laid BY PROGRAM, IN A SANDBOX (cutbox-rows.mjs): the forced cells as the released guide's own fill.sh prints them over the translation 3537b15e8e2e1086… (all of the seat's roots in one cut). By AI agents, Wed Nov 11 2026. No macro, syntax, notation, axiom, sorry.
-/
import Derived.Test.YtakggmhjfghfkaaChecked
import GoSem.Claim
import GoSem.ClaimJoined
import GoSem.ClaimMapViews
import Derived.JoinedTies
import Derived.KernelRfl
namespace Go.Proofs.Ytakggmhjfghfkaa
/- THE CELL 'sum', in the pinned program and in every row, IS THE sha256 OF THE DUMP (.gsa) THAT YtakggmhjfghfkaaProg.lean LOADS. Nothing in Lean hashes anything: it is a label: what it is worth is what the hold of that sum in a sandbox is worth. -/
noncomputable def Try.pinned : Pinned := { name := "ytakggmhjfghfkaa", sum := "3537b15e8e2e1086a8960243ad9dd1a8e686a94687f719c3f78000d20828320b", checked := Try.checked }
namespace Rows
def none {H : Type} : Left H := { results := [], args := [] }

/-- 'millracekeep.ScedMeets': WHATEVER THE INPUT: true; the input reads as it did. -/
def scedMeetsSpec : ChangeSpec := { name := "scedMeets", fn := fun _ => fun
  | [d1, d2] => { results := [.lit (.bool true)], args := [d1, d2] }
  | _ => none }
def scedMeetsRow : OpenClaim := { program := "ytakggmhjfghfkaa", sum := "3537b15e8e2e1086a8960243ad9dd1a8e686a94687f719c3f78000d20828320b", func := "millrace/millracekeep.ScedMeets", spec := "scedMeets", unfollowed := true, recurses := true, apart := false }
def ScedMeetsSaid : Prop := scedMeetsRow.holds Try.pinned (OpenSpec.ofChange scedMeetsSpec)

/-- ITS FALSE NEIGHBOUR: 'it returns false'. Refute it at one input. -/
def scedMeetsWrong : ChangeSpec := { name := "scedMeets", fn := fun _ => fun
  | [d1, d2] => { results := [.lit (.bool false)], args := [d1, d2] }
  | _ => none }
def ScedMeetsWrongFalsely : Prop := scedMeetsRow.holds Try.pinned (OpenSpec.ofChange scedMeetsWrong)

/-- 'millracekeep.ScedServes': WHATEVER THE INPUT: true; the input reads as it did. -/
def scedServesSpec : ChangeSpec := { name := "scedServes", fn := fun _ => fun
  | [d1, d2] => { results := [.lit (.bool true)], args := [d1, d2] }
  | _ => none }
def scedServesRow : OpenClaim := { program := "ytakggmhjfghfkaa", sum := "3537b15e8e2e1086a8960243ad9dd1a8e686a94687f719c3f78000d20828320b", func := "millrace/millracekeep.ScedServes", spec := "scedServes", unfollowed := true, recurses := true, apart := false }
def ScedServesSaid : Prop := scedServesRow.holds Try.pinned (OpenSpec.ofChange scedServesSpec)

/-- ITS FALSE NEIGHBOUR: 'it returns false'. Refute it at one input. -/
def scedServesWrong : ChangeSpec := { name := "scedServes", fn := fun _ => fun
  | [d1, d2] => { results := [.lit (.bool false)], args := [d1, d2] }
  | _ => none }
def ScedServesWrongFalsely : Prop := scedServesRow.holds Try.pinned (OpenSpec.ofChange scedServesWrong)

/- THE SECOND FORM. 'bulk': how many values and letters a reading holds, each counted each time it is reached (what is shared counts as often as it is met; a slice's spare places count too). A statement '..UptoSaid' is the law's where the arguments, and the package variables that the reading takes, are together of bulk at most 1048576: NARROWER than '..Said'. Prove '..Said' where nothing that the law and all that it calls make is longer than what came in: it says more and counts as full. Else prove '..UptoSaid'. A law counts once. -/
mutual
def uptoBulk {H : Type} : DataW H → Nat
  | .lit (.string bytes) => bytes.length + 1
  | .lit _ => 1
  | .nil => 1
  | .ptr d => uptoBulk d + 1
  | .slice elems spare => uptoBulkAll elems + uptoBulkAll spare + 1
  | .agg parts => uptoBulkAll parts + 1
  | .iface _ d => uptoBulk d + 1
  | .map entries => uptoBulkEntries entries + 1
  | .held _ => 1
def uptoBulkAll {H : Type} : List (DataW H) → Nat
  | [] => 0
  | d :: r => uptoBulk d + uptoBulkAll r
def uptoBulkEntries {H : Type} : List (Lit × DataW H) → Nat
  | [] => 0
  | x :: r => uptoBulkEntry x + uptoBulkEntries r
def uptoBulkEntry {H : Type} : Lit × DataW H → Nat
  | (.string bytes, d) => bytes.length + uptoBulk d + 1
  | (_, d) => uptoBulk d + 1
 end
def uptoSmall : (H : Type) → List (DataW H) → Bool := fun _ ds => decide (uptoBulkAll ds ≤ 1048576)
def OpenSpec.upto (s : _root_.Go.ChangeSpec) : _root_.Go.OpenSpec := { _root_.Go.OpenSpec.ofChange s with cond := some uptoSmall }

/-- 'millracekeep.ScedMeets', WHERE WHAT IT READS IS OF BULK AT MOST 1048576: true; the input reads as it did. -/
def scedMeetsUptoRow : OpenClaim := { program := "ytakggmhjfghfkaa", sum := "3537b15e8e2e1086a8960243ad9dd1a8e686a94687f719c3f78000d20828320b", func := "millrace/millracekeep.ScedMeets", spec := "scedMeets", unfollowed := true, recurses := true, apart := false, narrowed := true }
def ScedMeetsUptoSaid : Prop := scedMeetsUptoRow.holds Try.pinned (OpenSpec.upto scedMeetsSpec)

/-- 'millracekeep.ScedServes', WHERE WHAT IT READS IS OF BULK AT MOST 1048576: true; the input reads as it did. -/
def scedServesUptoRow : OpenClaim := { program := "ytakggmhjfghfkaa", sum := "3537b15e8e2e1086a8960243ad9dd1a8e686a94687f719c3f78000d20828320b", func := "millrace/millracekeep.ScedServes", spec := "scedServes", unfollowed := true, recurses := true, apart := false, narrowed := true }
def ScedServesUptoSaid : Prop := scedServesUptoRow.holds Try.pinned (OpenSpec.upto scedServesSpec)

end Rows
end Go.Proofs.Ytakggmhjfghfkaa
