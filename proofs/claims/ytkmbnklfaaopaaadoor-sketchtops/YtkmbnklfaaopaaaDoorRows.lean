/-
  NARROWER THAN 'FOR EVERY INPUT', by the rows' own cells (each row's printed sentence says how): SketchTops: laid · SketchGrids: laid · SketchRates: laid.
  DERIVED. THE GIVEN ROWS OF THIS SEAT. 3 by the template 'for every input the law returns true; each argument reads behind the call as it read before'; 0 by the template 'total and deterministic' (their statements: YtkmbnklfaaopaaaDoorTotals.lean).
  GIVEN WITH THE SEED: the statements are not yours to turn. If you find one false, say at which input.
  Laid BY PROGRAM, IN A SANDBOX (cutbox-rows.mjs): the forced cells as the released guide's own fill.sh prints them over the translation b2cb4c7b53ebc906… (all of the seat's roots in one cut). By AI agents, Wed Nov 11 2026. No macro, syntax, notation, axiom, sorry.
-/
import Derived.Test.YtkmbnklfaaopaaaDoorChecked
import GoSem.Claim
import GoSem.ClaimJoined
import GoSem.ClaimMapViews
import Derived.JoinedTies
import Derived.KernelRfl
namespace Go.Proofs.YtkmbnklfaaopaaaDoor
/- THE CELL 'sum', in the pinned program and in every row, IS THE sha256 OF THE DUMP (.gsa) THAT YtkmbnklfaaopaaaDoorProg.lean LOADS. Nothing in Lean hashes anything: it is a label: what it is worth is what the hold of that sum in a sandbox is worth. -/
noncomputable def Tryd.pinned : Pinned := { name := "ytkmbnklfaaopaaadoor", sum := "b2cb4c7b53ebc9066d5ee5eba36a59f7464c596ac860a01ca988e81c1afd762d", checked := Tryd.checked }
namespace Rows
def none {H : Type} : Left H := { results := [], args := [] }

/- WHAT THE LISTED PACKAGE-LEVEL VARIABLES READ AS WHEN THE CALL BEGINS. Each datum BY PROGRAM (the guide's laid-datum.mjs) off the statement by which the dump's own 'gosem.cut.vars' lays the variable. In a bare row this is a premise. The card (YtkmbnklfaaopaaaDoorCards.lean) ties it to the program's text. -/
def laid_errors_errorType {H : Type} : DataW H := .iface "internal/reflectlite.rtype" (.agg [.ptr (.lit (.string [101, 114, 114, 111, 114]))])

/-- 'millracelaw.SketchTops': WHATEVER THE INPUT: true; the input reads as it did. -/
def sketchTopsSpec : ChangeSpec := { name := "sketchTops", fn := fun _ => fun
  | [d1, d2] => { results := [.lit (.bool true)], args := [d1, d2] }
  | _ => none }
def sketchTopsRow : OpenClaim := { program := "ytkmbnklfaaopaaadoor", sum := "b2cb4c7b53ebc9066d5ee5eba36a59f7464c596ac860a01ca988e81c1afd762d", func := "millrace/millracelaw.SketchTops", spec := "sketchTops", inPlace := ["internal/reflectlite.ValueOf", "(internal/reflectlite.Value).Type", "(internal/reflectlite.Value).IsNil", "internal/reflectlite.TypeOf", "(internal/reflectlite.Value).Elem", "(internal/reflectlite.Value).Set"], unfollowed := true, recurses := true, named := ["errors.errorType"], apart := false, laid := [("errors.errorType", laid_errors_errorType)] }
def SketchTopsSaid : Prop := sketchTopsRow.holds Tryd.pinned (OpenSpec.ofChange sketchTopsSpec)

/-- ITS FALSE NEIGHBOUR: 'it returns false'. Refute it at one input. -/
def sketchTopsWrong : ChangeSpec := { name := "sketchTops", fn := fun _ => fun
  | [d1, d2] => { results := [.lit (.bool false)], args := [d1, d2] }
  | _ => none }
def SketchTopsWrongFalsely : Prop := sketchTopsRow.holds Tryd.pinned (OpenSpec.ofChange sketchTopsWrong)

/-- 'millracelaw.SketchGrids': WHATEVER THE INPUT: true; the input reads as it did. -/
def sketchGridsSpec : ChangeSpec := { name := "sketchGrids", fn := fun _ => fun
  | [d1, d2, d3, d4] => { results := [.lit (.bool true)], args := [d1, d2, d3, d4] }
  | _ => none }
def sketchGridsRow : OpenClaim := { program := "ytkmbnklfaaopaaadoor", sum := "b2cb4c7b53ebc9066d5ee5eba36a59f7464c596ac860a01ca988e81c1afd762d", func := "millrace/millracelaw.SketchGrids", spec := "sketchGrids", inPlace := ["internal/reflectlite.ValueOf", "(internal/reflectlite.Value).Type", "(internal/reflectlite.Value).IsNil", "internal/reflectlite.TypeOf", "(internal/reflectlite.Value).Elem", "(internal/reflectlite.Value).Set"], unfollowed := true, recurses := true, named := ["errors.errorType"], apart := false, laid := [("errors.errorType", laid_errors_errorType)] }
def SketchGridsSaid : Prop := sketchGridsRow.holds Tryd.pinned (OpenSpec.ofChange sketchGridsSpec)

/-- ITS FALSE NEIGHBOUR: 'it returns false'. Refute it at one input. -/
def sketchGridsWrong : ChangeSpec := { name := "sketchGrids", fn := fun _ => fun
  | [d1, d2, d3, d4] => { results := [.lit (.bool false)], args := [d1, d2, d3, d4] }
  | _ => none }
def SketchGridsWrongFalsely : Prop := sketchGridsRow.holds Tryd.pinned (OpenSpec.ofChange sketchGridsWrong)

/-- 'millracelaw.SketchRates': WHATEVER THE INPUT: true; the input reads as it did. -/
def sketchRatesSpec : ChangeSpec := { name := "sketchRates", fn := fun _ => fun
  | [d1, d2] => { results := [.lit (.bool true)], args := [d1, d2] }
  | _ => none }
def sketchRatesRow : OpenClaim := { program := "ytkmbnklfaaopaaadoor", sum := "b2cb4c7b53ebc9066d5ee5eba36a59f7464c596ac860a01ca988e81c1afd762d", func := "millrace/millracelaw.SketchRates", spec := "sketchRates", inPlace := ["internal/reflectlite.ValueOf", "(internal/reflectlite.Value).Type", "(internal/reflectlite.Value).IsNil", "internal/reflectlite.TypeOf", "(internal/reflectlite.Value).Elem", "(internal/reflectlite.Value).Set"], unfollowed := true, recurses := true, named := ["errors.errorType"], apart := false, laid := [("errors.errorType", laid_errors_errorType)] }
def SketchRatesSaid : Prop := sketchRatesRow.holds Tryd.pinned (OpenSpec.ofChange sketchRatesSpec)

/-- ITS FALSE NEIGHBOUR: 'it returns false'. Refute it at one input. -/
def sketchRatesWrong : ChangeSpec := { name := "sketchRates", fn := fun _ => fun
  | [d1, d2] => { results := [.lit (.bool false)], args := [d1, d2] }
  | _ => none }
def SketchRatesWrongFalsely : Prop := sketchRatesRow.holds Tryd.pinned (OpenSpec.ofChange sketchRatesWrong)

/- THE SECOND FORM. 'bulk': how many values and letters a reading holds, each counted each time it is reached (what is shared counts as often as it is met; a slice's spare places count too). A statement '..UptoSaid' is the law's where the arguments, and the package variables that the reading takes, are together of bulk at most 1048576: NARROWER than '..Said'. Prove '..Said' where nothing that the law and all that it calls make is longer than what came in: it says more and counts as full. Else prove '..UptoSaid'. A law counts once. -/
mutual
def uptoBulk {H : Type} : DataW H → Nat
  | .lit (.string bytes) => bytes.length + 1
  | .lit _ => 1
  | .nil => 1
  | .ptr d => uptoBulk d + 1
  | .slice elems spare => uptoBulkAll elems + uptoBulkAll spare + 1
  | .agg parts => uptoBulkAll parts + 1
  | .iface _ d => uptoBulk d + 1
  | .map entries => uptoBulkEntries entries + 1
  | .held _ => 1
def uptoBulkAll {H : Type} : List (DataW H) → Nat
  | [] => 0
  | d :: r => uptoBulk d + uptoBulkAll r
def uptoBulkEntries {H : Type} : List (Lit × DataW H) → Nat
  | [] => 0
  | x :: r => uptoBulkEntry x + uptoBulkEntries r
def uptoBulkEntry {H : Type} : Lit × DataW H → Nat
  | (.string bytes, d) => bytes.length + uptoBulk d + 1
  | (_, d) => uptoBulk d + 1
 end
def uptoSmall : (H : Type) → List (DataW H) → Bool := fun _ ds => decide (uptoBulkAll ds ≤ 1048576)
def OpenSpec.upto (s : _root_.Go.ChangeSpec) : _root_.Go.OpenSpec := { _root_.Go.OpenSpec.ofChange s with cond := some uptoSmall }

/-- 'millracelaw.SketchTops', WHERE WHAT IT READS IS OF BULK AT MOST 1048576: true; the input reads as it did. -/
def sketchTopsUptoRow : OpenClaim := { program := "ytkmbnklfaaopaaadoor", sum := "b2cb4c7b53ebc9066d5ee5eba36a59f7464c596ac860a01ca988e81c1afd762d", func := "millrace/millracelaw.SketchTops", spec := "sketchTops", inPlace := ["internal/reflectlite.ValueOf", "(internal/reflectlite.Value).Type", "(internal/reflectlite.Value).IsNil", "internal/reflectlite.TypeOf", "(internal/reflectlite.Value).Elem", "(internal/reflectlite.Value).Set"], unfollowed := true, recurses := true, named := ["errors.errorType"], apart := false, laid := [("errors.errorType", laid_errors_errorType)], narrowed := true }
def SketchTopsUptoSaid : Prop := sketchTopsUptoRow.holds Tryd.pinned (OpenSpec.upto sketchTopsSpec)

/-- 'millracelaw.SketchGrids', WHERE WHAT IT READS IS OF BULK AT MOST 1048576: true; the input reads as it did. -/
def sketchGridsUptoRow : OpenClaim := { program := "ytkmbnklfaaopaaadoor", sum := "b2cb4c7b53ebc9066d5ee5eba36a59f7464c596ac860a01ca988e81c1afd762d", func := "millrace/millracelaw.SketchGrids", spec := "sketchGrids", inPlace := ["internal/reflectlite.ValueOf", "(internal/reflectlite.Value).Type", "(internal/reflectlite.Value).IsNil", "internal/reflectlite.TypeOf", "(internal/reflectlite.Value).Elem", "(internal/reflectlite.Value).Set"], unfollowed := true, recurses := true, named := ["errors.errorType"], apart := false, laid := [("errors.errorType", laid_errors_errorType)], narrowed := true }
def SketchGridsUptoSaid : Prop := sketchGridsUptoRow.holds Tryd.pinned (OpenSpec.upto sketchGridsSpec)

/-- 'millracelaw.SketchRates', WHERE WHAT IT READS IS OF BULK AT MOST 1048576: true; the input reads as it did. -/
def sketchRatesUptoRow : OpenClaim := { program := "ytkmbnklfaaopaaadoor", sum := "b2cb4c7b53ebc9066d5ee5eba36a59f7464c596ac860a01ca988e81c1afd762d", func := "millrace/millracelaw.SketchRates", spec := "sketchRates", inPlace := ["internal/reflectlite.ValueOf", "(internal/reflectlite.Value).Type", "(internal/reflectlite.Value).IsNil", "internal/reflectlite.TypeOf", "(internal/reflectlite.Value).Elem", "(internal/reflectlite.Value).Set"], unfollowed := true, recurses := true, named := ["errors.errorType"], apart := false, laid := [("errors.errorType", laid_errors_errorType)], narrowed := true }
def SketchRatesUptoSaid : Prop := sketchRatesUptoRow.holds Tryd.pinned (OpenSpec.upto sketchRatesSpec)

end Rows
end Go.Proofs.YtkmbnklfaaopaaaDoor
