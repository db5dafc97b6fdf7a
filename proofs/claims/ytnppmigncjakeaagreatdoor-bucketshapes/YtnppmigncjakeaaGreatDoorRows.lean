/-
  NARROWER THAN 'FOR EVERY INPUT', by the rows' own cells (each row's printed sentence says how): BucketConforms: laid · BucketShapes: laid · BucketOne: laid · BucketTwo: laid.
  DERIVED. THE GIVEN ROWS OF THIS SEAT. 4 by the template 'for every input the law returns true; each argument reads behind the call as it read before'; 0 by the template 'total and deterministic' (their statements: YtnppmigncjakeaaGreatDoorTotals.lean).
  GIVEN WITH THE SEED: the statements are not yours to turn. If you find one false, say at which input.
  Laid BY PROGRAM, IN A SANDBOX (cutbox-rows.mjs): the forced cells as the released guide's own fill.sh prints them over the translation e6cffe330fb9b180… (all of the seat's roots in one cut). By AI agents, Wed Nov 11 2026. No macro, syntax, notation, axiom, sorry.
-/
import Derived.Test.YtnppmigncjakeaaGreatDoorChecked
import GoSem.Claim
import GoSem.ClaimJoined
import GoSem.ClaimMapViews
import Derived.JoinedTies
import Derived.KernelRfl
namespace Go.Proofs.YtnppmigncjakeaaGreatDoor
/- THE CELL 'sum', in the pinned program and in every row, IS THE sha256 OF THE DUMP (.gsa) THAT YtnppmigncjakeaaGreatDoorProg.lean LOADS. Nothing in Lean hashes anything: it is a label: what it is worth is what the hold of that sum in a sandbox is worth. -/
noncomputable def Tryz.pinned : Pinned := { name := "ytnppmigncjakeaagreatdoor", sum := "e6cffe330fb9b1807dfb56b48af20c66c49be91d15a778b9f814e88a1fbe2098", checked := Tryz.checked }
namespace Rows
def none {H : Type} : Left H := { results := [], args := [] }

/- WHAT THE LISTED PACKAGE-LEVEL VARIABLES READ AS WHEN THE CALL BEGINS. Each datum BY PROGRAM (the guide's laid-datum.mjs) off the statement by which the dump's own 'gosem.cut.vars' lays the variable. In a bare row this is a premise. The card (YtnppmigncjakeaaGreatDoorCards.lean) ties it to the program's text. -/
def laid_errors_errorType {H : Type} : DataW H := .iface "internal/reflectlite.rtype" (.agg [.ptr (.lit (.string [101, 114, 114, 111, 114]))])
def laid_millrace_millraceref_Fine {H : Type} : DataW H := .agg [.lit (.int .i64 0), .lit (.int .i64 (-1))]

/-- 'millracelaw.BucketConforms': WHATEVER THE INPUT: true; the input reads as it did. -/
def bucketConformsSpec : ChangeSpec := { name := "bucketConforms", fn := fun _ => fun
  | [d1, d2] => { results := [.lit (.bool true)], args := [d1, d2] }
  | _ => none }
def bucketConformsRow : OpenClaim := { program := "ytnppmigncjakeaagreatdoor", sum := "e6cffe330fb9b1807dfb56b48af20c66c49be91d15a778b9f814e88a1fbe2098", func := "millrace/millracelaw.BucketConforms", spec := "bucketConforms", inPlace := ["internal/reflectlite.ValueOf", "(internal/reflectlite.Value).Type", "(internal/reflectlite.Value).IsNil", "internal/reflectlite.TypeOf", "(internal/reflectlite.Value).Elem", "(internal/reflectlite.Value).Set"], unfollowed := true, recurses := true, named := ["millrace/millraceref.Fine", "errors.errorType"], apart := false, laid := [("errors.errorType", laid_errors_errorType), ("millrace/millraceref.Fine", laid_millrace_millraceref_Fine)] }
def BucketConformsSaid : Prop := bucketConformsRow.holds Tryz.pinned (OpenSpec.ofChange bucketConformsSpec)

/-- ITS FALSE NEIGHBOUR: 'it returns false'. Refute it at one input. -/
def bucketConformsWrong : ChangeSpec := { name := "bucketConforms", fn := fun _ => fun
  | [d1, d2] => { results := [.lit (.bool false)], args := [d1, d2] }
  | _ => none }
def BucketConformsWrongFalsely : Prop := bucketConformsRow.holds Tryz.pinned (OpenSpec.ofChange bucketConformsWrong)

/-- 'millracelaw.BucketShapes': WHATEVER THE INPUT: true; the input reads as it did. -/
def bucketShapesSpec : ChangeSpec := { name := "bucketShapes", fn := fun _ => fun
  | [d1, d2] => { results := [.lit (.bool true)], args := [d1, d2] }
  | _ => none }
def bucketShapesRow : OpenClaim := { program := "ytnppmigncjakeaagreatdoor", sum := "e6cffe330fb9b1807dfb56b48af20c66c49be91d15a778b9f814e88a1fbe2098", func := "millrace/millracelaw.BucketShapes", spec := "bucketShapes", inPlace := ["internal/reflectlite.ValueOf", "(internal/reflectlite.Value).Type", "(internal/reflectlite.Value).IsNil", "internal/reflectlite.TypeOf", "(internal/reflectlite.Value).Elem", "(internal/reflectlite.Value).Set"], unfollowed := true, recurses := true, named := ["millrace/millraceref.Fine", "errors.errorType"], apart := false, laid := [("errors.errorType", laid_errors_errorType), ("millrace/millraceref.Fine", laid_millrace_millraceref_Fine)] }
def BucketShapesSaid : Prop := bucketShapesRow.holds Tryz.pinned (OpenSpec.ofChange bucketShapesSpec)

/-- ITS FALSE NEIGHBOUR: 'it returns false'. Refute it at one input. -/
def bucketShapesWrong : ChangeSpec := { name := "bucketShapes", fn := fun _ => fun
  | [d1, d2] => { results := [.lit (.bool false)], args := [d1, d2] }
  | _ => none }
def BucketShapesWrongFalsely : Prop := bucketShapesRow.holds Tryz.pinned (OpenSpec.ofChange bucketShapesWrong)

/-- 'millracelaw.BucketOne': WHATEVER THE INPUT: true; the input reads as it did. -/
def bucketOneSpec : ChangeSpec := { name := "bucketOne", fn := fun _ => fun
  | [d1, d2, d3] => { results := [.lit (.bool true)], args := [d1, d2, d3] }
  | _ => none }
def bucketOneRow : OpenClaim := { program := "ytnppmigncjakeaagreatdoor", sum := "e6cffe330fb9b1807dfb56b48af20c66c49be91d15a778b9f814e88a1fbe2098", func := "millrace/millracelaw.BucketOne", spec := "bucketOne", inPlace := ["internal/reflectlite.ValueOf", "(internal/reflectlite.Value).Type", "(internal/reflectlite.Value).IsNil", "internal/reflectlite.TypeOf", "(internal/reflectlite.Value).Elem", "(internal/reflectlite.Value).Set"], unfollowed := true, recurses := true, named := ["millrace/millraceref.Fine", "errors.errorType"], apart := false, laid := [("errors.errorType", laid_errors_errorType), ("millrace/millraceref.Fine", laid_millrace_millraceref_Fine)] }
def BucketOneSaid : Prop := bucketOneRow.holds Tryz.pinned (OpenSpec.ofChange bucketOneSpec)

/-- ITS FALSE NEIGHBOUR: 'it returns false'. Refute it at one input. -/
def bucketOneWrong : ChangeSpec := { name := "bucketOne", fn := fun _ => fun
  | [d1, d2, d3] => { results := [.lit (.bool false)], args := [d1, d2, d3] }
  | _ => none }
def BucketOneWrongFalsely : Prop := bucketOneRow.holds Tryz.pinned (OpenSpec.ofChange bucketOneWrong)

/-- 'millracelaw.BucketTwo': WHATEVER THE INPUT: true; the input reads as it did. -/
def bucketTwoSpec : ChangeSpec := { name := "bucketTwo", fn := fun _ => fun
  | [d1, d2, d3] => { results := [.lit (.bool true)], args := [d1, d2, d3] }
  | _ => none }
def bucketTwoRow : OpenClaim := { program := "ytnppmigncjakeaagreatdoor", sum := "e6cffe330fb9b1807dfb56b48af20c66c49be91d15a778b9f814e88a1fbe2098", func := "millrace/millracelaw.BucketTwo", spec := "bucketTwo", inPlace := ["internal/reflectlite.ValueOf", "(internal/reflectlite.Value).Type", "(internal/reflectlite.Value).IsNil", "internal/reflectlite.TypeOf", "(internal/reflectlite.Value).Elem", "(internal/reflectlite.Value).Set"], unfollowed := true, recurses := true, named := ["millrace/millraceref.Fine", "errors.errorType"], apart := false, laid := [("errors.errorType", laid_errors_errorType), ("millrace/millraceref.Fine", laid_millrace_millraceref_Fine)] }
def BucketTwoSaid : Prop := bucketTwoRow.holds Tryz.pinned (OpenSpec.ofChange bucketTwoSpec)

/-- ITS FALSE NEIGHBOUR: 'it returns false'. Refute it at one input. -/
def bucketTwoWrong : ChangeSpec := { name := "bucketTwo", fn := fun _ => fun
  | [d1, d2, d3] => { results := [.lit (.bool false)], args := [d1, d2, d3] }
  | _ => none }
def BucketTwoWrongFalsely : Prop := bucketTwoRow.holds Tryz.pinned (OpenSpec.ofChange bucketTwoWrong)

/- THE SECOND FORM. 'bulk': how many values and letters a reading holds, each counted each time it is reached (what is shared counts as often as it is met; a slice's spare places count too). A statement '..UptoSaid' is the law's where the arguments, and the package variables that the reading takes, are together of bulk at most 1048576: NARROWER than '..Said'. Prove '..Said' where nothing that the law and all that it calls make is longer than what came in: it says more and counts as full. Else prove '..UptoSaid'. A law counts once. -/
mutual
def uptoBulk {H : Type} : DataW H → Nat
  | .lit (.string bytes) => bytes.length + 1
  | .lit _ => 1
  | .nil => 1
  | .ptr d => uptoBulk d + 1
  | .slice elems spare => uptoBulkAll elems + uptoBulkAll spare + 1
  | .agg parts => uptoBulkAll parts + 1
  | .iface _ d => uptoBulk d + 1
  | .map entries => uptoBulkEntries entries + 1
  | .held _ => 1
def uptoBulkAll {H : Type} : List (DataW H) → Nat
  | [] => 0
  | d :: r => uptoBulk d + uptoBulkAll r
def uptoBulkEntries {H : Type} : List (Lit × DataW H) → Nat
  | [] => 0
  | x :: r => uptoBulkEntry x + uptoBulkEntries r
def uptoBulkEntry {H : Type} : Lit × DataW H → Nat
  | (.string bytes, d) => bytes.length + uptoBulk d + 1
  | (_, d) => uptoBulk d + 1
 end
def uptoSmall : (H : Type) → List (DataW H) → Bool := fun _ ds => decide (uptoBulkAll ds ≤ 1048576)
def OpenSpec.upto (s : _root_.Go.ChangeSpec) : _root_.Go.OpenSpec := { _root_.Go.OpenSpec.ofChange s with cond := some uptoSmall }

/-- 'millracelaw.BucketConforms', WHERE WHAT IT READS IS OF BULK AT MOST 1048576: true; the input reads as it did. -/
def bucketConformsUptoRow : OpenClaim := { program := "ytnppmigncjakeaagreatdoor", sum := "e6cffe330fb9b1807dfb56b48af20c66c49be91d15a778b9f814e88a1fbe2098", func := "millrace/millracelaw.BucketConforms", spec := "bucketConforms", inPlace := ["internal/reflectlite.ValueOf", "(internal/reflectlite.Value).Type", "(internal/reflectlite.Value).IsNil", "internal/reflectlite.TypeOf", "(internal/reflectlite.Value).Elem", "(internal/reflectlite.Value).Set"], unfollowed := true, recurses := true, named := ["millrace/millraceref.Fine", "errors.errorType"], apart := false, laid := [("errors.errorType", laid_errors_errorType), ("millrace/millraceref.Fine", laid_millrace_millraceref_Fine)], narrowed := true }
def BucketConformsUptoSaid : Prop := bucketConformsUptoRow.holds Tryz.pinned (OpenSpec.upto bucketConformsSpec)

/-- 'millracelaw.BucketShapes', WHERE WHAT IT READS IS OF BULK AT MOST 1048576: true; the input reads as it did. -/
def bucketShapesUptoRow : OpenClaim := { program := "ytnppmigncjakeaagreatdoor", sum := "e6cffe330fb9b1807dfb56b48af20c66c49be91d15a778b9f814e88a1fbe2098", func := "millrace/millracelaw.BucketShapes", spec := "bucketShapes", inPlace := ["internal/reflectlite.ValueOf", "(internal/reflectlite.Value).Type", "(internal/reflectlite.Value).IsNil", "internal/reflectlite.TypeOf", "(internal/reflectlite.Value).Elem", "(internal/reflectlite.Value).Set"], unfollowed := true, recurses := true, named := ["millrace/millraceref.Fine", "errors.errorType"], apart := false, laid := [("errors.errorType", laid_errors_errorType), ("millrace/millraceref.Fine", laid_millrace_millraceref_Fine)], narrowed := true }
def BucketShapesUptoSaid : Prop := bucketShapesUptoRow.holds Tryz.pinned (OpenSpec.upto bucketShapesSpec)

/-- 'millracelaw.BucketOne', WHERE WHAT IT READS IS OF BULK AT MOST 1048576: true; the input reads as it did. -/
def bucketOneUptoRow : OpenClaim := { program := "ytnppmigncjakeaagreatdoor", sum := "e6cffe330fb9b1807dfb56b48af20c66c49be91d15a778b9f814e88a1fbe2098", func := "millrace/millracelaw.BucketOne", spec := "bucketOne", inPlace := ["internal/reflectlite.ValueOf", "(internal/reflectlite.Value).Type", "(internal/reflectlite.Value).IsNil", "internal/reflectlite.TypeOf", "(internal/reflectlite.Value).Elem", "(internal/reflectlite.Value).Set"], unfollowed := true, recurses := true, named := ["millrace/millraceref.Fine", "errors.errorType"], apart := false, laid := [("errors.errorType", laid_errors_errorType), ("millrace/millraceref.Fine", laid_millrace_millraceref_Fine)], narrowed := true }
def BucketOneUptoSaid : Prop := bucketOneUptoRow.holds Tryz.pinned (OpenSpec.upto bucketOneSpec)

/-- 'millracelaw.BucketTwo', WHERE WHAT IT READS IS OF BULK AT MOST 1048576: true; the input reads as it did. -/
def bucketTwoUptoRow : OpenClaim := { program := "ytnppmigncjakeaagreatdoor", sum := "e6cffe330fb9b1807dfb56b48af20c66c49be91d15a778b9f814e88a1fbe2098", func := "millrace/millracelaw.BucketTwo", spec := "bucketTwo", inPlace := ["internal/reflectlite.ValueOf", "(internal/reflectlite.Value).Type", "(internal/reflectlite.Value).IsNil", "internal/reflectlite.TypeOf", "(internal/reflectlite.Value).Elem", "(internal/reflectlite.Value).Set"], unfollowed := true, recurses := true, named := ["millrace/millraceref.Fine", "errors.errorType"], apart := false, laid := [("errors.errorType", laid_errors_errorType), ("millrace/millraceref.Fine", laid_millrace_millraceref_Fine)], narrowed := true }
def BucketTwoUptoSaid : Prop := bucketTwoUptoRow.holds Tryz.pinned (OpenSpec.upto bucketTwoSpec)

end Rows
end Go.Proofs.YtnppmigncjakeaaGreatDoor
