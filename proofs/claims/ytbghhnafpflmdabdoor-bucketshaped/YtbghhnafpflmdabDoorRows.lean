/-
  NARROWER THAN 'FOR EVERY INPUT', by the rows' own cells (each row's printed sentence says how): BucketGcra: laid · BucketBounds: laid · BucketShaped: laid · BucketColors: laid.
  DERIVED. THE GIVEN ROWS OF THIS SEAT. 4 by the template 'for every input the law returns true; each argument reads behind the call as it read before'; 0 by the template 'total and deterministic' (their statements: YtbghhnafpflmdabDoorTotals.lean).
  GIVEN WITH THE SEED: the statements are not yours to turn. If you find one false, say at which input.
  Laid BY PROGRAM, IN A SANDBOX (cutbox-rows.mjs): the forced cells as the released guide's own fill.sh prints them over the translation f7d7b1fe6875360c… (all of the seat's roots in one cut). By AI agents, Wed Nov 11 2026. No macro, syntax, notation, axiom, sorry.
-/
import Derived.Test.YtbghhnafpflmdabDoorChecked
import GoSem.Claim
import GoSem.ClaimJoined
import GoSem.ClaimMapViews
import Derived.JoinedTies
import Derived.KernelRfl
namespace Go.Proofs.YtbghhnafpflmdabDoor
/- THE CELL 'sum', in the pinned program and in every row, IS THE sha256 OF THE DUMP (.gsa) THAT YtbghhnafpflmdabDoorProg.lean LOADS. Nothing in Lean hashes anything: it is a label: what it is worth is what the hold of that sum in a sandbox is worth. -/
noncomputable def Tryd.pinned : Pinned := { name := "ytbghhnafpflmdabdoor", sum := "f7d7b1fe6875360cfac48e84b7fdfb9e92d789369bb3759a02a94e36fc1d4dfe", checked := Tryd.checked }
namespace Rows
def none {H : Type} : Left H := { results := [], args := [] }

/- WHAT THE LISTED PACKAGE-LEVEL VARIABLES READ AS WHEN THE CALL BEGINS. Each datum BY PROGRAM (the guide's laid-datum.mjs) off the statement by which the dump's own 'gosem.cut.vars' lays the variable. In a bare row this is a premise. The card (YtbghhnafpflmdabDoorCards.lean) ties it to the program's text. -/
def laid_errors_errorType {H : Type} : DataW H := .iface "internal/reflectlite.rtype" (.agg [.ptr (.lit (.string [101, 114, 114, 111, 114]))])

/-- 'millracekeep.BucketGcra': WHATEVER THE INPUT: true; the input reads as it did. -/
def bucketGcraSpec : ChangeSpec := { name := "bucketGcra", fn := fun _ => fun
  | [d1, d2] => { results := [.lit (.bool true)], args := [d1, d2] }
  | _ => none }
def bucketGcraRow : OpenClaim := { program := "ytbghhnafpflmdabdoor", sum := "f7d7b1fe6875360cfac48e84b7fdfb9e92d789369bb3759a02a94e36fc1d4dfe", func := "millrace/millracekeep.BucketGcra", spec := "bucketGcra", inPlace := ["internal/reflectlite.ValueOf", "(internal/reflectlite.Value).Type", "(internal/reflectlite.Value).IsNil", "internal/reflectlite.TypeOf", "(internal/reflectlite.Value).Elem", "(internal/reflectlite.Value).Set"], unfollowed := true, recurses := true, named := ["errors.errorType"], apart := false, laid := [("errors.errorType", laid_errors_errorType)] }
def BucketGcraSaid : Prop := bucketGcraRow.holds Tryd.pinned (OpenSpec.ofChange bucketGcraSpec)

/-- ITS FALSE NEIGHBOUR: 'it returns false'. Refute it at one input. -/
def bucketGcraWrong : ChangeSpec := { name := "bucketGcra", fn := fun _ => fun
  | [d1, d2] => { results := [.lit (.bool false)], args := [d1, d2] }
  | _ => none }
def BucketGcraWrongFalsely : Prop := bucketGcraRow.holds Tryd.pinned (OpenSpec.ofChange bucketGcraWrong)

/-- 'millracekeep.BucketBounds': WHATEVER THE INPUT: true; the input reads as it did. -/
def bucketBoundsSpec : ChangeSpec := { name := "bucketBounds", fn := fun _ => fun
  | [d1, d2] => { results := [.lit (.bool true)], args := [d1, d2] }
  | _ => none }
def bucketBoundsRow : OpenClaim := { program := "ytbghhnafpflmdabdoor", sum := "f7d7b1fe6875360cfac48e84b7fdfb9e92d789369bb3759a02a94e36fc1d4dfe", func := "millrace/millracekeep.BucketBounds", spec := "bucketBounds", inPlace := ["internal/reflectlite.ValueOf", "(internal/reflectlite.Value).Type", "(internal/reflectlite.Value).IsNil", "internal/reflectlite.TypeOf", "(internal/reflectlite.Value).Elem", "(internal/reflectlite.Value).Set"], unfollowed := true, recurses := true, named := ["errors.errorType"], apart := false, laid := [("errors.errorType", laid_errors_errorType)] }
def BucketBoundsSaid : Prop := bucketBoundsRow.holds Tryd.pinned (OpenSpec.ofChange bucketBoundsSpec)

/-- ITS FALSE NEIGHBOUR: 'it returns false'. Refute it at one input. -/
def bucketBoundsWrong : ChangeSpec := { name := "bucketBounds", fn := fun _ => fun
  | [d1, d2] => { results := [.lit (.bool false)], args := [d1, d2] }
  | _ => none }
def BucketBoundsWrongFalsely : Prop := bucketBoundsRow.holds Tryd.pinned (OpenSpec.ofChange bucketBoundsWrong)

/-- 'millracekeep.BucketShaped': WHATEVER THE INPUT: true; the input reads as it did. -/
def bucketShapedSpec : ChangeSpec := { name := "bucketShaped", fn := fun _ => fun
  | [d1, d2, d3] => { results := [.lit (.bool true)], args := [d1, d2, d3] }
  | _ => none }
def bucketShapedRow : OpenClaim := { program := "ytbghhnafpflmdabdoor", sum := "f7d7b1fe6875360cfac48e84b7fdfb9e92d789369bb3759a02a94e36fc1d4dfe", func := "millrace/millracekeep.BucketShaped", spec := "bucketShaped", inPlace := ["internal/reflectlite.ValueOf", "(internal/reflectlite.Value).Type", "(internal/reflectlite.Value).IsNil", "internal/reflectlite.TypeOf", "(internal/reflectlite.Value).Elem", "(internal/reflectlite.Value).Set"], unfollowed := true, recurses := true, named := ["errors.errorType"], apart := false, laid := [("errors.errorType", laid_errors_errorType)] }
def BucketShapedSaid : Prop := bucketShapedRow.holds Tryd.pinned (OpenSpec.ofChange bucketShapedSpec)

/-- ITS FALSE NEIGHBOUR: 'it returns false'. Refute it at one input. -/
def bucketShapedWrong : ChangeSpec := { name := "bucketShaped", fn := fun _ => fun
  | [d1, d2, d3] => { results := [.lit (.bool false)], args := [d1, d2, d3] }
  | _ => none }
def BucketShapedWrongFalsely : Prop := bucketShapedRow.holds Tryd.pinned (OpenSpec.ofChange bucketShapedWrong)

/-- 'millracekeep.BucketColors': WHATEVER THE INPUT: true; the input reads as it did. -/
def bucketColorsSpec : ChangeSpec := { name := "bucketColors", fn := fun _ => fun
  | [d1, d2, d3, d4] => { results := [.lit (.bool true)], args := [d1, d2, d3, d4] }
  | _ => none }
def bucketColorsRow : OpenClaim := { program := "ytbghhnafpflmdabdoor", sum := "f7d7b1fe6875360cfac48e84b7fdfb9e92d789369bb3759a02a94e36fc1d4dfe", func := "millrace/millracekeep.BucketColors", spec := "bucketColors", inPlace := ["internal/reflectlite.ValueOf", "(internal/reflectlite.Value).Type", "(internal/reflectlite.Value).IsNil", "internal/reflectlite.TypeOf", "(internal/reflectlite.Value).Elem", "(internal/reflectlite.Value).Set"], unfollowed := true, recurses := true, named := ["errors.errorType"], apart := false, laid := [("errors.errorType", laid_errors_errorType)] }
def BucketColorsSaid : Prop := bucketColorsRow.holds Tryd.pinned (OpenSpec.ofChange bucketColorsSpec)

/-- ITS FALSE NEIGHBOUR: 'it returns false'. Refute it at one input. -/
def bucketColorsWrong : ChangeSpec := { name := "bucketColors", fn := fun _ => fun
  | [d1, d2, d3, d4] => { results := [.lit (.bool false)], args := [d1, d2, d3, d4] }
  | _ => none }
def BucketColorsWrongFalsely : Prop := bucketColorsRow.holds Tryd.pinned (OpenSpec.ofChange bucketColorsWrong)

/- THE SECOND FORM. 'bulk': how many values and letters a reading holds, each counted each time it is reached (what is shared counts as often as it is met; a slice's spare places count too). A statement '..UptoSaid' is the law's where the arguments, and the package variables that the reading takes, are together of bulk at most 1048576: NARROWER than '..Said'. Prove '..Said' where nothing that the law and all that it calls make is longer than what came in: it says more and counts as full. Else prove '..UptoSaid'. A law counts once. -/
mutual
def uptoBulk {H : Type} : DataW H → Nat
  | .lit (.string bytes) => bytes.length + 1
  | .lit _ => 1
  | .nil => 1
  | .ptr d => uptoBulk d + 1
  | .slice elems spare => uptoBulkAll elems + uptoBulkAll spare + 1
  | .agg parts => uptoBulkAll parts + 1
  | .iface _ d => uptoBulk d + 1
  | .map entries => uptoBulkEntries entries + 1
  | .held _ => 1
def uptoBulkAll {H : Type} : List (DataW H) → Nat
  | [] => 0
  | d :: r => uptoBulk d + uptoBulkAll r
def uptoBulkEntries {H : Type} : List (Lit × DataW H) → Nat
  | [] => 0
  | x :: r => uptoBulkEntry x + uptoBulkEntries r
def uptoBulkEntry {H : Type} : Lit × DataW H → Nat
  | (.string bytes, d) => bytes.length + uptoBulk d + 1
  | (_, d) => uptoBulk d + 1
 end
def uptoSmall : (H : Type) → List (DataW H) → Bool := fun _ ds => decide (uptoBulkAll ds ≤ 1048576)
def OpenSpec.upto (s : _root_.Go.ChangeSpec) : _root_.Go.OpenSpec := { _root_.Go.OpenSpec.ofChange s with cond := some uptoSmall }

/-- 'millracekeep.BucketGcra', WHERE WHAT IT READS IS OF BULK AT MOST 1048576: true; the input reads as it did. -/
def bucketGcraUptoRow : OpenClaim := { program := "ytbghhnafpflmdabdoor", sum := "f7d7b1fe6875360cfac48e84b7fdfb9e92d789369bb3759a02a94e36fc1d4dfe", func := "millrace/millracekeep.BucketGcra", spec := "bucketGcra", inPlace := ["internal/reflectlite.ValueOf", "(internal/reflectlite.Value).Type", "(internal/reflectlite.Value).IsNil", "internal/reflectlite.TypeOf", "(internal/reflectlite.Value).Elem", "(internal/reflectlite.Value).Set"], unfollowed := true, recurses := true, named := ["errors.errorType"], apart := false, laid := [("errors.errorType", laid_errors_errorType)], narrowed := true }
def BucketGcraUptoSaid : Prop := bucketGcraUptoRow.holds Tryd.pinned (OpenSpec.upto bucketGcraSpec)

/-- 'millracekeep.BucketBounds', WHERE WHAT IT READS IS OF BULK AT MOST 1048576: true; the input reads as it did. -/
def bucketBoundsUptoRow : OpenClaim := { program := "ytbghhnafpflmdabdoor", sum := "f7d7b1fe6875360cfac48e84b7fdfb9e92d789369bb3759a02a94e36fc1d4dfe", func := "millrace/millracekeep.BucketBounds", spec := "bucketBounds", inPlace := ["internal/reflectlite.ValueOf", "(internal/reflectlite.Value).Type", "(internal/reflectlite.Value).IsNil", "internal/reflectlite.TypeOf", "(internal/reflectlite.Value).Elem", "(internal/reflectlite.Value).Set"], unfollowed := true, recurses := true, named := ["errors.errorType"], apart := false, laid := [("errors.errorType", laid_errors_errorType)], narrowed := true }
def BucketBoundsUptoSaid : Prop := bucketBoundsUptoRow.holds Tryd.pinned (OpenSpec.upto bucketBoundsSpec)

/-- 'millracekeep.BucketShaped', WHERE WHAT IT READS IS OF BULK AT MOST 1048576: true; the input reads as it did. -/
def bucketShapedUptoRow : OpenClaim := { program := "ytbghhnafpflmdabdoor", sum := "f7d7b1fe6875360cfac48e84b7fdfb9e92d789369bb3759a02a94e36fc1d4dfe", func := "millrace/millracekeep.BucketShaped", spec := "bucketShaped", inPlace := ["internal/reflectlite.ValueOf", "(internal/reflectlite.Value).Type", "(internal/reflectlite.Value).IsNil", "internal/reflectlite.TypeOf", "(internal/reflectlite.Value).Elem", "(internal/reflectlite.Value).Set"], unfollowed := true, recurses := true, named := ["errors.errorType"], apart := false, laid := [("errors.errorType", laid_errors_errorType)], narrowed := true }
def BucketShapedUptoSaid : Prop := bucketShapedUptoRow.holds Tryd.pinned (OpenSpec.upto bucketShapedSpec)

/-- 'millracekeep.BucketColors', WHERE WHAT IT READS IS OF BULK AT MOST 1048576: true; the input reads as it did. -/
def bucketColorsUptoRow : OpenClaim := { program := "ytbghhnafpflmdabdoor", sum := "f7d7b1fe6875360cfac48e84b7fdfb9e92d789369bb3759a02a94e36fc1d4dfe", func := "millrace/millracekeep.BucketColors", spec := "bucketColors", inPlace := ["internal/reflectlite.ValueOf", "(internal/reflectlite.Value).Type", "(internal/reflectlite.Value).IsNil", "internal/reflectlite.TypeOf", "(internal/reflectlite.Value).Elem", "(internal/reflectlite.Value).Set"], unfollowed := true, recurses := true, named := ["errors.errorType"], apart := false, laid := [("errors.errorType", laid_errors_errorType)], narrowed := true }
def BucketColorsUptoSaid : Prop := bucketColorsUptoRow.holds Tryd.pinned (OpenSpec.upto bucketColorsSpec)

end Rows
end Go.Proofs.YtbghhnafpflmdabDoor
