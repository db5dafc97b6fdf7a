/-
  NARROWER THAN 'FOR EVERY INPUT', by the rows' own cells (each row's printed sentence says how): CurveChecks: laid · CurveThen: laid · CurveLeast: laid · CurveBehind: laid · CurveBounds: laid · CurveServes: laid · CurveFits: laid.
  DERIVED. THE GIVEN ROWS OF THIS SEAT. 7 by the template 'for every input the law returns true; each argument reads behind the call as it read before'; 0 by the template 'total and deterministic' (their statements: YtdapgjkjkiighaaDoorTotals.lean).
  GIVEN WITH THE SEED: the statements are not yours to turn. If you find one false, say at which input.
  Laid BY PROGRAM, IN A SANDBOX (cutbox-rows.mjs): the forced cells as the released guide's own fill.sh prints them over the translation 1fbc16cba1344429… (all of the seat's roots in one cut). By AI agents, Wed Nov 11 2026. No macro, syntax, notation, axiom, sorry.
-/
import Derived.Test.YtdapgjkjkiighaaDoorChecked
import GoSem.Claim
import GoSem.ClaimJoined
import GoSem.ClaimMapViews
import Derived.JoinedTies
import Derived.KernelRfl
namespace Go.Proofs.YtdapgjkjkiighaaDoor
/- THE CELL 'sum', in the pinned program and in every row, IS THE sha256 OF THE DUMP (.gsa) THAT YtdapgjkjkiighaaDoorProg.lean LOADS. Nothing in Lean hashes anything: it is a label: what it is worth is what the hold of that sum in a sandbox is worth. -/
noncomputable def Tryd.pinned : Pinned := { name := "ytdapgjkjkiighaadoor", sum := "1fbc16cba13444291181df4045a1b0e04b4917657b6c9248ad8a956614ae45a6", checked := Tryd.checked }
namespace Rows
def none {H : Type} : Left H := { results := [], args := [] }

/- WHAT THE LISTED PACKAGE-LEVEL VARIABLES READ AS WHEN THE CALL BEGINS. Each datum BY PROGRAM (the guide's laid-datum.mjs) off the statement by which the dump's own 'gosem.cut.vars' lays the variable. In a bare row this is a premise. The card (YtdapgjkjkiighaaDoorCards.lean) ties it to the program's text. -/
def laid_errors_errorType {H : Type} : DataW H := .iface "internal/reflectlite.rtype" (.agg [.ptr (.lit (.string [101, 114, 114, 111, 114]))])

/-- 'millracelaw.CurveChecks': WHATEVER THE INPUT: true; the input reads as it did. -/
def curveChecksSpec : ChangeSpec := { name := "curveChecks", fn := fun _ => fun
  | [d] => { results := [.lit (.bool true)], args := [d] }
  | _ => none }
def curveChecksRow : OpenClaim := { program := "ytdapgjkjkiighaadoor", sum := "1fbc16cba13444291181df4045a1b0e04b4917657b6c9248ad8a956614ae45a6", func := "millrace/millracelaw.CurveChecks", spec := "curveChecks", inPlace := ["internal/reflectlite.ValueOf", "(internal/reflectlite.Value).Type", "(internal/reflectlite.Value).IsNil", "internal/reflectlite.TypeOf", "(internal/reflectlite.Value).Elem", "(internal/reflectlite.Value).Set"], unfollowed := true, recurses := true, named := ["errors.errorType"], apart := false, laid := [("errors.errorType", laid_errors_errorType)] }
def CurveChecksSaid : Prop := curveChecksRow.holds Tryd.pinned (OpenSpec.ofChange curveChecksSpec)

/-- ITS FALSE NEIGHBOUR: 'it returns false'. Refute it at one input. -/
def curveChecksWrong : ChangeSpec := { name := "curveChecks", fn := fun _ => fun
  | [d] => { results := [.lit (.bool false)], args := [d] }
  | _ => none }
def CurveChecksWrongFalsely : Prop := curveChecksRow.holds Tryd.pinned (OpenSpec.ofChange curveChecksWrong)

/-- 'millracelaw.CurveThen': WHATEVER THE INPUT: true; the input reads as it did. -/
def curveThenSpec : ChangeSpec := { name := "curveThen", fn := fun _ => fun
  | [d1, d2] => { results := [.lit (.bool true)], args := [d1, d2] }
  | _ => none }
def curveThenRow : OpenClaim := { program := "ytdapgjkjkiighaadoor", sum := "1fbc16cba13444291181df4045a1b0e04b4917657b6c9248ad8a956614ae45a6", func := "millrace/millracelaw.CurveThen", spec := "curveThen", inPlace := ["internal/reflectlite.ValueOf", "(internal/reflectlite.Value).Type", "(internal/reflectlite.Value).IsNil", "internal/reflectlite.TypeOf", "(internal/reflectlite.Value).Elem", "(internal/reflectlite.Value).Set"], unfollowed := true, recurses := true, named := ["errors.errorType"], apart := false, laid := [("errors.errorType", laid_errors_errorType)] }
def CurveThenSaid : Prop := curveThenRow.holds Tryd.pinned (OpenSpec.ofChange curveThenSpec)

/-- ITS FALSE NEIGHBOUR: 'it returns false'. Refute it at one input. -/
def curveThenWrong : ChangeSpec := { name := "curveThen", fn := fun _ => fun
  | [d1, d2] => { results := [.lit (.bool false)], args := [d1, d2] }
  | _ => none }
def CurveThenWrongFalsely : Prop := curveThenRow.holds Tryd.pinned (OpenSpec.ofChange curveThenWrong)

/-- 'millracelaw.CurveLeast': WHATEVER THE INPUT: true; the input reads as it did. -/
def curveLeastSpec : ChangeSpec := { name := "curveLeast", fn := fun _ => fun
  | [d1, d2] => { results := [.lit (.bool true)], args := [d1, d2] }
  | _ => none }
def curveLeastRow : OpenClaim := { program := "ytdapgjkjkiighaadoor", sum := "1fbc16cba13444291181df4045a1b0e04b4917657b6c9248ad8a956614ae45a6", func := "millrace/millracelaw.CurveLeast", spec := "curveLeast", inPlace := ["internal/reflectlite.ValueOf", "(internal/reflectlite.Value).Type", "(internal/reflectlite.Value).IsNil", "internal/reflectlite.TypeOf", "(internal/reflectlite.Value).Elem", "(internal/reflectlite.Value).Set"], unfollowed := true, recurses := true, named := ["errors.errorType"], apart := false, laid := [("errors.errorType", laid_errors_errorType)] }
def CurveLeastSaid : Prop := curveLeastRow.holds Tryd.pinned (OpenSpec.ofChange curveLeastSpec)

/-- ITS FALSE NEIGHBOUR: 'it returns false'. Refute it at one input. -/
def curveLeastWrong : ChangeSpec := { name := "curveLeast", fn := fun _ => fun
  | [d1, d2] => { results := [.lit (.bool false)], args := [d1, d2] }
  | _ => none }
def CurveLeastWrongFalsely : Prop := curveLeastRow.holds Tryd.pinned (OpenSpec.ofChange curveLeastWrong)

/-- 'millracelaw.CurveBehind': WHATEVER THE INPUT: true; the input reads as it did. -/
def curveBehindSpec : ChangeSpec := { name := "curveBehind", fn := fun _ => fun
  | [d1, d2] => { results := [.lit (.bool true)], args := [d1, d2] }
  | _ => none }
def curveBehindRow : OpenClaim := { program := "ytdapgjkjkiighaadoor", sum := "1fbc16cba13444291181df4045a1b0e04b4917657b6c9248ad8a956614ae45a6", func := "millrace/millracelaw.CurveBehind", spec := "curveBehind", inPlace := ["internal/reflectlite.ValueOf", "(internal/reflectlite.Value).Type", "(internal/reflectlite.Value).IsNil", "internal/reflectlite.TypeOf", "(internal/reflectlite.Value).Elem", "(internal/reflectlite.Value).Set"], unfollowed := true, recurses := true, named := ["errors.errorType"], apart := false, laid := [("errors.errorType", laid_errors_errorType)] }
def CurveBehindSaid : Prop := curveBehindRow.holds Tryd.pinned (OpenSpec.ofChange curveBehindSpec)

/-- ITS FALSE NEIGHBOUR: 'it returns false'. Refute it at one input. -/
def curveBehindWrong : ChangeSpec := { name := "curveBehind", fn := fun _ => fun
  | [d1, d2] => { results := [.lit (.bool false)], args := [d1, d2] }
  | _ => none }
def CurveBehindWrongFalsely : Prop := curveBehindRow.holds Tryd.pinned (OpenSpec.ofChange curveBehindWrong)

/-- 'millracelaw.CurveBounds': WHATEVER THE INPUT: true; the input reads as it did. -/
def curveBoundsSpec : ChangeSpec := { name := "curveBounds", fn := fun _ => fun
  | [d1, d2] => { results := [.lit (.bool true)], args := [d1, d2] }
  | _ => none }
def curveBoundsRow : OpenClaim := { program := "ytdapgjkjkiighaadoor", sum := "1fbc16cba13444291181df4045a1b0e04b4917657b6c9248ad8a956614ae45a6", func := "millrace/millracelaw.CurveBounds", spec := "curveBounds", inPlace := ["internal/reflectlite.ValueOf", "(internal/reflectlite.Value).Type", "(internal/reflectlite.Value).IsNil", "internal/reflectlite.TypeOf", "(internal/reflectlite.Value).Elem", "(internal/reflectlite.Value).Set"], unfollowed := true, recurses := true, named := ["errors.errorType"], apart := false, laid := [("errors.errorType", laid_errors_errorType)] }
def CurveBoundsSaid : Prop := curveBoundsRow.holds Tryd.pinned (OpenSpec.ofChange curveBoundsSpec)

/-- ITS FALSE NEIGHBOUR: 'it returns false'. Refute it at one input. -/
def curveBoundsWrong : ChangeSpec := { name := "curveBounds", fn := fun _ => fun
  | [d1, d2] => { results := [.lit (.bool false)], args := [d1, d2] }
  | _ => none }
def CurveBoundsWrongFalsely : Prop := curveBoundsRow.holds Tryd.pinned (OpenSpec.ofChange curveBoundsWrong)

/-- 'millracelaw.CurveServes': WHATEVER THE INPUT: true; the input reads as it did. -/
def curveServesSpec : ChangeSpec := { name := "curveServes", fn := fun _ => fun
  | [d1, d2] => { results := [.lit (.bool true)], args := [d1, d2] }
  | _ => none }
def curveServesRow : OpenClaim := { program := "ytdapgjkjkiighaadoor", sum := "1fbc16cba13444291181df4045a1b0e04b4917657b6c9248ad8a956614ae45a6", func := "millrace/millracelaw.CurveServes", spec := "curveServes", inPlace := ["internal/reflectlite.ValueOf", "(internal/reflectlite.Value).Type", "(internal/reflectlite.Value).IsNil", "internal/reflectlite.TypeOf", "(internal/reflectlite.Value).Elem", "(internal/reflectlite.Value).Set"], unfollowed := true, recurses := true, named := ["errors.errorType"], apart := false, laid := [("errors.errorType", laid_errors_errorType)] }
def CurveServesSaid : Prop := curveServesRow.holds Tryd.pinned (OpenSpec.ofChange curveServesSpec)

/-- ITS FALSE NEIGHBOUR: 'it returns false'. Refute it at one input. -/
def curveServesWrong : ChangeSpec := { name := "curveServes", fn := fun _ => fun
  | [d1, d2] => { results := [.lit (.bool false)], args := [d1, d2] }
  | _ => none }
def CurveServesWrongFalsely : Prop := curveServesRow.holds Tryd.pinned (OpenSpec.ofChange curveServesWrong)

/-- 'millracelaw.CurveFits': WHATEVER THE INPUT: true; the input reads as it did. -/
def curveFitsSpec : ChangeSpec := { name := "curveFits", fn := fun _ => fun
  | [d1, d2] => { results := [.lit (.bool true)], args := [d1, d2] }
  | _ => none }
def curveFitsRow : OpenClaim := { program := "ytdapgjkjkiighaadoor", sum := "1fbc16cba13444291181df4045a1b0e04b4917657b6c9248ad8a956614ae45a6", func := "millrace/millracelaw.CurveFits", spec := "curveFits", inPlace := ["internal/reflectlite.ValueOf", "(internal/reflectlite.Value).Type", "(internal/reflectlite.Value).IsNil", "internal/reflectlite.TypeOf", "(internal/reflectlite.Value).Elem", "(internal/reflectlite.Value).Set"], unfollowed := true, recurses := true, named := ["errors.errorType"], apart := false, laid := [("errors.errorType", laid_errors_errorType)] }
def CurveFitsSaid : Prop := curveFitsRow.holds Tryd.pinned (OpenSpec.ofChange curveFitsSpec)

/-- ITS FALSE NEIGHBOUR: 'it returns false'. Refute it at one input. -/
def curveFitsWrong : ChangeSpec := { name := "curveFits", fn := fun _ => fun
  | [d1, d2] => { results := [.lit (.bool false)], args := [d1, d2] }
  | _ => none }
def CurveFitsWrongFalsely : Prop := curveFitsRow.holds Tryd.pinned (OpenSpec.ofChange curveFitsWrong)

/- THE SECOND FORM. 'bulk': how many values and letters a reading holds, each counted each time it is reached (what is shared counts as often as it is met; a slice's spare places count too). A statement '..UptoSaid' is the law's where the arguments, and the package variables that the reading takes, are together of bulk at most 1048576: NARROWER than '..Said'. Prove '..Said' where nothing that the law and all that it calls make is longer than what came in: it says more and counts as full. Else prove '..UptoSaid'. A law counts once. -/
mutual
def uptoBulk {H : Type} : DataW H → Nat
  | .lit (.string bytes) => bytes.length + 1
  | .lit _ => 1
  | .nil => 1
  | .ptr d => uptoBulk d + 1
  | .slice elems spare => uptoBulkAll elems + uptoBulkAll spare + 1
  | .agg parts => uptoBulkAll parts + 1
  | .iface _ d => uptoBulk d + 1
  | .map entries => uptoBulkEntries entries + 1
  | .held _ => 1
def uptoBulkAll {H : Type} : List (DataW H) → Nat
  | [] => 0
  | d :: r => uptoBulk d + uptoBulkAll r
def uptoBulkEntries {H : Type} : List (Lit × DataW H) → Nat
  | [] => 0
  | x :: r => uptoBulkEntry x + uptoBulkEntries r
def uptoBulkEntry {H : Type} : Lit × DataW H → Nat
  | (.string bytes, d) => bytes.length + uptoBulk d + 1
  | (_, d) => uptoBulk d + 1
 end
def uptoSmall : (H : Type) → List (DataW H) → Bool := fun _ ds => decide (uptoBulkAll ds ≤ 1048576)
def OpenSpec.upto (s : _root_.Go.ChangeSpec) : _root_.Go.OpenSpec := { _root_.Go.OpenSpec.ofChange s with cond := some uptoSmall }

/-- 'millracelaw.CurveChecks', WHERE WHAT IT READS IS OF BULK AT MOST 1048576: true; the input reads as it did. -/
def curveChecksUptoRow : OpenClaim := { program := "ytdapgjkjkiighaadoor", sum := "1fbc16cba13444291181df4045a1b0e04b4917657b6c9248ad8a956614ae45a6", func := "millrace/millracelaw.CurveChecks", spec := "curveChecks", inPlace := ["internal/reflectlite.ValueOf", "(internal/reflectlite.Value).Type", "(internal/reflectlite.Value).IsNil", "internal/reflectlite.TypeOf", "(internal/reflectlite.Value).Elem", "(internal/reflectlite.Value).Set"], unfollowed := true, recurses := true, named := ["errors.errorType"], apart := false, laid := [("errors.errorType", laid_errors_errorType)], narrowed := true }
def CurveChecksUptoSaid : Prop := curveChecksUptoRow.holds Tryd.pinned (OpenSpec.upto curveChecksSpec)

/-- 'millracelaw.CurveThen', WHERE WHAT IT READS IS OF BULK AT MOST 1048576: true; the input reads as it did. -/
def curveThenUptoRow : OpenClaim := { program := "ytdapgjkjkiighaadoor", sum := "1fbc16cba13444291181df4045a1b0e04b4917657b6c9248ad8a956614ae45a6", func := "millrace/millracelaw.CurveThen", spec := "curveThen", inPlace := ["internal/reflectlite.ValueOf", "(internal/reflectlite.Value).Type", "(internal/reflectlite.Value).IsNil", "internal/reflectlite.TypeOf", "(internal/reflectlite.Value).Elem", "(internal/reflectlite.Value).Set"], unfollowed := true, recurses := true, named := ["errors.errorType"], apart := false, laid := [("errors.errorType", laid_errors_errorType)], narrowed := true }
def CurveThenUptoSaid : Prop := curveThenUptoRow.holds Tryd.pinned (OpenSpec.upto curveThenSpec)

/-- 'millracelaw.CurveLeast', WHERE WHAT IT READS IS OF BULK AT MOST 1048576: true; the input reads as it did. -/
def curveLeastUptoRow : OpenClaim := { program := "ytdapgjkjkiighaadoor", sum := "1fbc16cba13444291181df4045a1b0e04b4917657b6c9248ad8a956614ae45a6", func := "millrace/millracelaw.CurveLeast", spec := "curveLeast", inPlace := ["internal/reflectlite.ValueOf", "(internal/reflectlite.Value).Type", "(internal/reflectlite.Value).IsNil", "internal/reflectlite.TypeOf", "(internal/reflectlite.Value).Elem", "(internal/reflectlite.Value).Set"], unfollowed := true, recurses := true, named := ["errors.errorType"], apart := false, laid := [("errors.errorType", laid_errors_errorType)], narrowed := true }
def CurveLeastUptoSaid : Prop := curveLeastUptoRow.holds Tryd.pinned (OpenSpec.upto curveLeastSpec)

/-- 'millracelaw.CurveBehind', WHERE WHAT IT READS IS OF BULK AT MOST 1048576: true; the input reads as it did. -/
def curveBehindUptoRow : OpenClaim := { program := "ytdapgjkjkiighaadoor", sum := "1fbc16cba13444291181df4045a1b0e04b4917657b6c9248ad8a956614ae45a6", func := "millrace/millracelaw.CurveBehind", spec := "curveBehind", inPlace := ["internal/reflectlite.ValueOf", "(internal/reflectlite.Value).Type", "(internal/reflectlite.Value).IsNil", "internal/reflectlite.TypeOf", "(internal/reflectlite.Value).Elem", "(internal/reflectlite.Value).Set"], unfollowed := true, recurses := true, named := ["errors.errorType"], apart := false, laid := [("errors.errorType", laid_errors_errorType)], narrowed := true }
def CurveBehindUptoSaid : Prop := curveBehindUptoRow.holds Tryd.pinned (OpenSpec.upto curveBehindSpec)

/-- 'millracelaw.CurveBounds', WHERE WHAT IT READS IS OF BULK AT MOST 1048576: true; the input reads as it did. -/
def curveBoundsUptoRow : OpenClaim := { program := "ytdapgjkjkiighaadoor", sum := "1fbc16cba13444291181df4045a1b0e04b4917657b6c9248ad8a956614ae45a6", func := "millrace/millracelaw.CurveBounds", spec := "curveBounds", inPlace := ["internal/reflectlite.ValueOf", "(internal/reflectlite.Value).Type", "(internal/reflectlite.Value).IsNil", "internal/reflectlite.TypeOf", "(internal/reflectlite.Value).Elem", "(internal/reflectlite.Value).Set"], unfollowed := true, recurses := true, named := ["errors.errorType"], apart := false, laid := [("errors.errorType", laid_errors_errorType)], narrowed := true }
def CurveBoundsUptoSaid : Prop := curveBoundsUptoRow.holds Tryd.pinned (OpenSpec.upto curveBoundsSpec)

/-- 'millracelaw.CurveServes', WHERE WHAT IT READS IS OF BULK AT MOST 1048576: true; the input reads as it did. -/
def curveServesUptoRow : OpenClaim := { program := "ytdapgjkjkiighaadoor", sum := "1fbc16cba13444291181df4045a1b0e04b4917657b6c9248ad8a956614ae45a6", func := "millrace/millracelaw.CurveServes", spec := "curveServes", inPlace := ["internal/reflectlite.ValueOf", "(internal/reflectlite.Value).Type", "(internal/reflectlite.Value).IsNil", "internal/reflectlite.TypeOf", "(internal/reflectlite.Value).Elem", "(internal/reflectlite.Value).Set"], unfollowed := true, recurses := true, named := ["errors.errorType"], apart := false, laid := [("errors.errorType", laid_errors_errorType)], narrowed := true }
def CurveServesUptoSaid : Prop := curveServesUptoRow.holds Tryd.pinned (OpenSpec.upto curveServesSpec)

/-- 'millracelaw.CurveFits', WHERE WHAT IT READS IS OF BULK AT MOST 1048576: true; the input reads as it did. -/
def curveFitsUptoRow : OpenClaim := { program := "ytdapgjkjkiighaadoor", sum := "1fbc16cba13444291181df4045a1b0e04b4917657b6c9248ad8a956614ae45a6", func := "millrace/millracelaw.CurveFits", spec := "curveFits", inPlace := ["internal/reflectlite.ValueOf", "(internal/reflectlite.Value).Type", "(internal/reflectlite.Value).IsNil", "internal/reflectlite.TypeOf", "(internal/reflectlite.Value).Elem", "(internal/reflectlite.Value).Set"], unfollowed := true, recurses := true, named := ["errors.errorType"], apart := false, laid := [("errors.errorType", laid_errors_errorType)], narrowed := true }
def CurveFitsUptoSaid : Prop := curveFitsUptoRow.holds Tryd.pinned (OpenSpec.upto curveFitsSpec)

end Rows
end Go.Proofs.YtdapgjkjkiighaaDoor
