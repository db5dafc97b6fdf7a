/-
  No cell of these rows narrows 'for every input' (looked for: loops, veiled, ifaces, maps, wideKeys, modest, calm, conditions, laid).
  DERIVED. THE GIVEN ROWS OF THIS SEAT. 4 by the template 'for every input the law returns true; each argument reads behind the call as it read before'; 0 by the template 'total and deterministic' (their statements: YtiiekmjkgdcglaaTotals.lean).
  GIVEN WITH THE SEED: the statements are not yours to turn. If you find one false, say at which input.
  Laid BY PROGRAM, IN A SANDBOX (cutbox-rows.mjs): the forced cells as the released guide's own fill.sh prints them over the translation 525c61999edccd26… (all of the seat's roots in one cut). By AI agents, Wed Nov 11 2026. No macro, syntax, notation, axiom, sorry.
-/
import Derived.Test.YtiiekmjkgdcglaaChecked
import GoSem.Claim
import GoSem.ClaimJoined
import GoSem.ClaimMapViews
import Derived.JoinedTies
import Derived.KernelRfl
namespace Go.Proofs.Ytiiekmjkgdcglaa
/- THE CELL 'sum', in the pinned program and in every row, IS THE sha256 OF THE DUMP (.gsa) THAT YtiiekmjkgdcglaaProg.lean LOADS. Nothing in Lean hashes anything: it is a label: what it is worth is what the hold of that sum in a sandbox is worth. -/
noncomputable def Try.pinned : Pinned := { name := "ytiiekmjkgdcglaa", sum := "525c61999edccd26c9b2b84c70b04f29231e2fc888500f85ff211b4bb21db59a", checked := Try.checked }
namespace Rows
def none {H : Type} : Left H := { results := [], args := [] }

/-- 'millracekeep.CurveSemiring': WHATEVER THE INPUT: true; the input reads as it did. -/
def curveSemiringSpec : ChangeSpec := { name := "curveSemiring", fn := fun _ => fun
  | [d1, d2, d3] => { results := [.lit (.bool true)], args := [d1, d2, d3] }
  | _ => none }
def curveSemiringRow : OpenClaim := { program := "ytiiekmjkgdcglaa", sum := "525c61999edccd26c9b2b84c70b04f29231e2fc888500f85ff211b4bb21db59a", func := "millrace/millracekeep.CurveSemiring", spec := "curveSemiring", unfollowed := true, recurses := true, apart := false }
def CurveSemiringSaid : Prop := curveSemiringRow.holds Try.pinned (OpenSpec.ofChange curveSemiringSpec)

/-- ITS FALSE NEIGHBOUR: 'it returns false'. Refute it at one input. -/
def curveSemiringWrong : ChangeSpec := { name := "curveSemiring", fn := fun _ => fun
  | [d1, d2, d3] => { results := [.lit (.bool false)], args := [d1, d2, d3] }
  | _ => none }
def CurveSemiringWrongFalsely : Prop := curveSemiringRow.holds Try.pinned (OpenSpec.ofChange curveSemiringWrong)

/-- 'millracekeep.CurveCruz': WHATEVER THE INPUT: true; the input reads as it did. -/
def curveCruzSpec : ChangeSpec := { name := "curveCruz", fn := fun _ => fun
  | [d1, d2, d3] => { results := [.lit (.bool true)], args := [d1, d2, d3] }
  | _ => none }
def curveCruzRow : OpenClaim := { program := "ytiiekmjkgdcglaa", sum := "525c61999edccd26c9b2b84c70b04f29231e2fc888500f85ff211b4bb21db59a", func := "millrace/millracekeep.CurveCruz", spec := "curveCruz", unfollowed := true, recurses := true, apart := false }
def CurveCruzSaid : Prop := curveCruzRow.holds Try.pinned (OpenSpec.ofChange curveCruzSpec)

/-- ITS FALSE NEIGHBOUR: 'it returns false'. Refute it at one input. -/
def curveCruzWrong : ChangeSpec := { name := "curveCruz", fn := fun _ => fun
  | [d1, d2, d3] => { results := [.lit (.bool false)], args := [d1, d2, d3] }
  | _ => none }
def CurveCruzWrongFalsely : Prop := curveCruzRow.holds Try.pinned (OpenSpec.ofChange curveCruzWrong)

/-- 'millracekeep.CurveOnce': WHATEVER THE INPUT: true; the input reads as it did. -/
def curveOnceSpec : ChangeSpec := { name := "curveOnce", fn := fun _ => fun
  | [d1, d2, d3] => { results := [.lit (.bool true)], args := [d1, d2, d3] }
  | _ => none }
def curveOnceRow : OpenClaim := { program := "ytiiekmjkgdcglaa", sum := "525c61999edccd26c9b2b84c70b04f29231e2fc888500f85ff211b4bb21db59a", func := "millrace/millracekeep.CurveOnce", spec := "curveOnce", unfollowed := true, recurses := true, apart := false }
def CurveOnceSaid : Prop := curveOnceRow.holds Try.pinned (OpenSpec.ofChange curveOnceSpec)

/-- ITS FALSE NEIGHBOUR: 'it returns false'. Refute it at one input. -/
def curveOnceWrong : ChangeSpec := { name := "curveOnce", fn := fun _ => fun
  | [d1, d2, d3] => { results := [.lit (.bool false)], args := [d1, d2, d3] }
  | _ => none }
def CurveOnceWrongFalsely : Prop := curveOnceRow.holds Try.pinned (OpenSpec.ofChange curveOnceWrong)

/-- 'millracekeep.CurveTwice': WHATEVER THE INPUT: true; the input reads as it did. -/
def curveTwiceSpec : ChangeSpec := { name := "curveTwice", fn := fun _ => fun
  | [d1, d2, d3] => { results := [.lit (.bool true)], args := [d1, d2, d3] }
  | _ => none }
def curveTwiceRow : OpenClaim := { program := "ytiiekmjkgdcglaa", sum := "525c61999edccd26c9b2b84c70b04f29231e2fc888500f85ff211b4bb21db59a", func := "millrace/millracekeep.CurveTwice", spec := "curveTwice", unfollowed := true, recurses := true, apart := false }
def CurveTwiceSaid : Prop := curveTwiceRow.holds Try.pinned (OpenSpec.ofChange curveTwiceSpec)

/-- ITS FALSE NEIGHBOUR: 'it returns false'. Refute it at one input. -/
def curveTwiceWrong : ChangeSpec := { name := "curveTwice", fn := fun _ => fun
  | [d1, d2, d3] => { results := [.lit (.bool false)], args := [d1, d2, d3] }
  | _ => none }
def CurveTwiceWrongFalsely : Prop := curveTwiceRow.holds Try.pinned (OpenSpec.ofChange curveTwiceWrong)

/- THE SECOND FORM. 'bulk': how many values and letters a reading holds, each counted each time it is reached (what is shared counts as often as it is met; a slice's spare places count too). A statement '..UptoSaid' is the law's where the arguments, and the package variables that the reading takes, are together of bulk at most 1048576: NARROWER than '..Said'. Prove '..Said' where nothing that the law and all that it calls make is longer than what came in: it says more and counts as full. Else prove '..UptoSaid'. A law counts once. -/
mutual
def uptoBulk {H : Type} : DataW H → Nat
  | .lit (.string bytes) => bytes.length + 1
  | .lit _ => 1
  | .nil => 1
  | .ptr d => uptoBulk d + 1
  | .slice elems spare => uptoBulkAll elems + uptoBulkAll spare + 1
  | .agg parts => uptoBulkAll parts + 1
  | .iface _ d => uptoBulk d + 1
  | .map entries => uptoBulkEntries entries + 1
  | .held _ => 1
def uptoBulkAll {H : Type} : List (DataW H) → Nat
  | [] => 0
  | d :: r => uptoBulk d + uptoBulkAll r
def uptoBulkEntries {H : Type} : List (Lit × DataW H) → Nat
  | [] => 0
  | x :: r => uptoBulkEntry x + uptoBulkEntries r
def uptoBulkEntry {H : Type} : Lit × DataW H → Nat
  | (.string bytes, d) => bytes.length + uptoBulk d + 1
  | (_, d) => uptoBulk d + 1
 end
def uptoSmall : (H : Type) → List (DataW H) → Bool := fun _ ds => decide (uptoBulkAll ds ≤ 1048576)
def OpenSpec.upto (s : _root_.Go.ChangeSpec) : _root_.Go.OpenSpec := { _root_.Go.OpenSpec.ofChange s with cond := some uptoSmall }

/-- 'millracekeep.CurveSemiring', WHERE WHAT IT READS IS OF BULK AT MOST 1048576: true; the input reads as it did. -/
def curveSemiringUptoRow : OpenClaim := { program := "ytiiekmjkgdcglaa", sum := "525c61999edccd26c9b2b84c70b04f29231e2fc888500f85ff211b4bb21db59a", func := "millrace/millracekeep.CurveSemiring", spec := "curveSemiring", unfollowed := true, recurses := true, apart := false, narrowed := true }
def CurveSemiringUptoSaid : Prop := curveSemiringUptoRow.holds Try.pinned (OpenSpec.upto curveSemiringSpec)

/-- 'millracekeep.CurveCruz', WHERE WHAT IT READS IS OF BULK AT MOST 1048576: true; the input reads as it did. -/
def curveCruzUptoRow : OpenClaim := { program := "ytiiekmjkgdcglaa", sum := "525c61999edccd26c9b2b84c70b04f29231e2fc888500f85ff211b4bb21db59a", func := "millrace/millracekeep.CurveCruz", spec := "curveCruz", unfollowed := true, recurses := true, apart := false, narrowed := true }
def CurveCruzUptoSaid : Prop := curveCruzUptoRow.holds Try.pinned (OpenSpec.upto curveCruzSpec)

/-- 'millracekeep.CurveOnce', WHERE WHAT IT READS IS OF BULK AT MOST 1048576: true; the input reads as it did. -/
def curveOnceUptoRow : OpenClaim := { program := "ytiiekmjkgdcglaa", sum := "525c61999edccd26c9b2b84c70b04f29231e2fc888500f85ff211b4bb21db59a", func := "millrace/millracekeep.CurveOnce", spec := "curveOnce", unfollowed := true, recurses := true, apart := false, narrowed := true }
def CurveOnceUptoSaid : Prop := curveOnceUptoRow.holds Try.pinned (OpenSpec.upto curveOnceSpec)

/-- 'millracekeep.CurveTwice', WHERE WHAT IT READS IS OF BULK AT MOST 1048576: true; the input reads as it did. -/
def curveTwiceUptoRow : OpenClaim := { program := "ytiiekmjkgdcglaa", sum := "525c61999edccd26c9b2b84c70b04f29231e2fc888500f85ff211b4bb21db59a", func := "millrace/millracekeep.CurveTwice", spec := "curveTwice", unfollowed := true, recurses := true, apart := false, narrowed := true }
def CurveTwiceUptoSaid : Prop := curveTwiceUptoRow.holds Try.pinned (OpenSpec.upto curveTwiceSpec)

end Rows
end Go.Proofs.Ytiiekmjkgdcglaa
