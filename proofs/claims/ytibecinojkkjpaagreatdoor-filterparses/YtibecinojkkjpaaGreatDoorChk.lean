/-
  item.within, item.Check: what each returns at every argument, and that nothing that was there before is otherwise. Conditions: integers are of 64 bits.
-/
import Derived.Test.YtibecinojkkjpaaGreatDoorProg
import Derived.WalkKit
import Derived.RowKitTokens
import Derived.Deep.QuietTactic
import Derived.BigQuiet
namespace Go.Proofs.YtibecinojkkjpaaGreatDoor
open Go.RowKit Go.Extern.Stop Go.Stop Go.Extern

/-- n from lo to hi. -/
def wth (n lo hi : Int) : Bool := decide (lo ≤ n) && decide (n ≤ hi)
theorem wth_iff {n lo hi : Int} : wth n lo hi = true ↔ lo ≤ n ∧ n ≤ hi := by simp [wth]
theorem wth_no {n lo hi : Int} : wth n lo hi = false ↔ ¬ (lo ≤ n ∧ n ≤ hi) := by simp [wth]


/-- A packet: At, Len, Flow, Band, Mark. -/
structure It where
  a : Int
  l : Int
  f : Int
  b : Int
  m : Int
def It.cells (x : It) : Array Value := #[.int .i64 x.a, .int .i64 x.l, .int .i64 x.f, .int .i64 x.b, .int .i64 x.m]
def It.ok (x : It) : Bool := wth x.a 0 1000000000 && wth x.l 1 10000 && wth x.f 0 15 && wth x.b 0 7 && wth x.m 0 255


end Go.Proofs.YtibecinojkkjpaaGreatDoor
