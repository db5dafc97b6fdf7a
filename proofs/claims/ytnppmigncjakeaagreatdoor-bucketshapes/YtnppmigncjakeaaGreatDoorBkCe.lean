/-
  bucket.Cells: of a bucket that may not be, or of packets that may not be, the error; else, in new memory, which packets conform by when they should come; nothing that was there before is otherwise. Conditions: errors.errorType holds its handle; the packets lie in memory.
-/
import Derived.Test.YtnppmigncjakeaaGreatDoorBkCf
namespace Go.Proofs.YtnppmigncjakeaaGreatDoor
open Go.RowKit Go.Extern.Stop Go.Stop Go.Extern


/-- When all would have been sent, this packet too. -/
def nxt (n t du a l : Int) : Int := (if du ≤ a * n then a * n else du) + l * t
def ceB (n t R du a l : Int) : Bool := !decide (a * n + R * t < nxt n t du a l)
def ceD (n t R du a l : Int) : Int := if a * n + R * t < nxt n t du a l then du else nxt n t du a l

theorem setOne {w : World} {d : Nat} {v : Value} {T : TypeId} (h : w.heap[d]? = some (.cells #[v] T (0, 0))) (u : Value) : (w.setCell ⟨d, 0, none⟩ u).heap[d]? = some (.cells #[u] T (0, 0)) := one_setCell h



end Go.Proofs.YtnppmigncjakeaaGreatDoor
