/-
  plain.Place of any error value that ErrIs tells. Conditions: errors.errorType holds its handle.
-/
import Derived.Test.YtcdcplocpdmjaaaDoorList
import Derived.Test.YtcdcplocpdmjaaaDoorErrsP
namespace Go.Proofs.YtcdcplocpdmjaaaDoor
open Go.RowKit Go.Extern.Stop Go.Stop Go.Extern

theorem place_any {v : Value} {E P : Int} (w : World) (h : ErrIs w v E P) (hL : Laid w) : Calls Tryd.prog 20 #[v] w fun e w' => e = .returned (.tuple #[.int .i64 E, .int .i64 P]) ∧ Below w.heap.size w w' := by
  rcases h with ⟨rfl, rfl, rfl⟩ | ⟨rfl, _, rfl⟩ | ⟨a, rfl, h2, h3, _⟩
  · exact place_nil w
  · exact place_errno E w hL
  · exact place_at a 0 E P w h2 h3 hL
end Go.Proofs.YtcdcplocpdmjaaaDoor
