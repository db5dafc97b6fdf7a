/-
  item.Check, item.Speed, item.Takes, item.placed: what each returns at every argument, and that nothing that was there before is otherwise. Conditions: integers are of 64 bits; placed: errors.errorType holds its handle.
-/
import Derived.Test.YtcdcplocpdmjaaaDoorErrs
import Derived.Test.YtcdcplocpdmjaaaDoorChk
namespace Go.Proofs.YtcdcplocpdmjaaaDoor
open Go.RowKit Go.Extern.Stop Go.Stop Go.Extern

/-- A rate that may be. -/
def okRate (n t : Int) : Bool := wth n 1 1000000 && wth t 1 1000000


set_option maxHeartbeats 1000000 in
theorem placed_errno (n p : Int) (w : World) (hL : Laid w) : Calls Tryd.prog 18 #[.iface 23 (.int .i64 n), .int .i64 p] w fun e w' =>
    ∃ a, e = .returned (.iface 75 (.pointer (some ⟨a, 0, none⟩))) ∧ w.heap.size ≤ a ∧ w'.cell? ⟨a, 0, none⟩ = some (.int .i64 n) ∧ w'.cell? ⟨a, 0 + 1, none⟩ = some (.int .i64 p) ∧ Below w.heap.size w w' := by
  go_enter Tryd.func18, Tryd.ntmps18
  go_wp2_with (go_at_call 21; refine (tell_errno n _ hL).mono ?_; rintro e w1 ⟨rfl, hb⟩)
  go_ret
  exact ⟨_, rfl, hb.size, by simp, by simp, hb.alloc hb.size _⟩
end Go.Proofs.YtcdcplocpdmjaaaDoor
