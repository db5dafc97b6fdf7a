/-
  item.Check, item.Speed, item.Takes, item.placed: what each returns at every argument, and that nothing that was there before is otherwise. Conditions: integers are of 64 bits; placed: errors.errorType holds its handle.
-/
import Derived.Test.YtgklojgflcekoaaDoorErrs
import Derived.Test.YtgklojgflcekoaaDoorChk
namespace Go.Proofs.YtgklojgflcekoaaDoor
open Go.RowKit Go.Extern.Stop Go.Stop Go.Extern

/-- A rate that may be. -/
def okRate (n t : Int) : Bool := wth n 1 1000000 && wth t 1 1000000

theorem speed_yes (n t : Int) (w : World) (h : okRate n t = true) :
    Calls Tryd.prog 10 #[.agg #[.int .i64 n, .int .i64 t]] w fun e w' => e = .returned .nilIface ∧ w' = w.alloc (.cells #[.int .i64 n, .int .i64 t] 23) := by
  simp only [okRate, Bool.and_eq_true] at h
  obtain ⟨h1, h2⟩ := h
  go_enter Tryd.func10, Tryd.ntmps10
  go_wp2_with (go_at_call 21; refine (within_any _ _ _ _).mono ?_; rintro e w' ⟨rfl, rfl⟩)
  go_ret
  exact ⟨rfl, rfl⟩
theorem speed_no (n t : Int) (w : World) (h : okRate n t = false) :
    Calls Tryd.prog 10 #[.agg #[.int .i64 n, .int .i64 t]] w fun e w' => e = .returned (.iface 52 (.int .i64 2)) ∧ w' = w.alloc (.cells #[.int .i64 n, .int .i64 t] 23) := by
  cases h1 : wth n 1 1000000 with
  | false =>
    clear h
    go_enter Tryd.func10, Tryd.ntmps10
    go_wp2_with (go_at_call 21; refine (within_any _ _ _ _).mono ?_; rintro e w' ⟨rfl, rfl⟩)
    go_ret
    exact ⟨rfl, rfl⟩
  | true =>
    cases h2 : wth t 1 1000000 with
    | false =>
      clear h
      go_enter Tryd.func10, Tryd.ntmps10
      go_wp2_with (go_at_call 21; refine (within_any _ _ _ _).mono ?_; rintro e w' ⟨rfl, rfl⟩)
      go_ret
      exact ⟨rfl, rfl⟩
    | true => simp [okRate, h1, h2] at h

set_option maxHeartbeats 1000000 in
theorem placed_errno (n p : Int) (w : World) (hL : Laid w) : Calls Tryd.prog 30 #[.iface 52 (.int .i64 n), .int .i64 p] w fun e w' =>
    ∃ a, e = .returned (.iface 94 (.pointer (some ⟨a, 0, none⟩))) ∧ w.heap.size ≤ a ∧ w'.cell? ⟨a, 0, none⟩ = some (.int .i64 n) ∧ w'.cell? ⟨a, 0 + 1, none⟩ = some (.int .i64 p) ∧ Below w.heap.size w w' := by
  go_enter Tryd.func30, Tryd.ntmps30
  go_wp2_with (go_at_call 32; refine (tell_errno n _ hL).mono ?_; rintro e w1 ⟨rfl, hb⟩)
  go_ret
  exact ⟨_, rfl, hb.size, by simp, by simp, hb.alloc hb.size _⟩
end Go.Proofs.YtgklojgflcekoaaDoor
