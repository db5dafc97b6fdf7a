/-
  item.Check, item.Speed, item.Takes, item.placed: what each returns at every argument, and that nothing that was there before is otherwise. Conditions: integers are of 64 bits; placed: errors.errorType holds its handle.
-/
import Derived.Test.YtnoppfgikanebaaDoorErrs
import Derived.Test.YtnoppfgikanebaaDoorChk
namespace Go.Proofs.YtnoppfgikanebaaDoor
open Go.RowKit Go.Extern.Stop Go.Stop Go.Extern

/-- A rate that may be. -/
def okRate (n t : Int) : Bool := wth n 1 1000000 && wth t 1 1000000

theorem speed_yes (n t : Int) (w : World) (h : okRate n t = true) :
    Calls Tryd.prog 27 #[.agg #[.int .i64 n, .int .i64 t]] w fun e w' => e = .returned .nilIface ∧ w' = w.alloc (.cells #[.int .i64 n, .int .i64 t] 50) := by
  simp only [okRate, Bool.and_eq_true] at h
  obtain ⟨h1, h2⟩ := h
  go_enter Tryd.func27, Tryd.ntmps27
  go_wp2_with (go_at_call 18; refine (within_any _ _ _ _).mono ?_; rintro e w' ⟨rfl, rfl⟩)
  go_ret
  exact ⟨rfl, rfl⟩
theorem speed_no (n t : Int) (w : World) (h : okRate n t = false) :
    Calls Tryd.prog 27 #[.agg #[.int .i64 n, .int .i64 t]] w fun e w' => e = .returned (.iface 34 (.int .i64 2)) ∧ w' = w.alloc (.cells #[.int .i64 n, .int .i64 t] 50) := by
  cases h1 : wth n 1 1000000 with
  | false =>
    clear h
    go_enter Tryd.func27, Tryd.ntmps27
    go_wp2_with (go_at_call 18; refine (within_any _ _ _ _).mono ?_; rintro e w' ⟨rfl, rfl⟩)
    go_ret
    exact ⟨rfl, rfl⟩
  | true =>
    cases h2 : wth t 1 1000000 with
    | false =>
      clear h
      go_enter Tryd.func27, Tryd.ntmps27
      go_wp2_with (go_at_call 18; refine (within_any _ _ _ _).mono ?_; rintro e w' ⟨rfl, rfl⟩)
      go_ret
      exact ⟨rfl, rfl⟩
    | true => simp [okRate, h1, h2] at h

end Go.Proofs.YtnoppfgikanebaaDoor
