/-
  millracelaw.CurveChecks is true at every numbers; nothing that was there before is otherwise. Conditions: errors.errorType holds its handle; the numbers lie in memory.
-/
import Derived.Test.YtdapgjkjkiighaaDoorLwErr
namespace Go.Proofs.YtdapgjkjkiighaaDoor
open Go.RowKit Go.Extern.Stop Go.Stop Go.Extern

set_option maxHeartbeats 1000000 in
theorem checks_any (x : Option Addr) (cx n : Nat) (f : Nat → Int) (w : World) (hL : Laid w) (hx : Row w x n f) (hm : n ≤ maxLen) :
    Calls Tryd.prog 3 #[.slice x n cx] w fun e w' => e = .returned (.bool true) ∧ Below w.heap.size w w' := by
  have HC : Hid (Calls Tryd.prog 11 #[.slice x n cx] w fun e w' => e = .returned (errV (curveE n f)) ∧ w' = w) := check_any x cx n f w hm hx
  have HR : Hid (Calls Tryd.prog 12 #[.slice x n cx] w fun e w' => e = .returned (.int .i64 (curveE n f)) ∧ w' = w) := rcheck_any x cx n f w hm hx
  have HB : Hid (Calls Tryd.prog 10 #[errV (curveE n f), .int .i64 (curveE n f)] w fun e w' => e = .returned (.bool true) ∧ Below w.heap.size w w') := bare_errV _ w hL
  unfold maxLen at hm
  clear hx
  generalize errV (curveE n f) = v at *
  generalize curveE n f = E at *
  by_cases h : 300 < n
  · go_enter Tryd.func3, Tryd.ntmps3
    go_wp2
    go_ret
    exact ⟨rfl, Below.refl _ _⟩
  · go_enter Tryd.func3, Tryd.ntmps3
    go_wp2_with fail
    refine HC.out.mono ?_
    rintro e w' ⟨rfl, rfl⟩
    go_wp2_with fail
    refine HR.out.mono ?_
    rintro e w' ⟨rfl, rfl⟩
    go_wp2_with fail
    refine HB.out.mono ?_
    rintro e w1 ⟨rfl, hb1⟩
    go_wp2
    go_ret
    exact ⟨rfl, hb1⟩
end Go.Proofs.YtdapgjkjkiighaaDoor
