/-
  millracelaw.bare of an error and its number is true; millraceref.within: what each returns, and that nothing that was there before is otherwise. Conditions: errors.errorType holds its handle.
-/
import Derived.Test.YtheadpemckoljaaGreatDoorErrsP
import Derived.Deep.QuietTactic
import Derived.BigQuiet
namespace Go.Proofs.YtheadpemckoljaaGreatDoor
open Go.RowKit Go.Extern.Stop Go.Stop Go.Extern

/-- An error as a value: nil for 0. -/
def errV (E : Int) : Value := if E = 0 then .nilIface else .iface 37 (.int .i64 E)
theorem errV_zero : errV 0 = .nilIface := rfl
theorem errV_not {E : Int} (h : E ≠ 0) : errV E = .iface 37 (.int .i64 E) := by unfold errV; rw [if_neg h]
theorem place_errV (E : Int) (w : World) (hL : Laid w) : Calls Tryz.prog 41 #[errV E] w fun e w' => e = .returned (.tuple #[.int .i64 E, .int .i64 (-1)]) ∧ Below w.heap.size w w' := by
  by_cases h : E = 0
  · subst h; exact place_nil w
  · rw [errV_not h]; exact place_errno E w hL
theorem bareOf (n : Int) (w : World) : Calls Tryz.prog 28 #[.int .i64 n] w fun e w' => e = .returned (.agg #[.int .i64 n, .int .i64 (-1)]) ∧ Below w.heap.size w w' := by
  go_enter Tryz.func28, Tryz.ntmps28
  go_wp2
  refine bodyPost_ret (v := .agg #[.int .i64 n, .int .i64 (-1)]) (by simp [results, Tryz.results28, go_sem]) rfl ⟨rfl, ?_⟩
  repeat' (first | exact Below.refl _ _ | refine Below.drew ?_ | refine Below.alloc ?_ ?_ _ | refine Below.setCell ?_ ?_ _)
  all_goals (simp <;> omega)
set_option maxHeartbeats 1000000 in
theorem at_errV (E : Int) (w : World) (hL : Laid w) : Calls Tryz.prog 27 #[errV E, .agg #[.int .i64 E, .int .i64 (-1)]] w fun e w' => e = .returned (.bool true) ∧ Below w.heap.size w w' := by
  have hA : Below w.heap.size w (w.alloc (.cells #[.int .i64 E, .int .i64 (-1)] 63)) := (Below.refl _ _).alloc (Nat.le_refl _) _
  have HC : Hid (Calls Tryz.prog 41 #[errV E] (w.alloc (.cells #[.int .i64 E, .int .i64 (-1)] 63)) fun e w' => e = .returned (.tuple #[.int .i64 E, .int .i64 (-1)]) ∧ Below (w.alloc (.cells #[.int .i64 E, .int .i64 (-1)] 63)).heap.size (w.alloc (.cells #[.int .i64 E, .int .i64 (-1)] 63)) w') := place_errV E _ (hL.below hA)
  generalize errV E = v at *
  go_enter Tryz.func27, Tryz.ntmps27
  go_wp2_with fail
  refine HC.out.mono ?_
  rintro e w1 ⟨rfl, hb⟩
  have c0 : w1.cell? ⟨w.heap.size, 0, none⟩ = some (.int .i64 E) := by rw [hb.cell (by simp)]; simp
  have c1 : w1.cell? ⟨w.heap.size, 0 + 1, none⟩ = some (.int .i64 (-1)) := by rw [hb.cell (by simp)]; simp
  have c1' : w1.cell? ⟨w.heap.size, 1, none⟩ = some (.int .i64 (-1)) := c1
  go_wp2
  go_ret
  exact ⟨by simp, hA.trans (hb.mono (by simp))⟩
set_option maxHeartbeats 1000000 in
theorem bare_errV (E : Int) (w : World) (hL : Laid w) : Calls Tryz.prog 7 #[errV E, .int .i64 E] w fun e w' => e = .returned (.bool true) ∧ Below w.heap.size w w' := by
  have HC : Hid (∀ W, Laid W → Calls Tryz.prog 27 #[errV E, .agg #[.int .i64 E, .int .i64 (-1)]] W fun e w' => e = .returned (.bool true) ∧ Below W.heap.size W w') := fun W hW => at_errV E W hW
  generalize errV E = v at *
  go_enter Tryz.func7, Tryz.ntmps7
  go_wp2_with fail
  refine (bareOf _ _).mono ?_
  rintro e w1 ⟨rfl, hb⟩
  go_wp2_with fail
  refine (HC.out _ (hL.below hb)).mono ?_
  rintro e w2 ⟨rfl, hb2⟩
  go_wp2
  go_ret
  exact ⟨rfl, hb.trans (hb2.mono hb.size)⟩
theorem bare_nil (w : World) (hL : Laid w) : Calls Tryz.prog 7 #[.nilIface, .int .i64 0] w fun e w' => e = .returned (.bool true) ∧ Below w.heap.size w w' := bare_errV 0 w hL
theorem bare_no (E : Int) (w : World) (hL : Laid w) (h : E ≠ 0) : Calls Tryz.prog 7 #[.iface 37 (.int .i64 E), .int .i64 E] w fun e w' => e = .returned (.bool true) ∧ Below w.heap.size w w' := by
  have := bare_errV E w hL
  rw [errV_not h] at this
  exact this

theorem within_yes (n lo hi : Int) (w : World) (h1 : lo ≤ n) (h2 : n ≤ hi) : Calls Tryz.prog 31 #[.int .i64 n, .int .i64 lo, .int .i64 hi] w fun e w' => e = .returned (.bool true) ∧ w' = w := by
  go_enter Tryz.func31, Tryz.ntmps31
  go_wp2
  go_ret
  exact ⟨by simp, rfl⟩
theorem within_no (n lo hi : Int) (w : World) (h : n < lo ∨ hi < n) : Calls Tryz.prog 31 #[.int .i64 n, .int .i64 lo, .int .i64 hi] w fun e w' => e = .returned (.bool false) ∧ w' = w := by
  by_cases h1 : lo ≤ n
  · have h2 : ¬ n ≤ hi := by omega
    clear h
    go_enter Tryz.func31, Tryz.ntmps31
    go_wp2
    go_ret
    exact ⟨by simp, rfl⟩
  · clear h
    go_enter Tryz.func31, Tryz.ntmps31
    go_wp2
    go_ret
    exact ⟨by simp, rfl⟩

end Go.Proofs.YtheadpemckoljaaGreatDoor
