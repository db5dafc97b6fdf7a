/-
  plain.Place: of nil 0 and -1, of an Errno its number and -1, of an At its error and its place; nothing that was there before is otherwise. Conditions: errors.errorType holds its handle.
  millracelaw.bare of an error and its number is true; millraceref.within: what each returns, and that nothing that was there before is otherwise. Conditions: errors.errorType holds its handle.
-/
import Derived.Test.YtefflbibacmboaaDoorErrs
import Derived.Deep.QuietTactic
import Derived.BigQuiet
namespace Go.Proofs.YtefflbibacmboaaDoor
open Go.RowKit Go.Extern.Stop Go.Stop Go.Extern

theorem place_nil (w : World) : Calls Tryd.prog 37 #[.nilIface] w fun e w' => e = .returned (.tuple #[.int .i64 0, .int .i64 (-1)]) ∧ Below w.heap.size w w' := by
  go_enter Tryd.func37, Tryd.ntmps37
  go_wp2_with (go_at_call 40; refine (tell_nil _).mono ?_; rintro e w' ⟨rfl, rfl⟩)
  refine wp_loop_rounds 1 ?_
  rw [rounds_succ]
  go_wp2
  go_ret2
  exact ⟨rfl, Below.refl _ _⟩

theorem noUnwrapE (v : Value) (xT : TypeId) (w : World) : (Instr.typeAssert (.iface 27 v) xT 132 true).run Tryd.prog w = .ok (.tuple #[.nilIface, .bool false]) w :=
  run_typeAssert_lacksB Tryd.underlying132 (by kernel_rfl) (by kernel_rfl) v xT w
theorem notAtE (v : Value) (w : World) : (Instr.typeAssert (.iface 27 v) 31 129 true).run Tryd.prog w = .ok (.tuple #[.pointer none, .bool false]) w := by kernel_rfl
theorem isAtA (v : Value) (w : World) : (Instr.typeAssert (.iface 129 v) 31 129 true).run Tryd.prog w = .ok (.tuple #[v, .bool true]) w := by kernel_rfl

set_option maxHeartbeats 1000000 in
theorem place_errno (n : Int) (w : World) (hL : Laid w) : Calls Tryd.prog 37 #[.iface 27 (.int .i64 n)] w fun e w' => e = .returned (.tuple #[.int .i64 n, .int .i64 (-1)]) ∧ Below w.heap.size w w' := by
  have hu := noUnwrapE
  have hn := notAtE
  go_enter Tryd.func37, Tryd.ntmps37
  go_wp2_with (go_at_call 40; refine (tell_errno n _ hL).mono ?_; rintro e w' ⟨rfl, hb⟩)
  refine wp_loop_rounds 1 ?_
  rw [rounds_succ]
  go_wp2
  go_ret2
  exact ⟨rfl, hb⟩

set_option maxHeartbeats 1000000 in
theorem place_at (a o : Nat) (n p : Int) (w : World) (ha : w.cell? ⟨a, o, none⟩ = some (.int .i64 n)) (hp : w.cell? ⟨a, o + 1, none⟩ = some (.int .i64 p)) (hL : Laid w) : Calls Tryd.prog 37 #[.iface 129 (.pointer (some ⟨a, o, none⟩))] w fun e w' => e = .returned (.tuple #[.int .i64 n, .int .i64 p]) ∧ Below w.heap.size w w' := by
  have hn := isAtA
  go_enter Tryd.func37, Tryd.ntmps37
  go_wp2_with (go_at_call 40; refine (tell_at a o n _ ha hL).mono ?_; rintro e w1 ⟨rfl, hb⟩)
  have hp1 : w1.cell? ⟨a, o + 1, none⟩ = some (.int .i64 p) := by rw [(bcell hb).1 _ _ (lt_of_cell hp)]; exact hp
  refine wp_loop_rounds 1 ?_
  rw [rounds_succ]
  go_wp2
  go_quiet (fail)
  go_wp2
  go_ret2
  exact ⟨rfl, below_drewN hb _⟩
end Go.Proofs.YtefflbibacmboaaDoor
namespace Go.Proofs.YtefflbibacmboaaDoor
open Go.RowKit Go.Extern.Stop Go.Stop Go.Extern

/-- An error as a value: nil for 0. -/
def errV (E : Int) : Value := if E = 0 then .nilIface else .iface 27 (.int .i64 E)
theorem errV_zero : errV 0 = .nilIface := rfl
theorem errV_not {E : Int} (h : E ≠ 0) : errV E = .iface 27 (.int .i64 E) := by unfold errV; rw [if_neg h]
theorem place_errV (E : Int) (w : World) (hL : Laid w) : Calls Tryd.prog 37 #[errV E] w fun e w' => e = .returned (.tuple #[.int .i64 E, .int .i64 (-1)]) ∧ Below w.heap.size w w' := by
  by_cases h : E = 0
  · subst h; exact place_nil w
  · rw [errV_not h]; exact place_errno E w hL
theorem bareOf (n : Int) (w : World) : Calls Tryd.prog 30 #[.int .i64 n] w fun e w' => e = .returned (.agg #[.int .i64 n, .int .i64 (-1)]) ∧ Below w.heap.size w w' := by
  go_enter Tryd.func30, Tryd.ntmps30
  go_wp2
  refine bodyPost_ret (v := .agg #[.int .i64 n, .int .i64 (-1)]) (by simp [results, Tryd.results30, go_sem]) rfl ⟨rfl, ?_⟩
  repeat' (first | exact Below.refl _ _ | refine Below.drew ?_ | refine Below.alloc ?_ ?_ _ | refine Below.setCell ?_ ?_ _)
  all_goals (simp <;> omega)
set_option maxHeartbeats 1000000 in
theorem at_errV (E : Int) (w : World) (hL : Laid w) : Calls Tryd.prog 29 #[errV E, .agg #[.int .i64 E, .int .i64 (-1)]] w fun e w' => e = .returned (.bool true) ∧ Below w.heap.size w w' := by
  have hA : Below w.heap.size w (w.alloc (.cells #[.int .i64 E, .int .i64 (-1)] 86)) := (Below.refl _ _).alloc (Nat.le_refl _) _
  have HC : Hid (Calls Tryd.prog 37 #[errV E] (w.alloc (.cells #[.int .i64 E, .int .i64 (-1)] 86)) fun e w' => e = .returned (.tuple #[.int .i64 E, .int .i64 (-1)]) ∧ Below (w.alloc (.cells #[.int .i64 E, .int .i64 (-1)] 86)).heap.size (w.alloc (.cells #[.int .i64 E, .int .i64 (-1)] 86)) w') := place_errV E _ (hL.below hA)
  generalize errV E = v at *
  go_enter Tryd.func29, Tryd.ntmps29
  go_wp2_with fail
  refine HC.out.mono ?_
  rintro e w1 ⟨rfl, hb⟩
  have c0 : w1.cell? ⟨w.heap.size, 0, none⟩ = some (.int .i64 E) := by rw [hb.cell (by simp)]; simp
  have c1 : w1.cell? ⟨w.heap.size, 0 + 1, none⟩ = some (.int .i64 (-1)) := by rw [hb.cell (by simp)]; simp
  have c1' : w1.cell? ⟨w.heap.size, 1, none⟩ = some (.int .i64 (-1)) := c1
  go_wp2
  go_ret
  exact ⟨by simp, hA.trans (hb.mono (by simp))⟩
set_option maxHeartbeats 1000000 in
theorem bare_errV (E : Int) (w : World) (hL : Laid w) : Calls Tryd.prog 9 #[errV E, .int .i64 E] w fun e w' => e = .returned (.bool true) ∧ Below w.heap.size w w' := by
  have HC : Hid (∀ W, Laid W → Calls Tryd.prog 29 #[errV E, .agg #[.int .i64 E, .int .i64 (-1)]] W fun e w' => e = .returned (.bool true) ∧ Below W.heap.size W w') := fun W hW => at_errV E W hW
  generalize errV E = v at *
  go_enter Tryd.func9, Tryd.ntmps9
  go_wp2_with fail
  refine (bareOf _ _).mono ?_
  rintro e w1 ⟨rfl, hb⟩
  go_wp2_with fail
  refine (HC.out _ (hL.below hb)).mono ?_
  rintro e w2 ⟨rfl, hb2⟩
  go_wp2
  go_ret
  exact ⟨rfl, hb.trans (hb2.mono hb.size)⟩
theorem bare_nil (w : World) (hL : Laid w) : Calls Tryd.prog 9 #[.nilIface, .int .i64 0] w fun e w' => e = .returned (.bool true) ∧ Below w.heap.size w w' := bare_errV 0 w hL
theorem bare_no (E : Int) (w : World) (hL : Laid w) (h : E ≠ 0) : Calls Tryd.prog 9 #[.iface 27 (.int .i64 E), .int .i64 E] w fun e w' => e = .returned (.bool true) ∧ Below w.heap.size w w' := by
  have := bare_errV E w hL
  rw [errV_not h] at this
  exact this

theorem within_yes (n lo hi : Int) (w : World) (h1 : lo ≤ n) (h2 : n ≤ hi) : Calls Tryd.prog 25 #[.int .i64 n, .int .i64 lo, .int .i64 hi] w fun e w' => e = .returned (.bool true) ∧ w' = w := by
  go_enter Tryd.func25, Tryd.ntmps25
  go_wp2
  go_ret
  exact ⟨by simp, rfl⟩
theorem within_no (n lo hi : Int) (w : World) (h : n < lo ∨ hi < n) : Calls Tryd.prog 25 #[.int .i64 n, .int .i64 lo, .int .i64 hi] w fun e w' => e = .returned (.bool false) ∧ w' = w := by
  by_cases h1 : lo ≤ n
  · have h2 : ¬ n ≤ hi := by omega
    clear h
    go_enter Tryd.func25, Tryd.ntmps25
    go_wp2
    go_ret
    exact ⟨by simp, rfl⟩
  · clear h
    go_enter Tryd.func25, Tryd.ntmps25
    go_wp2
    go_ret
    exact ⟨by simp, rfl⟩

end Go.Proofs.YtefflbibacmboaaDoor
