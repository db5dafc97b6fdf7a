/-
  plain.Place: of nil 0 and -1, of an Errno its number and -1, of an At its error and its place; nothing that was there before is otherwise. Conditions: errors.errorType holds its handle.
-/
import Derived.Test.YtheadpemckoljaaGreatDoorErrs
namespace Go.Proofs.YtheadpemckoljaaGreatDoor
open Go.RowKit Go.Extern.Stop Go.Stop Go.Extern

theorem place_nil (w : World) : Calls Tryz.prog 41 #[.nilIface] w fun e w' => e = .returned (.tuple #[.int .i64 0, .int .i64 (-1)]) ∧ Below w.heap.size w w' := by
  go_enter Tryz.func41, Tryz.ntmps41
  go_wp2_with (go_at_call 58; refine (tell_nil _).mono ?_; rintro e w' ⟨rfl, rfl⟩)
  refine wp_loop_rounds 1 ?_
  rw [rounds_succ]
  go_wp2
  go_ret2
  exact ⟨rfl, Below.refl _ _⟩

theorem noUnwrapE (v : Value) (xT : TypeId) (w : World) : (Instr.typeAssert (.iface 37 v) xT 101 true).run Tryz.prog w = .ok (.tuple #[.nilIface, .bool false]) w :=
  run_typeAssert_lacksB Tryz.underlying101 (by kernel_rfl) (by kernel_rfl) v xT w
theorem notAtE (v : Value) (w : World) : (Instr.typeAssert (.iface 37 v) 35 98 true).run Tryz.prog w = .ok (.tuple #[.pointer none, .bool false]) w := by kernel_rfl
theorem isAtA (v : Value) (w : World) : (Instr.typeAssert (.iface 98 v) 35 98 true).run Tryz.prog w = .ok (.tuple #[v, .bool true]) w := by kernel_rfl

set_option maxHeartbeats 1000000 in
theorem place_errno (n : Int) (w : World) (hL : Laid w) : Calls Tryz.prog 41 #[.iface 37 (.int .i64 n)] w fun e w' => e = .returned (.tuple #[.int .i64 n, .int .i64 (-1)]) ∧ Below w.heap.size w w' := by
  have hu := noUnwrapE
  have hn := notAtE
  go_enter Tryz.func41, Tryz.ntmps41
  go_wp2_with (go_at_call 58; refine (tell_errno n _ hL).mono ?_; rintro e w' ⟨rfl, hb⟩)
  refine wp_loop_rounds 1 ?_
  rw [rounds_succ]
  go_wp2
  go_ret2
  exact ⟨rfl, hb⟩

set_option maxHeartbeats 1000000 in
theorem place_at (a o : Nat) (n p : Int) (w : World) (ha : w.cell? ⟨a, o, none⟩ = some (.int .i64 n)) (hp : w.cell? ⟨a, o + 1, none⟩ = some (.int .i64 p)) (hL : Laid w) : Calls Tryz.prog 41 #[.iface 98 (.pointer (some ⟨a, o, none⟩))] w fun e w' => e = .returned (.tuple #[.int .i64 n, .int .i64 p]) ∧ Below w.heap.size w w' := by
  have hn := isAtA
  go_enter Tryz.func41, Tryz.ntmps41
  go_wp2_with (go_at_call 58; refine (tell_at a o n _ ha hL).mono ?_; rintro e w1 ⟨rfl, hb⟩)
  have hp1 : w1.cell? ⟨a, o + 1, none⟩ = some (.int .i64 p) := by rw [(bcell hb).1 _ _ (lt_of_cell hp)]; exact hp
  refine wp_loop_rounds 1 ?_
  rw [rounds_succ]
  go_wp2
  go_quiet (fail)
  go_wp2
  go_ret2
  exact ⟨rfl, below_drewN hb _⟩
end Go.Proofs.YtheadpemckoljaaGreatDoor
