/-
  millracelaw.bare of what an error says and its number is true; sameInts of like rows is true. Conditions: errors.errorType holds its handle; the numbers lie in memory.
-/
import Derived.Test.YtkmbnklfaaopaaaDoorErrsP
import Derived.Test.YtkmbnklfaaopaaaDoorCvRow
namespace Go.Proofs.YtkmbnklfaaopaaaDoor
open Go.RowKit Go.Extern.Stop Go.Stop Go.Extern

theorem place_errV (E : Int) (w : World) (hL : Laid w) : Calls Tryd.prog 29 #[errV E] w fun e w' => e = .returned (.tuple #[.int .i64 E, .int .i64 (-1)]) ∧ Below w.heap.size w w' := by
  by_cases h : E = 0
  · subst h; exact place_nil w
  · rw [errV_not h]; exact place_errno E w hL
theorem bareOf (n : Int) (w : World) : Calls Tryd.prog 24 #[.int .i64 n] w fun e w' => e = .returned (.agg #[.int .i64 n, .int .i64 (-1)]) ∧ Below w.heap.size w w' := by
  go_enter Tryd.func24, Tryd.ntmps24
  go_wp2
  refine bodyPost_ret (v := .agg #[.int .i64 n, .int .i64 (-1)]) (by simp [results, Tryd.results24, go_sem]) rfl ⟨rfl, ?_⟩
  repeat' (first | exact Below.refl _ _ | refine Below.drew ?_ | refine Below.alloc ?_ ?_ _ | refine Below.setCell ?_ ?_ _)
  all_goals (simp <;> omega)
set_option maxHeartbeats 1000000 in
theorem at_errV (E : Int) (w : World) (hL : Laid w) : Calls Tryd.prog 23 #[errV E, .agg #[.int .i64 E, .int .i64 (-1)]] w fun e w' => e = .returned (.bool true) ∧ Below w.heap.size w w' := by
  have hA : Below w.heap.size w (w.alloc (.cells #[.int .i64 E, .int .i64 (-1)] 54)) := (Below.refl _ _).alloc (Nat.le_refl _) _
  have HC : Hid (Calls Tryd.prog 29 #[errV E] (w.alloc (.cells #[.int .i64 E, .int .i64 (-1)] 54)) fun e w' => e = .returned (.tuple #[.int .i64 E, .int .i64 (-1)]) ∧ Below (w.alloc (.cells #[.int .i64 E, .int .i64 (-1)] 54)).heap.size (w.alloc (.cells #[.int .i64 E, .int .i64 (-1)] 54)) w') := place_errV E _ (hL.below hA)
  generalize errV E = v at *
  go_enter Tryd.func23, Tryd.ntmps23
  go_wp2_with fail
  refine HC.out.mono ?_
  rintro e w1 ⟨rfl, hb⟩
  have c0 : w1.cell? ⟨w.heap.size, 0, none⟩ = some (.int .i64 E) := by rw [hb.cell (by simp)]; simp
  have c1 : w1.cell? ⟨w.heap.size, 0 + 1, none⟩ = some (.int .i64 (-1)) := by rw [hb.cell (by simp)]; simp
  have c1' : w1.cell? ⟨w.heap.size, 1, none⟩ = some (.int .i64 (-1)) := c1
  go_wp2
  go_ret
  exact ⟨by simp, hA.trans (hb.mono (by simp))⟩
set_option maxHeartbeats 1000000 in
theorem bare_errV (E : Int) (w : World) (hL : Laid w) : Calls Tryd.prog 8 #[errV E, .int .i64 E] w fun e w' => e = .returned (.bool true) ∧ Below w.heap.size w w' := by
  have HC : Hid (∀ W, Laid W → Calls Tryd.prog 23 #[errV E, .agg #[.int .i64 E, .int .i64 (-1)]] W fun e w' => e = .returned (.bool true) ∧ Below W.heap.size W w') := fun W hW => at_errV E W hW
  generalize errV E = v at *
  go_enter Tryd.func8, Tryd.ntmps8
  go_wp2_with fail
  refine (bareOf _ _).mono ?_
  rintro e w1 ⟨rfl, hb⟩
  go_wp2_with fail
  refine (HC.out _ (hL.below hb)).mono ?_
  rintro e w2 ⟨rfl, hb2⟩
  go_wp2
  go_ret
  exact ⟨rfl, hb.trans (hb2.mono hb.size)⟩
theorem bare_nil (w : World) (hL : Laid w) : Calls Tryd.prog 8 #[.nilIface, .int .i64 0] w fun e w' => e = .returned (.bool true) ∧ Below w.heap.size w w' := bare_errV 0 w hL
theorem bare_no (E : Int) (w : World) (hL : Laid w) (h : E ≠ 0) : Calls Tryd.prog 8 #[.iface 24 (.int .i64 E), .int .i64 E] w fun e w' => e = .returned (.bool true) ∧ Below w.heap.size w w' := by
  have := bare_errV E w hL
  rw [errV_not h] at this
  exact this

theorem lsame_any (x y : Option Addr) (cx cy n : Nat) (f : Nat → Int) (w : World) (hm : n ≤ maxLen) (hx : Row w x n f) (hy : Row w y n f) :
    Calls Tryd.prog 20 #[.slice x n cx, .slice y n cy] w fun e w' => e = .returned (.bool true) ∧ ∃ q, w' = w.drewN q := by
  unfold maxLen at hm
  have HX : Hid (Row w x n f) := hx
  have HY : Hid (Row w y n f) := hy
  clear hx hy
  go_enter Tryd.func20, Tryd.ntmps20
  go_wp2
  go_loopw [5] (fun i wr => ∃ k : Nat, k ≤ n ∧ i = .int .i64 k ∧ ∃ q, wr = w.drewN q) (fun i _ => n - (intOf i).toNat)
  case atStart => exact ⟨0, Nat.zero_le _, rfl, 0, rfl⟩
  case round =>
    obtain ⟨k, hk, rfl, q, rfl⟩ := hrel
    by_cases hlt : k < n
    · obtain ⟨b, off, rfl⟩ := HX.out.some (by omega)
      obtain ⟨b', off', rfl⟩ := HY.out.some (by omega)
      have c0 := HX.out.at hlt
      have c1 := HY.out.at hlt
      generalize f k = u at *
      go_wp2
      go_quiet (fail)
      go_wp2
      go_roundw
      case rel => exact ⟨k + 1, by omega, by go_num, _, rfl⟩
      case measure => simp [intOf]; omega
    · go_wp2
      go_ret
      exact ⟨rfl, _, rfl⟩
end Go.Proofs.YtkmbnklfaaopaaaDoor
