/-
  millracekeep.curved is true; lines says whether all of several rows are curves of at most 60 numbers up to 10^11; sameInts of equal rows is true. Conditions: the numbers lie in memory.
-/
import Derived.Test.YtebahbcmlhdleaaDoorCv5
namespace Go.Proofs.YtebahbcmlhdleaaDoor
open Go.RowKit Go.Extern.Stop Go.Stop Go.Extern

/-- Three numbers. -/
def three (a b c : Int) : Nat → Int
  | 0 => a
  | 1 => b
  | _ => c
theorem okC_three {a b c : Int} (h0 : 0 ≤ a) (h1 : a ≤ b) (h2 : b ≤ c) (h3 : c ≤ 1000000000000) : okC 3 (three a b c) := by
  refine ⟨by omega, by omega, fun i hi => ?_, fun i hi => ?_, fun i hi => ?_⟩
  · match i, hi with
    | 0, _ => exact h0
    | 1, _ => show 0 ≤ b; omega
    | 2, _ => show 0 ≤ c; omega
  · match i, hi with
    | 0, _ => show a ≤ _; omega
    | 1, _ => show b ≤ _; omega
    | 2, _ => exact h3
  · match i, hi with
    | 0, _ => exact h1
    | 1, _ => exact h2
theorem row_three (w : World) (a b c : Int) (t : TypeId) : Row (w.alloc (.cells #[.int .i64 a, .int .i64 b, .int .i64 c] t)) (some ⟨w.heap.size, 0, none⟩) 3 (three a b c) := by
  refine Or.inr ⟨w.heap.size, 0, rfl, fun i hi => ?_⟩
  match i, hi with
  | 0, _ => simp [three]
  | 1, _ => simp [three]
  | 2, _ => simp [three]
theorem conv_one : conv (three 0 2 3) (three 0 1 5) 1 = 1 := by decide
theorem conv_two : conv (three 0 2 3) (three 0 1 5) 2 = 3 := by decide

set_option maxHeartbeats 1000000 in
theorem curved_true (w : World) : Calls Tryd.prog 13 #[] w fun e w' => e = .returned (.bool true) ∧ Below w.heap.size w w' := by
  go_enter Tryd.func13, Tryd.ntmps13
  go_wp2_with fail
  have hB0 : Below w.heap.size w ((w.alloc (.cells #[.int .i64 0, .int .i64 2, .int .i64 3] 3)).alloc (.cells #[.int .i64 0, .int .i64 1, .int .i64 5] 3)) := ((Below.refl _ _).alloc (Nat.le_refl _) _).alloc (by simp) _
  refine (then_ok (some ⟨w.heap.size, 0, none⟩) (some ⟨w.heap.size + 1, 0, none⟩) 3 3 3 3 (three 0 2 3) (three 0 1 5) _ ((row_three w 0 2 3 _).alloc _) ?_ (okC_three (by omega) (by omega) (by omega) (by omega)) (okC_three (by omega) (by omega) (by omega) (by omega))).mono ?_
  · have := row_three (w.alloc (.cells #[.int .i64 0, .int .i64 2, .int .i64 3] 3)) 0 1 5 3
    simpa using this
  rintro e w1 ⟨s, rfl, hrow, hb1⟩
  have c1 := hrow.at (i := 1) (by omega)
  have c2 := hrow.at (i := 2) (by omega)
  rw [conv_one] at c1
  rw [conv_two] at c2
  clear hrow
  go_wp2
  go_ret
  exact ⟨rfl, hB0.trans (hb1.mono (by simp <;> omega))⟩

end Go.Proofs.YtebahbcmlhdleaaDoor
