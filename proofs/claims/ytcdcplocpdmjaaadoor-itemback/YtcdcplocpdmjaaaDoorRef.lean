/-
  millraceref.ItemCheck, Bare, ListCheck and millracelaw.at, bare: what each returns at every argument, and that nothing that was there before is otherwise. Conditions: errors.errorType and millraceref.Fine hold what the program's text lays; the packets lie in memory.
-/
import Derived.Test.YtcdcplocpdmjaaaDoorListed
import Derived.Test.YtcdcplocpdmjaaaDoorListP
namespace Go.Proofs.YtcdcplocpdmjaaaDoor
open Go.RowKit Go.Extern.Stop Go.Stop Go.Extern

theorem rwithin_any (n lo hi : Int) (w : World) : Calls Tryd.prog 44 #[.int .i64 n, .int .i64 lo, .int .i64 hi] w fun e w' => e = .returned (.bool (wth n lo hi)) ∧ w' = w := by
  by_cases h1 : lo ≤ n
  · by_cases h2 : n ≤ hi
    · go_enter Tryd.func44, Tryd.ntmps44
      go_wp2
      go_ret
      exact ⟨by simp [wth, h1, h2], rfl⟩
    · go_enter Tryd.func44, Tryd.ntmps44
      go_wp2
      go_ret
      exact ⟨by simp [wth, h1, h2], rfl⟩
  · go_enter Tryd.func44, Tryd.ntmps44
    go_wp2
    go_ret
    exact ⟨by simp [wth]; omega, rfl⟩

theorem rcheck_yes (a l f b m : Int) (w : World) (h : It.ok ⟨a, l, f, b, m⟩ = true) :
    Calls Tryd.prog 29 #[.agg #[.int .i64 a, .int .i64 l, .int .i64 f, .int .i64 b, .int .i64 m]] w fun e w' => e = .returned (.int .i64 0) ∧ w' = w.alloc (.cells #[.int .i64 a, .int .i64 l, .int .i64 f, .int .i64 b, .int .i64 m] 39) := by
  simp only [It.ok, Bool.and_eq_true] at h
  obtain ⟨⟨⟨⟨h1, h2⟩, h3⟩, h4⟩, h5⟩ := h
  go_enter Tryd.func29, Tryd.ntmps29
  go_wp2_with (go_at_call 44; refine (rwithin_any _ _ _ _).mono ?_; rintro e w' ⟨rfl, rfl⟩)
  go_ret
  exact ⟨rfl, rfl⟩

set_option maxHeartbeats 1000000 in
theorem rcheck_no (a l f b m : Int) (w : World) (h : It.ok ⟨a, l, f, b, m⟩ = false) :
    Calls Tryd.prog 29 #[.agg #[.int .i64 a, .int .i64 l, .int .i64 f, .int .i64 b, .int .i64 m]] w fun e w' => e = .returned (.int .i64 2) ∧ w' = w.alloc (.cells #[.int .i64 a, .int .i64 l, .int .i64 f, .int .i64 b, .int .i64 m] 39) := by
  have hcase : wth a 0 1000000000 = false ∨ (wth a 0 1000000000 = true ∧ wth l 1 10000 = false) ∨ (wth a 0 1000000000 = true ∧ wth l 1 10000 = true ∧ wth f 0 15 = false) ∨ (wth a 0 1000000000 = true ∧ wth l 1 10000 = true ∧ wth f 0 15 = true ∧ wth b 0 7 = false) ∨ (wth a 0 1000000000 = true ∧ wth l 1 10000 = true ∧ wth f 0 15 = true ∧ wth b 0 7 = true ∧ wth m 0 255 = false) := by
    simp only [It.ok] at h
    revert h
    cases wth a 0 1000000000 <;> cases wth l 1 10000 <;> cases wth f 0 15 <;> cases wth b 0 7 <;> cases wth m 0 255 <;> simp
  clear h
  rcases hcase with h1 | ⟨h1, h2⟩ | ⟨h1, h2, h3⟩ | ⟨h1, h2, h3, h4⟩ | ⟨h1, h2, h3, h4, h5⟩
  all_goals
    go_enter Tryd.func29, Tryd.ntmps29
    go_wp2_with (go_at_call 44; refine (rwithin_any _ _ _ _).mono ?_; rintro e w' ⟨rfl, rfl⟩)
    go_ret
    exact ⟨rfl, rfl⟩

theorem bareOf (n : Int) (w : World) : Calls Tryd.prog 12 #[.int .i64 n] w fun e w' => e = .returned (.agg #[.int .i64 n, .int .i64 (-1)]) ∧ Below w.heap.size w w' := by
  go_enter Tryd.func12, Tryd.ntmps12
  go_wp2
  refine bodyPost_ret (v := .agg #[.int .i64 n, .int .i64 (-1)]) (by simp [results, Tryd.results12, go_sem]) rfl ⟨rfl, ?_⟩
  repeat' (first | exact Below.refl _ _ | refine Below.drew ?_ | refine Below.alloc ?_ ?_ _ | refine Below.setCell ?_ ?_ _)
  all_goals (simp <;> omega)

set_option maxHeartbeats 1000000 in
theorem at_true {v : Value} {E P : Int} (w : World) (h : ErrIs w v E P) (hL : Laid w) : Calls Tryd.prog 7 #[v, .agg #[.int .i64 E, .int .i64 P]] w fun e w' => e = .returned (.bool true) ∧ Below w.heap.size w w' := by
  have hA : Below w.heap.size w (w.alloc (.cells #[.int .i64 E, .int .i64 P] 25)) := (Below.refl _ _).alloc (Nat.le_refl _) _
  have h1 := h.below hA
  have hL1 := hL.below hA
  clear h
  go_enter Tryd.func7, Tryd.ntmps7
  go_wp2_with fail
  refine (place_any _ h1 hL1).mono ?_
  rintro e w1 ⟨rfl, hb⟩
  have c0 : w1.cell? ⟨w.heap.size, 0, none⟩ = some (.int .i64 E) := by rw [hb.cell (by simp)]; simp
  have c1 : w1.cell? ⟨w.heap.size, 0 + 1, none⟩ = some (.int .i64 P) := by rw [hb.cell (by simp)]; simp
  have c1' : w1.cell? ⟨w.heap.size, 1, none⟩ = some (.int .i64 P) := c1
  go_wp2
  go_ret
  exact ⟨by simp, hA.trans (hb.mono (by simp))⟩

end Go.Proofs.YtcdcplocpdmjaaaDoor
