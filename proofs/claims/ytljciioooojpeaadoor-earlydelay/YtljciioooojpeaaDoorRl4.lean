/-
  millraceref.DelayCheck: whether room, target and span may be. No condition.
-/
import Derived.Test.YtljciioooojpeaaDoorQg
namespace Go.Proofs.YtljciioooojpeaaDoor
open Go.RowKit Go.Extern.Stop Go.Stop Go.Extern

theorem delayCheck_yes (T S P : Int) (w : World) (hP : 0 ≤ P) (hP1 : P ≤ 1000000) (hT : 0 ≤ T) (hT1 : T ≤ 1000000) (hS : 1 ≤ S) (hS1 : S ≤ 1000000) :
    Calls Tryd.prog 7 #[.int .i64 T, .int .i64 S, .int .i64 P] w fun e w' => e = .returned (.int .i64 0) ∧ w' = w := by
  have HR := room_any P 0 w
  have hr : roomE P 0 = 0 := by unfold roomE; rw [if_pos (by omega)]
  rw [hr] at HR
  have HY1 := within_yes T 0 1000000 w hT hT1
  have HY2 := within_yes S 1 1000000 w hS hS1
  go_enter Tryd.func7, Tryd.ntmps7
  go_wp2_with fail
  refine HR.mono ?_
  rintro e w1 ⟨rfl, hw1⟩
  subst hw1
  go_wp2_with fail
  refine HY1.mono ?_
  rintro e w2 ⟨rfl, hw2⟩
  subst hw2
  go_wp2_with fail
  refine HY2.mono ?_
  rintro e w3 ⟨rfl, hw3⟩
  subst hw3
  go_wp2
  go_ret
  exact ⟨rfl, rfl⟩
theorem delayCheck_no (T S P : Int) (w : World) (h : ¬ (0 ≤ P ∧ P ≤ 1000000 ∧ 0 ≤ T ∧ T ≤ 1000000 ∧ 1 ≤ S ∧ S ≤ 1000000)) :
    Calls Tryd.prog 7 #[.int .i64 T, .int .i64 S, .int .i64 P] w fun e w' => e = .returned (.int .i64 2) ∧ w' = w := by
  have HR := room_any P 0 w
  by_cases hP : 0 ≤ P ∧ P ≤ 1000000
  · have hr : roomE P 0 = 0 := by unfold roomE; rw [if_pos (by omega)]
    rw [hr] at HR
    by_cases hT : 0 ≤ T ∧ T ≤ 1000000
    · have HY1 := within_yes T 0 1000000 w hT.1 hT.2
      have HY2 := within_no S 1 1000000 w (by omega)
      clear h
      go_enter Tryd.func7, Tryd.ntmps7
      go_wp2_with fail
      refine HR.mono ?_
      rintro e w1 ⟨rfl, hw1⟩
      subst hw1
      go_wp2_with fail
      refine HY1.mono ?_
      rintro e w2 ⟨rfl, hw2⟩
      subst hw2
      go_wp2_with fail
      refine HY2.mono ?_
      rintro e w3 ⟨rfl, hw3⟩
      subst hw3
      go_wp2
      go_ret
      exact ⟨rfl, rfl⟩
    · have HY1 := within_no T 0 1000000 w (by omega)
      clear h hT
      go_enter Tryd.func7, Tryd.ntmps7
      go_wp2_with fail
      refine HR.mono ?_
      rintro e w1 ⟨rfl, hw1⟩
      subst hw1
      go_wp2_with fail
      refine HY1.mono ?_
      rintro e w2 ⟨rfl, hw2⟩
      subst hw2
      go_wp2
      go_ret
      exact ⟨rfl, rfl⟩
  · have hr : roomE P 0 = 2 := by unfold roomE; rw [if_neg (by omega)]
    rw [hr] at HR
    clear h hP
    go_enter Tryd.func7, Tryd.ntmps7
    go_wp2_with fail
    refine HR.mono ?_
    rintro e w1 ⟨rfl, hw1⟩
    subst hw1
    go_wp2
    go_ret
    exact ⟨rfl, rfl⟩
end Go.Proofs.YtljciioooojpeaaDoor
