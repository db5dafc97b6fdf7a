/-
  early.NewDelay: an empty one in memory of its own, where room, target and span may be; else the error. No condition.
-/
import Derived.Test.YtejomfmbhifeaaaDoorDe6
namespace Go.Proofs.YtejomfmbhifeaaaDoor
open Go.RowKit Go.Extern.Stop Go.Stop Go.Extern

set_option maxHeartbeats 1000000 in
theorem newDelay_yes (T S P : Int) (w : World) (hP : 0 ≤ P) (hP1 : P ≤ 1000000) (hT : 0 ≤ T) (hT1 : T ≤ 1000000) (hS : 1 ≤ S) (hS1 : S ≤ 1000000) :
    Calls Tryd.prog 15 #[.int .i64 T, .int .i64 S, .int .i64 P] w fun e w' => e = .returned (.tuple #[.pointer (some ⟨w.heap.size + 1, 0, none⟩), .nilIface]) ∧ DAt w' (w.heap.size + 1) P 1000000 T S (.slice none 0 0) dl0 ∧ Below w.heap.size w w' := by
  go_enter Tryd.func15, Tryd.ntmps15
  go_wp2_with (go_at_call 26; refine (newFifo_yes P 1000000 false w hP hP1 (by decide) (by decide)).mono ?_; rintro e w1 ⟨rfl, hl1, hw1⟩; subst hw1)
  go_ret2
  exact ⟨rfl, ⟨new_block_ (by simp), Hs.nil _, by simp [Value.ownBlock]⟩, below_alloc_ (below_alloc_ (Below.refl _ _) _) _⟩
set_option maxHeartbeats 1000000 in
theorem newDelay_no (T S P : Int) (w : World) (h : ¬ (0 ≤ P ∧ P ≤ 1000000 ∧ 0 ≤ T ∧ T ≤ 1000000 ∧ 1 ≤ S ∧ S ≤ 1000000)) :
    Calls Tryd.prog 15 #[.int .i64 T, .int .i64 S, .int .i64 P] w fun e w' => e = .returned (.tuple #[.pointer none, .iface 27 (.int .i64 2)]) ∧ Below w.heap.size w w' := by
  by_cases hP : 0 ≤ P ∧ P ≤ 1000000
  · have hTS : T < 0 ∨ 1000000 < T ∨ S < 1 ∨ 1000000 < S := by omega
    clear h
    rcases hTS with h1 | h1 | h1 | h1
    · go_enter Tryd.func15, Tryd.ntmps15
      go_wp2_with (go_at_call 26; refine (newFifo_yes P 1000000 false w hP.1 hP.2 (by decide) (by decide)).mono ?_; rintro e w1 ⟨rfl, hl1, hw1⟩; subst hw1)
      all_goals
        go_ret2
        exact ⟨rfl, below_alloc_ (Below.refl _ _) _⟩
    all_goals
      go_enter Tryd.func15, Tryd.ntmps15
      go_wp2_with (go_at_call 26; refine (newFifo_yes P 1000000 false w hP.1 hP.2 (by decide) (by decide)).mono ?_; rintro e w1 ⟨rfl, hl1, hw1⟩; subst hw1)
      all_goals
        go_ret2
        exact ⟨rfl, below_alloc_ (Below.refl _ _) _⟩
  · clear h
    go_enter Tryd.func15, Tryd.ntmps15
    go_wp2_with (go_at_call 26; refine (newFifo_no P 1000000 false w (by omega)).mono ?_; rintro e w1 ⟨rfl, hw1⟩; subst hw1)
    go_ret2
    exact ⟨rfl, Below.refl _ _⟩
theorem newDelay_at {w : World} {b : Nat} {P R T S : Int} (h : DAt w b P R T S (.slice none 0 0) dl0) : (DelayM b P R T S).At w (· = b) dl0 := ⟨.slice none 0 0, h, fun k => by simp [Value.ownBlock]⟩
theorem delay_inv0 (b : Nat) (P R T S : Int) : (DelayM b P R T S).inv 0 0 dl0 := ⟨⟨Nat.le_refl _, by simp [dl0]⟩, by simp [dl0], by decide, by decide, by decide, by decide⟩
end Go.Proofs.YtejomfmbhifeaaaDoor
