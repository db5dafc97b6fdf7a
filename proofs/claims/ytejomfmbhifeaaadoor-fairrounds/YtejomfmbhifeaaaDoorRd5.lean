/-
  early.New: an empty Red in memory of its own, where room and setup may be and the tape is not too long; else the error. Conditions: the tape lies in memory.
-/
import Derived.Test.YtejomfmbhifeaaaDoorRd4
namespace Go.Proofs.YtejomfmbhifeaaaDoor
open Go.RowKit Go.Extern.Stop Go.Stop Go.Extern

def RSet.val (q : RSet) : Value := .agg #[.int .i64 q.lo, .int .i64 q.hi, .int .i64 q.often, .int .i64 q.sl, .bool q.mrk]
theorem RSet.val_eq (q : RSet) : q.val = .agg #[.int .i64 q.lo, .int .i64 q.hi, .int .i64 q.often, .int .i64 q.sl, .bool q.mrk] := rfl
set_option maxHeartbeats 1000000 in
theorem right_yes (q : RSet) (w : World) (h : q.Ok) : Calls Tryd.prog 27 #[q.val] w fun e w' => e = .returned (.bool true) ∧ Below w.heap.size w w' := by
  obtain ⟨h1, h2, h3, h4, h5, h6, h7⟩ := h
  rw [RSet.val_eq]
  go_enter Tryd.func27, Tryd.ntmps27
  go_wp2
  go_ret
  exact ⟨rfl, below_alloc_ (Below.refl _ _) _⟩
set_option maxHeartbeats 4000000 in
theorem right_no (q : RSet) (w : World) (h : ¬ q.Ok) : Calls Tryd.prog 27 #[q.val] w fun e w' => e = .returned (.bool false) ∧ Below w.heap.size w w' := by
  rw [RSet.val_eq]
  by_cases a1 : 0 ≤ q.lo ∧ q.lo < q.hi ∧ q.hi ≤ 1000000
  · obtain ⟨h1, h2, h3⟩ := a1
    by_cases a2 : 1 ≤ q.often ∧ q.often ≤ 1000
    · obtain ⟨h4, h5⟩ := a2
      have h67 : q.sl < 0 ∨ 10 < q.sl := by
        by_cases h6 : 0 ≤ q.sl
        · by_cases h7 : q.sl ≤ 10
          · exact absurd ⟨h1, h2, h3, h4, h5, h6, h7⟩ h
          · omega
        · omega
      clear h
      rcases h67 with h6 | h6
      · go_enter Tryd.func27, Tryd.ntmps27
        go_wp2
        all_goals
          go_ret
          exact ⟨rfl, below_alloc_ (Below.refl _ _) _⟩
      · have h6d : decide (q.sl ≤ 10) = false := by simp; omega
        go_enter Tryd.func27, Tryd.ntmps27
        go_wp2
        all_goals
          go_ret
          exact ⟨rfl, below_alloc_ (Below.refl _ _) _⟩
    · have h45 : q.often < 1 ∨ 1000 < q.often := by omega
      clear h a2
      rcases h45 with h6 | h6
      all_goals
        by_cases h7 : 0 ≤ q.sl
        all_goals
          go_enter Tryd.func27, Tryd.ntmps27
          go_wp2
          all_goals
            go_ret
            exact ⟨rfl, below_alloc_ (Below.refl _ _) _⟩
  · have h123 : q.lo < 0 ∨ (0 ≤ q.lo ∧ q.hi ≤ q.lo) ∨ (0 ≤ q.lo ∧ q.lo < q.hi ∧ 1000000 < q.hi) := by omega
    clear h a1
    by_cases h7 : 0 ≤ q.sl
    all_goals
      by_cases h8 : 1 ≤ q.often
      all_goals
        rcases h123 with h6 | ⟨h6, h9⟩ | ⟨h6, h9, h10⟩
        · go_enter Tryd.func27, Tryd.ntmps27
          go_wp2
          all_goals
            go_ret
            exact ⟨rfl, below_alloc_ (Below.refl _ _) _⟩
        · go_enter Tryd.func27, Tryd.ntmps27
          go_wp2
          all_goals
            go_ret
            exact ⟨rfl, below_alloc_ (Below.refl _ _) _⟩
        · have h6d : decide (q.hi ≤ 1000000) = false := by simp; omega
          go_enter Tryd.func27, Tryd.ntmps27
          go_wp2
          all_goals
            go_ret
            exact ⟨rfl, below_alloc_ (Below.refl _ _) _⟩
end Go.Proofs.YtejomfmbhifeaaaDoor
