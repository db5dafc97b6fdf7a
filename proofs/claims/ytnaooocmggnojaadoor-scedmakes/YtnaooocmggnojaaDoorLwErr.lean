/-
  millracelaw.bare of what Check says and its number is true; millraceref.within, CurveCheck, Curves; millracelaw.long, sameInts: what each returns, and that nothing that was there before is otherwise. Conditions: errors.errorType holds its handle; the numbers lie in memory.
-/
import Derived.Test.YtnaooocmggnojaaDoorErrsP
import Derived.Test.YtnaooocmggnojaaDoorCv5
namespace Go.Proofs.YtnaooocmggnojaaDoor
open Go.RowKit Go.Extern.Stop Go.Stop Go.Extern

theorem place_errV (E : Int) (w : World) (hL : Laid w) : Calls Tryd.prog 26 #[errV E] w fun e w' => e = .returned (.tuple #[.int .i64 E, .int .i64 (-1)]) ∧ Below w.heap.size w w' := by
  by_cases h : E = 0
  · subst h; exact place_nil w
  · rw [errV_not h]; exact place_errno E w hL
theorem bareOf (n : Int) (w : World) : Calls Tryd.prog 20 #[.int .i64 n] w fun e w' => e = .returned (.agg #[.int .i64 n, .int .i64 (-1)]) ∧ Below w.heap.size w w' := by
  go_enter Tryd.func20, Tryd.ntmps20
  go_wp2
  refine bodyPost_ret (v := .agg #[.int .i64 n, .int .i64 (-1)]) (by simp [results, Tryd.results20, go_sem]) rfl ⟨rfl, ?_⟩
  repeat' (first | exact Below.refl _ _ | refine Below.drew ?_ | refine Below.alloc ?_ ?_ _ | refine Below.setCell ?_ ?_ _)
  all_goals (simp <;> omega)
set_option maxHeartbeats 1000000 in
theorem at_errV (E : Int) (w : World) (hL : Laid w) : Calls Tryd.prog 19 #[errV E, .agg #[.int .i64 E, .int .i64 (-1)]] w fun e w' => e = .returned (.bool true) ∧ Below w.heap.size w w' := by
  have hA : Below w.heap.size w (w.alloc (.cells #[.int .i64 E, .int .i64 (-1)] 58)) := (Below.refl _ _).alloc (Nat.le_refl _) _
  have HC : Hid (Calls Tryd.prog 26 #[errV E] (w.alloc (.cells #[.int .i64 E, .int .i64 (-1)] 58)) fun e w' => e = .returned (.tuple #[.int .i64 E, .int .i64 (-1)]) ∧ Below (w.alloc (.cells #[.int .i64 E, .int .i64 (-1)] 58)).heap.size (w.alloc (.cells #[.int .i64 E, .int .i64 (-1)] 58)) w') := place_errV E _ (hL.below hA)
  generalize errV E = v at *
  go_enter Tryd.func19, Tryd.ntmps19
  go_wp2_with fail
  refine HC.out.mono ?_
  rintro e w1 ⟨rfl, hb⟩
  have c0 : w1.cell? ⟨w.heap.size, 0, none⟩ = some (.int .i64 E) := by rw [hb.cell (by simp)]; simp
  have c1 : w1.cell? ⟨w.heap.size, 0 + 1, none⟩ = some (.int .i64 (-1)) := by rw [hb.cell (by simp)]; simp
  have c1' : w1.cell? ⟨w.heap.size, 1, none⟩ = some (.int .i64 (-1)) := c1
  go_wp2
  go_ret
  exact ⟨by simp, hA.trans (hb.mono (by simp))⟩
set_option maxHeartbeats 1000000 in
theorem bare_errV (E : Int) (w : World) (hL : Laid w) : Calls Tryd.prog 8 #[errV E, .int .i64 E] w fun e w' => e = .returned (.bool true) ∧ Below w.heap.size w w' := by
  have HC : Hid (∀ W, Laid W → Calls Tryd.prog 19 #[errV E, .agg #[.int .i64 E, .int .i64 (-1)]] W fun e w' => e = .returned (.bool true) ∧ Below W.heap.size W w') := fun W hW => at_errV E W hW
  generalize errV E = v at *
  go_enter Tryd.func8, Tryd.ntmps8
  go_wp2_with fail
  refine (bareOf _ _).mono ?_
  rintro e w1 ⟨rfl, hb⟩
  go_wp2_with fail
  refine (HC.out _ (hL.below hb)).mono ?_
  rintro e w2 ⟨rfl, hb2⟩
  go_wp2
  go_ret
  exact ⟨rfl, hb.trans (hb2.mono hb.size)⟩
theorem bare_nil (w : World) (hL : Laid w) : Calls Tryd.prog 8 #[.nilIface, .int .i64 0] w fun e w' => e = .returned (.bool true) ∧ Below w.heap.size w w' := bare_errV 0 w hL
theorem bare_no (E : Int) (w : World) (hL : Laid w) (h : E ≠ 0) : Calls Tryd.prog 8 #[.iface 26 (.int .i64 E), .int .i64 E] w fun e w' => e = .returned (.bool true) ∧ Below w.heap.size w w' := by
  have := bare_errV E w hL
  rw [errV_not h] at this
  exact this

theorem within_yes (n lo hi : Int) (w : World) (h1 : lo ≤ n) (h2 : n ≤ hi) : Calls Tryd.prog 15 #[.int .i64 n, .int .i64 lo, .int .i64 hi] w fun e w' => e = .returned (.bool true) ∧ w' = w := by
  go_enter Tryd.func15, Tryd.ntmps15
  go_wp2
  go_ret
  exact ⟨by simp, rfl⟩
theorem within_no (n lo hi : Int) (w : World) (h : n < lo ∨ hi < n) : Calls Tryd.prog 15 #[.int .i64 n, .int .i64 lo, .int .i64 hi] w fun e w' => e = .returned (.bool false) ∧ w' = w := by
  by_cases h1 : lo ≤ n
  · have h2 : ¬ n ≤ hi := by omega
    clear h
    go_enter Tryd.func15, Tryd.ntmps15
    go_wp2
    go_ret
    exact ⟨by simp, rfl⟩
  · clear h
    go_enter Tryd.func15, Tryd.ntmps15
    go_wp2
    go_ret
    exact ⟨by simp, rfl⟩

set_option maxHeartbeats 1000000 in
theorem rcheck_any (x : Option Addr) (cap n : Nat) (f : Nat → Int) (w : World) (hm : n ≤ maxLen) (hR : Row w x n f) :
    Calls Tryd.prog 16 #[.slice x n cap] w fun e w' => e = .returned (.int .i64 (curveE n f)) ∧ w' = w := by
  unfold maxLen at hm
  by_cases h : n < 1 ∨ 201 < n
  · rw [show curveE n f = 4 from if_pos h]
    have HW : Hid (Calls Tryd.prog 15 #[.int .i64 n, .int .i64 1, .int .i64 201] w fun e w' => e = .returned (.bool false) ∧ w' = w) := within_no _ _ _ _ (by omega)
    clear h hR
    go_enter Tryd.func16, Tryd.ntmps16
    go_wp2_with fail
    refine HW.out.mono ?_
    rintro e w' ⟨rfl, rfl⟩
    go_wp2
    go_ret
    exact ⟨rfl, rfl⟩
  have HE : Hid (curveE n f = fst0 (cE f) n) := if_neg h
  have HW : Hid (Calls Tryd.prog 15 #[.int .i64 n, .int .i64 1, .int .i64 201] w fun e w' => e = .returned (.bool true) ∧ w' = w) := within_yes _ _ _ _ (by omega) (by omega)
  obtain ⟨b, off, rfl⟩ := hR.some (by omega)
  have HR : Hid (Row w (some ⟨b, off, none⟩) n f) := hR
  clear h hR
  go_enter Tryd.func16, Tryd.ntmps16
  go_wp2_with fail
  refine HW.out.mono ?_
  rintro e w' ⟨rfl, rfl⟩
  go_wp2
  go_loop [11] (fun i => ∃ k : Nat, k ≤ n ∧ i = .int .i64 k ∧ Hid (fst0 (cE f) k = 0)) (fun i => n - (intOf i).toNat)
  case atStart => exact ⟨0, Nat.zero_le _, rfl, rfl⟩
  case round =>
    obtain ⟨k, hk, rfl, HF⟩ := hrel
    by_cases hlt : k < n
    · have c := HR.out.at hlt
      by_cases h3 : f k < 0 ∨ 1000000000000 < f k
      · have HG : Hid (curveE n f = 2) := by
          have hc : cE f k = 2 := by unfold cE; rw [if_pos h3]
          show curveE n f = _
          rw [HE.out, fst0_at HF.out (by rw [hc]; decide) hlt, hc]
        have HW2 : Hid (Calls Tryd.prog 15 #[.int .i64 (f k), .int .i64 0, .int .i64 1000000000000] w' fun e w'' => e = .returned (.bool false) ∧ w'' = w') := within_no _ _ _ _ h3
        clear h3
        go_wp2_with fail
        refine HW2.out.mono ?_
        rintro e w'' ⟨rfl, rfl⟩
        go_wp2
        go_ret
        exact ⟨by rw [HG.out]; rfl, rfl⟩
      have HW2 : Hid (Calls Tryd.prog 15 #[.int .i64 (f k), .int .i64 0, .int .i64 1000000000000] w' fun e w'' => e = .returned (.bool true) ∧ w'' = w') := within_yes _ _ _ _ (by omega) (by omega)
      cases k with
      | zero =>
        rw [Nat.add_zero] at c
        have HG : Hid (fst0 (cE f) (0 + 1) = 0) := fst0_next HF.out (by unfold cE; rw [if_neg h3, if_neg (by simp only [ahd]; omega)])
        clear h3
        go_wp2_with fail
        refine HW2.out.mono ?_
        rintro e w'' ⟨rfl, rfl⟩
        go_wp2
        go_round
        case rel => exact ⟨0 + 1, by omega, by go_num, HG⟩
        case measure => simp [intOf]; omega
      | succ k =>
        have c1 := HR.out.at (i := k) (by omega)
        by_cases h5 : f (k + 1) < f k
        · have HG : Hid (curveE n f = 10) := by
            have hc : cE f (k + 1) = 10 := by unfold cE; rw [if_neg h3]; exact if_pos h5
            show curveE n f = _
            rw [HE.out, fst0_at HF.out (by rw [hc]; decide) hlt, hc]
          clear h3
          go_wp2_with fail
          refine HW2.out.mono ?_
          rintro e w'' ⟨rfl, rfl⟩
          go_wp2
          go_ret
          exact ⟨by rw [HG.out]; rfl, rfl⟩
        · have HG : Hid (fst0 (cE f) (k + 1 + 1) = 0) := fst0_next HF.out (by unfold cE; rw [if_neg h3]; exact if_neg h5)
          clear h3
          go_wp2_with fail
          refine HW2.out.mono ?_
          rintro e w'' ⟨rfl, rfl⟩
          go_wp2
          go_round
          case rel => exact ⟨k + 1 + 1, by omega, by go_num, HG⟩
          case measure => simp [intOf]; omega
    · obtain rfl : k = n := by omega
      go_wp2
      go_ret
      exact ⟨by rw [HE.out, HF.out]; rfl, rfl⟩
theorem lsame_any (x y : Option Addr) (cx cy n : Nat) (f : Nat → Int) (w : World) (hm : n ≤ maxLen) (hx : Row w x n f) (hy : Row w y n f) :
    Calls Tryd.prog 13 #[.slice x n cx, .slice y n cy] w fun e w' => e = .returned (.bool true) ∧ ∃ q, w' = w.drewN q := by
  unfold maxLen at hm
  have HX : Hid (Row w x n f) := hx
  have HY : Hid (Row w y n f) := hy
  clear hx hy
  go_enter Tryd.func13, Tryd.ntmps13
  go_wp2
  go_loopw [5] (fun i wr => ∃ k : Nat, k ≤ n ∧ i = .int .i64 k ∧ ∃ q, wr = w.drewN q) (fun i _ => n - (intOf i).toNat)
  case atStart => exact ⟨0, Nat.zero_le _, rfl, 0, rfl⟩
  case round =>
    obtain ⟨k, hk, rfl, q, rfl⟩ := hrel
    by_cases hlt : k < n
    · obtain ⟨b, off, rfl⟩ := HX.out.some (by omega)
      obtain ⟨b', off', rfl⟩ := HY.out.some (by omega)
      have c0 := HX.out.at hlt
      have c1 := HY.out.at hlt
      generalize f k = u at *
      go_wp2
      go_quiet (fail)
      go_wp2
      go_roundw
      case rel => exact ⟨k + 1, by omega, by go_num, _, rfl⟩
      case measure => simp [intOf]; omega
    · go_wp2
      go_ret
      exact ⟨rfl, _, rfl⟩
end Go.Proofs.YtnaooocmggnojaaDoor
