/-
  millraceref.Takes at a rate that may be and 0 to 1,000,000 bytes; millracelaw.ItemTakes is true at every rate and number; nothing that was there before is otherwise. Condition: errors.errorType holds what the program's text lays.
-/
import Derived.Test.YtamdbfdljkldeaaDoorRat13
import Derived.Test.YtamdbfdljkldeaaDoorRef
namespace Go.Proofs.YtamdbfdljkldeaaDoor
open Go.RowKit Go.Deep Go.Extern.Stop Go.Stop Go.Extern

theorem ceil_takes (n t x : Int) (hn : 1 ≤ n) : ceil (x * t) n = takes n t x := by
  unfold ceil takes
  generalize x * t = m
  symm
  rw [Int.ediv_eq_iff_of_pos (by omega), Int.neg_mul, Int.mul_comm ((-m) / n) n]
  have h1 := Int.mul_ediv_add_emod (-m) n
  have h2 := Int.emod_nonneg (-m) (show n ≠ 0 by omega)
  have h3 := Int.emod_lt_of_pos (-m) (show 0 < n by omega)
  generalize n * ((-m) / n) = k at *
  omega
theorem okRate_spec {n t : Int} (h : okRate n t = true) : 1 ≤ n ∧ n ≤ 1000000 ∧ 1 ≤ t ∧ t ≤ 1000000 := by
  simp only [okRate, wth, Bool.and_eq_true, decide_eq_true_eq] at h
  omega

set_option maxHeartbeats 2000000 in
theorem rtakes_any (n t x : Int) (w : World) (h : okRate n t = true) (hx0 : 0 ≤ x) (hx1 : x ≤ 1000000) :
    Calls Tryd.prog 18 #[.agg #[.int .i64 n, .int .i64 t], .int .i64 x] w fun e w' => e = .returned (.int .i64 (takes n t x)) ∧ Below w.heap.size w w' := by
  obtain ⟨n0, n1, t0, t1⟩ := okRate_spec h
  have m1 : x.natAbs * t.natAbs ≤ 1000000 * 1000000 := Nat.mul_le_mul (by omega) (by omega)
  have HP : Hid (x.natAbs * t.natAbs < 18446744073709551616 ∧ (1 : Int).natAbs * n.natAbs < 18446744073709551616 ∧ t.natAbs < 18446744073709551616) := ⟨by omega, by simp; omega, by omega⟩
  have HU : Hid ((x * t).natAbs < 9223372036854775807 ∧ (1 * n).natAbs < 9223372036854775807 ∧ 1 ≤ 1 * n) := ⟨by rw [Int.natAbs_mul]; omega, by omega, by omega⟩
  have HC : Hid (ceil (x * t) n = takes n t x) := ceil_takes n t x n0
  have HN : Hid (1 ≤ n ∧ n ≤ 1000000 ∧ 1 ≤ t ∧ t ≤ 1000000 ∧ 0 ≤ x ∧ x ≤ 1000000) := ⟨n0, n1, t0, t1, hx0, hx1⟩
  have hb0 := alloc_below w #[.int .i64 n, .int .i64 t] 38
  have HB : Hid (Below w.heap.size w (w.alloc (.cells #[.int .i64 n, .int .i64 t] 38)).drew) := hb0.drew
  have K0 : Hid (PairAt w.heap.size 0 w.heap.size 1 (.int .i64 n) (.int .i64 t) (w.alloc (.cells #[.int .i64 n, .int .i64 t] 38)).drew) := ⟨by simp, by simp⟩
  clear h hx0 hx1 n0 n1 t0 t1 m1 hb0
  go_enter Tryd.func18, Tryd.ntmps18
  go_wp2_with fail
  go_region_held3 (fun w' => w'.cell? ⟨w.heap.size, 0, none⟩ = some (.int .i64 n) ∧ w'.cell? ⟨w.heap.size, 1, none⟩ = some (.int .i64 t)) (first | exact K4.out | exact K3.out | exact K2.out | exact K1.out | exact K0.out)
    (first
      | (go_at_call 33; refine (refInt_any x _ (by have := HN.out; omega)).mono ?_; rintro e w1 ⟨b1, rfl, g1, f1, l1⟩; have K1 : Hid (PairAt w.heap.size 0 w.heap.size 1 (.int .i64 n) (.int .i64 t) w1) := K0.out.below l1)
      | (go_at_call 34; refine (refSpeed_any n t _ (by have := HN.out; omega) (by have := HN.out; omega)).mono ?_; rintro e w2 ⟨b2, rfl, g2, f2, l2⟩; have K2 : Hid (PairAt w.heap.size 0 w.heap.size 1 (.int .i64 n) (.int .i64 t) w2) := K1.out.below l2)
      | (go_at_call 32; refine (refDiv_any b1 b2 x 1 n t _ (f1.below l2) f2 HN.out.1 HN.out.2.2.1 HP.out.1 HP.out.2.1 HP.out.2.2).mono ?_; rintro e w3 ⟨b3, rfl, g3, f3, l3⟩; have K3 : Hid (PairAt w.heap.size 0 w.heap.size 1 (.int .i64 n) (.int .i64 t) w3) := K2.out.below l3)
      | (go_at_call 31; refine (up_any b3 (x * t) (1 * n) _ f3 HU.out.2.2 HU.out.1 HU.out.2.1).mono ?_; rintro e w4 ⟨rfl, l4⟩; have K4 : Hid (PairAt w.heap.size 0 w.heap.size 1 (.int .i64 n) (.int .i64 t) w4) := K3.out.below l4))
  all_goals
    have HE : Hid (Below w.heap.size w w4) := by
      have s0 := HB.out.size
      have k1 := HB.out.trans (l1.mono s0)
      have k2 := k1.trans (l2.mono k1.size)
      have k3 := k2.trans (l3.mono k2.size)
      exact k3.trans (l4.mono k3.size)
    rw [HC.out]
    clear f1 f2 f3 l1 l2 l3 l4
    go_wp2
    go_ret
    exact ⟨rfl, HE.out⟩

theorem rateCheck_yes (n t : Int) (w : World) (h : okRate n t = true) : Calls Tryd.prog 15 #[.agg #[.int .i64 n, .int .i64 t]] w fun e w' => e = .returned (.int .i64 0) ∧ w' = w.alloc (.cells #[.int .i64 n, .int .i64 t] 38) := by
  simp only [okRate, Bool.and_eq_true] at h
  obtain ⟨h1, h2⟩ := h
  go_enter Tryd.func15, Tryd.ntmps15
  go_wp2_with (first | (go_at_call 28; refine (rwithin_any _ _ _ _).mono ?_; rintro e w' ⟨rfl, rfl⟩))
  go_ret
  exact ⟨rfl, rfl⟩

theorem rateCheck_no (n t : Int) (w : World) (h : okRate n t = false) : Calls Tryd.prog 15 #[.agg #[.int .i64 n, .int .i64 t]] w fun e w' => e = .returned (.int .i64 2) ∧ w' = w.alloc (.cells #[.int .i64 n, .int .i64 t] 38) := by
  cases h1 : wth n 1 1000000 with
  | false =>
    go_enter Tryd.func15, Tryd.ntmps15
    go_wp2_with (first | (go_at_call 28; refine (rwithin_any _ _ _ _).mono ?_; rintro e w' ⟨rfl, rfl⟩))
    go_ret
    exact ⟨rfl, rfl⟩
  | true =>
    cases h2 : wth t 1 1000000 with
    | false =>
      clear h
      go_enter Tryd.func15, Tryd.ntmps15
      go_wp2_with (first | (go_at_call 28; refine (rwithin_any _ _ _ _).mono ?_; rintro e w' ⟨rfl, rfl⟩))
      go_ret
      exact ⟨rfl, rfl⟩
    | true => simp [okRate, h1, h2] at h

set_option maxHeartbeats 2000000 in
theorem itemTakes_no (n t x : Int) (w : World) (hL : Laid w) (h : okRate n t = false) : Calls Tryd.prog 4 #[.agg #[.int .i64 n, .int .i64 t], .int .i64 x] w fun e w' => e = .returned (.bool true) ∧ Below w.heap.size w w' := by
  have H : Hid (okRate n t = false) := h
  have HG : Hid (Laid w) := hL
  clear h hL
  go_enter Tryd.func4, Tryd.ntmps4
  go_wp2_with fail
  refine (rateCheck_no n t _ H.out).mono ?_
  rintro e w1 ⟨rfl, rfl⟩
  go_wp2_with fail
  refine (speed_no n t _ H.out).mono ?_
  rintro e w1 ⟨rfl, rfl⟩
  go_wp2_with fail
  refine (bare_true (E := 2) _ (Or.inr (Or.inl ⟨rfl, by decide, rfl⟩)) (((HG.out.alloc _).alloc _).alloc _)).mono ?_
  rintro e w1 ⟨rfl, hb⟩
  have HB : Hid (Below w.heap.size w w1) := (((alloc_below w _ _).trans ((alloc_below _ _ _).mono (by simp))).trans ((alloc_below _ _ _).mono (by simp; omega))).trans (hb.mono (by simp; omega))
  clear hb
  go_wp2_with fail
  go_quiet (fail)
  go_wp2
  go_ret
  exact ⟨rfl, below_drewN HB.out _⟩

set_option maxHeartbeats 2000000 in
theorem itemTakes_out (n t x : Int) (w : World) (hL : Laid w) (h : okRate n t = true) (hx : x < 0 ∨ 1000000 < x) : Calls Tryd.prog 4 #[.agg #[.int .i64 n, .int .i64 t], .int .i64 x] w fun e w' => e = .returned (.bool true) ∧ Below w.heap.size w w' := by
  have H : Hid (okRate n t = true) := h
  have HG : Hid (Laid w) := hL
  clear h hL
  go_enter Tryd.func4, Tryd.ntmps4
  go_wp2_with fail
  refine (rateCheck_yes n t _ H.out).mono ?_
  rintro e w1 ⟨rfl, rfl⟩
  go_wp2_with fail
  refine (speed_yes n t _ H.out).mono ?_
  rintro e w1 ⟨rfl, rfl⟩
  go_wp2_with fail
  refine (bare_true (E := 0) _ (Or.inl ⟨rfl, rfl, rfl⟩) (((HG.out.alloc _).alloc _).alloc _)).mono ?_
  rintro e w1 ⟨rfl, hb⟩
  have HB : Hid (Below w.heap.size w w1) := (((alloc_below w _ _).trans ((alloc_below _ _ _).mono (by simp))).trans ((alloc_below _ _ _).mono (by simp; omega))).trans (hb.mono (by simp; omega))
  clear hb
  by_cases hx0 : x < 0
  · go_wp2_with fail
    go_quiet (fail)
    go_wp2
    go_ret
    exact ⟨rfl, below_drewN HB.out _⟩
  · have hx1 : 1000000 < x := by omega
    clear hx
    go_wp2_with fail
    go_quiet (fail)
    go_wp2
    go_ret
    exact ⟨rfl, below_drewN HB.out _⟩

set_option maxHeartbeats 2000000 in
theorem itemTakes_in (n t x : Int) (w : World) (hL : Laid w) (h : okRate n t = true) (hx0 : 0 ≤ x) (hx1 : x ≤ 1000000) : Calls Tryd.prog 4 #[.agg #[.int .i64 n, .int .i64 t], .int .i64 x] w fun e w' => e = .returned (.bool true) ∧ Below w.heap.size w w' := by
  have n0 : decide (x < 0) = false := by simp; omega
  have n1 : decide (1000000 < x) = false := by simp; omega
  have HX : Hid (0 ≤ x ∧ x ≤ 1000000) := ⟨hx0, hx1⟩
  clear hx0 hx1
  have H : Hid (okRate n t = true) := h
  have HG : Hid (Laid w) := hL
  clear h hL
  go_enter Tryd.func4, Tryd.ntmps4
  go_wp2_with fail
  refine (rateCheck_yes n t _ H.out).mono ?_
  rintro e w1 ⟨rfl, rfl⟩
  go_wp2_with fail
  refine (speed_yes n t _ H.out).mono ?_
  rintro e w1 ⟨rfl, rfl⟩
  go_wp2_with fail
  refine (bare_true (E := 0) _ (Or.inl ⟨rfl, rfl, rfl⟩) (((HG.out.alloc _).alloc _).alloc _)).mono ?_
  rintro e w1 ⟨rfl, hb⟩
  have HB : Hid (Below w.heap.size w w1) := (((alloc_below w _ _).trans ((alloc_below _ _ _).mono (by simp))).trans ((alloc_below _ _ _).mono (by simp; omega))).trans (hb.mono (by simp; omega))
  have k0 : PairAt w.heap.size 0 w.heap.size 1 (.int .i64 n) (.int .i64 t) (w.alloc (.cells #[.int .i64 n, .int .i64 t] 38)) := ⟨by simp, by simp⟩
  have K0 : Hid (PairAt w.heap.size 0 w.heap.size 1 (.int .i64 n) (.int .i64 t) w1) := ((k0.below (alloc_below _ _ _)).below (alloc_below _ _ _)).below hb
  clear hb k0
  go_wp2_with fail
  go_region_held3 (fun w' => w'.cell? ⟨w.heap.size, 0, none⟩ = some (.int .i64 n) ∧ w'.cell? ⟨w.heap.size, 1, none⟩ = some (.int .i64 t)) (first | exact K2.out | exact K1.out | exact K0.out)
    (first
      | (go_at_call 17; refine (takes_yes n t x _ H.out HX.out.1 HX.out.2).mono ?_; rintro e w2 ⟨rfl, hw2⟩; have l2 : Below w1.heap.size w1 w2 := (by rw [hw2]; exact ((Below.refl _ w1).drew.alloc (Nat.le_refl _) _).alloc (by simp) _); have K1 : Hid (PairAt w.heap.size 0 w.heap.size 1 (.int .i64 n) (.int .i64 t) w2) := K0.out.below l2; clear hw2)
      | (go_at_call 18; refine (rtakes_any n t x _ H.out HX.out.1 HX.out.2).mono ?_; rintro e w3 ⟨rfl, l3⟩; have K2 : Hid (PairAt w.heap.size 0 w.heap.size 1 (.int .i64 n) (.int .i64 t) w3) := K1.out.below l3))
  all_goals
    have HE : Hid (Below w.heap.size w w3) := by
      have k1 := HB.out.trans (l2.mono HB.out.size)
      exact k1.trans (l3.mono k1.size)
    clear l2 l3
    go_wp2
    go_ret
    exact ⟨rfl, HE.out⟩

theorem itemTakes_any (n t x : Int) (w : World) (hL : Laid w) : Calls Tryd.prog 4 #[.agg #[.int .i64 n, .int .i64 t], .int .i64 x] w fun e w' => e = .returned (.bool true) ∧ Below w.heap.size w w' := by
  cases h : okRate n t with
  | false => exact itemTakes_no n t x w hL h
  | true =>
    by_cases hx : x < 0 ∨ 1000000 < x
    · exact itemTakes_out n t x w hL h hx
    · exact itemTakes_in n t x w hL h (by omega) (by omega)
end Go.Proofs.YtamdbfdljkldeaaDoor
