/-
  millracekeep.ItemTakesMore is true at every rate and every two numbers; nothing that was there before is otherwise. Conditions: integers of 64 bits; errors.errorType holds its handle.
-/
import Derived.Test.YtdeghhdhjamnbaaDoorListed
import Derived.Deep.RegionHeld3
namespace Go.Proofs.YtdeghhdhjamnbaaDoor
open Go.RowKit Go.Extern.Stop Go.Stop Go.Extern

/-! plain numbers -/
theorem takes_bounds (n t x : Int) (hn : 1 ≤ n) : x * t ≤ n * takes n t x ∧ n * takes n t x < x * t + n := by
  unfold takes
  have h1 := Int.mul_ediv_add_emod (x * t + n - 1) n
  have h2 := Int.emod_nonneg (x * t + n - 1) (by omega : n ≠ 0)
  have h3 := Int.emod_lt_of_pos (x * t + n - 1) (by omega : 0 < n)
  omega
theorem takes_le (n t x y : Int) (hn : 1 ≤ n) (ht : 1 ≤ t) (h : x ≤ y) : takes n t x ≤ takes n t y := by
  unfold takes
  have := Int.mul_le_mul_of_nonneg_right h (by omega : 0 ≤ t)
  exact Int.ediv_le_ediv (by omega) (by omega)
theorem lt_of_mul {n a b : Int} (hn : 1 ≤ n) (h : n * a < n * b) : a < b := Int.lt_of_mul_lt_mul_left h (by omega)
theorem takes_sum (n t x y : Int) (hn : 1 ≤ n) : takes n t (x + y) ≤ takes n t x + takes n t y ∧ takes n t x + takes n t y ≤ takes n t (x + y) + 1 := by
  obtain ⟨a1, a2⟩ := takes_bounds n t x hn
  obtain ⟨b1, b2⟩ := takes_bounds n t y hn
  obtain ⟨c1, c2⟩ := takes_bounds n t (x + y) hn
  have hs : (x + y) * t = x * t + y * t := Int.add_mul x y t
  have hm : n * (takes n t x + takes n t y) = n * takes n t x + n * takes n t y := Int.mul_add _ _ _
  have hm1 : n * (takes n t x + takes n t y + 1) = n * takes n t x + n * takes n t y + n := by rw [Int.mul_add, hm]; simp
  have hm2 : n * (takes n t (x + y) + 2) = n * takes n t (x + y) + 2 * n := by rw [Int.mul_add]; omega
  constructor
  · have := lt_of_mul (a := takes n t (x + y)) (b := takes n t x + takes n t y + 1) hn (by rw [hm1]; omega)
    omega
  · have := lt_of_mul (a := takes n t x + takes n t y) (b := takes n t (x + y) + 2) hn (by rw [hm, hm2]; omega)
    omega
theorem takes_nonneg (n t x : Int) (hn : 1 ≤ n) (ht : 1 ≤ t) (hx : 0 ≤ x) : 0 ≤ takes n t x := by
  have := Int.mul_nonneg hx (by omega : 0 ≤ t)
  exact Int.ediv_nonneg (by omega) (by omega)
theorem takes_top (n t x : Int) (hn : 1 ≤ n) (ht : 1 ≤ t) (ht1 : t ≤ 1000000) (hx : 0 ≤ x) (hx1 : x ≤ 1000000) : takes n t x ≤ 1000001000000 := by
  have h1 : x * t ≤ 1000000 * 1000000 := Int.mul_le_mul hx1 ht1 (by omega) (by omega)
  have h2 := (takes_bounds n t x hn).2
  have h3 := takes_nonneg n t x hn ht hx
  by_cases h : 1000001000000 < takes n t x
  · exfalso
    have h4 : n * 1000001000000 < n * takes n t x := Int.mul_lt_mul_of_pos_left h (by omega)
    omega
  · omega
theorem takes_one (n t : Int) (hn : 1 ≤ n) (ht : 1 ≤ t) : 0 < takes n t 1 := by
  have h := (takes_bounds n t 1 hn).1
  by_cases h0 : takes n t 1 ≤ 0
  · have := Int.mul_le_mul_of_nonneg_left h0 (by omega : 0 ≤ n)
    omega
  · omega

theorem cell_old {w : World} {a : Addr} {v : Value} (o : Obj) (h : w.cell? a = some v) : (w.alloc o).cell? a = some v := by
  rw [World.cell?_alloc_lt _ _ a (lt_of_cell h)]; exact h
theorem cell_drew {w : World} {a : Addr} {v : Value} (h : w.cell? a = some v) : w.drew.cell? a = some v := h

def pck (a n : Int) : Int := (a % 18446744073709551616) % n
theorem pck_lt (a n : Int) (hn : 1 ≤ n) : 0 ≤ pck a n ∧ pck a n < n := ⟨Int.emod_nonneg _ (by omega), Int.emod_lt_of_pos _ (by omega)⟩

theorem pck_walk (a : Int) : wrap64 ((IntKind.u64.wrap a).tmod 10000) = pck a 10000 := by
  unfold pck
  rw [IntKind.wrap_u64, Int.tmod_eq_emod_of_nonneg (by omega)]
  have h1 := Int.emod_nonneg (a % 18446744073709551616) (by omega : (10000 : Int) ≠ 0)
  have h2 := Int.emod_lt_of_pos (a % 18446744073709551616) (by omega : (0 : Int) < 10000)
  generalize a % 18446744073709551616 % 10000 = r at *
  unfold wrap64; omega
theorem ret_int {k : IntKind} {a b : Int} (h : a = b) : Ending.returned (.int k a) = .returned (.int k b) := by rw [h]
theorem pick_any (a : Int) (w : World) : Calls Tryd.prog 25 #[.int .i64 a, .int .i64 10000] w fun e w' => e = .returned (.int .i64 (pck a 10000)) ∧ w' = w := by
  go_enter Tryd.func25, Tryd.ntmps25
  go_wp2
  go_ret
  exact ⟨ret_int (pck_walk a), rfl⟩

set_option maxHeartbeats 1000000 in
theorem takesMore_no (n t a b : Int) (w : World) (hL : Laid w) (h : okRate n t = false) : Calls Tryd.prog 8 #[.agg #[.int .i64 n, .int .i64 t], .int .i64 a, .int .i64 b] w fun e w' => e = .returned (.bool true) ∧ Below w.heap.size w w' := by
  have H : Hid (okRate n t = false) := h
  clear h
  go_enter Tryd.func8, Tryd.ntmps8
  go_wp2_with fail
  refine (listed_true _ (hL.alloc _)).mono ?_
  rintro e w1 ⟨rfl, hb⟩
  have hL1 : Laid w1 := (hL.alloc _).below hb
  have hB : Below w.heap.size w w1 := ((Below.refl _ _).alloc (Nat.le_refl _) _).trans (hb.mono (by simp))
  have c0 : w1.cell? ⟨w.heap.size, 0, none⟩ = some (.int .i64 n) := by rw [hb.cell (by simp)]; simp
  have c1 : w1.cell? ⟨w.heap.size, 0 + 1, none⟩ = some (.int .i64 t) := by rw [hb.cell (by simp)]; simp
  have c1' : w1.cell? ⟨w.heap.size, 1, none⟩ = some (.int .i64 t) := c1
  go_wp2_with fail
  refine (speed_no _ _ _ H.out).mono ?_
  rintro e w2 ⟨rfl, rfl⟩
  go_wp2_with fail
  refine (listed_true _ (hL1.alloc _)).mono ?_
  rintro e w3 ⟨rfl, hb3⟩
  go_wp2
  go_ret
  exact ⟨rfl, (hB.alloc hB.size _).trans (hb3.mono (by simp; have := hB.size; omega))⟩

set_option maxHeartbeats 2000000 in
theorem takesMore_yes (n t a b : Int) (w : World) (hL : Laid w) (h : okRate n t = true) : Calls Tryd.prog 8 #[.agg #[.int .i64 n, .int .i64 t], .int .i64 a, .int .i64 b] w fun e w' => e = .returned (.bool true) ∧ Below w.heap.size w w' := by
  have hh : okRate n t = true := h
  simp only [okRate, Bool.and_eq_true, wth_iff] at hh
  obtain ⟨⟨h1, h2⟩, h3, h4⟩ := hh
  have H : Hid (okRate n t = true) := h
  clear h
  go_enter Tryd.func8, Tryd.ntmps8
  go_wp2_with fail
  refine (listed_true _ (hL.alloc _)).mono ?_
  rintro e w1 ⟨rfl, hb⟩
  have hL1 : Laid w1 := (hL.alloc _).below hb
  have hB : Below w.heap.size w w1 := ((Below.refl _ _).alloc (Nat.le_refl _) _).trans (hb.mono (by simp))
  have c0 : w1.cell? ⟨w.heap.size, 0, none⟩ = some (.int .i64 n) := by rw [hb.cell (by simp)]; simp
  have c1 : w1.cell? ⟨w.heap.size, 0 + 1, none⟩ = some (.int .i64 t) := by rw [hb.cell (by simp)]; simp
  have c1' : w1.cell? ⟨w.heap.size, 1, none⟩ = some (.int .i64 t) := c1
  have hz : w.heap.size < w1.heap.size := lt_of_cell c0
  go_wp2_with fail
  refine (speed_yes _ _ _ H.out).mono ?_
  rintro e w2 ⟨rfl, rfl⟩
  obtain ⟨pa0, pa1⟩ := pck_lt a 10000 (by omega)
  obtain ⟨pb0, pb1⟩ := pck_lt b 10000 (by omega)
  go_wp2_with (go_at_call 25; refine (pick_any _ _).mono ?_; rintro e w' ⟨rfl, rfl⟩)
  generalize pck a 10000 = x at *
  generalize pck b 10000 = y at *
  obtain ⟨hS1, hS2⟩ := takes_sum n t x y h1
  have hwr : IntKind.i64.wrap (x + y) = x + y := by rw [IntKind.wrap_i64]; omega
  have hx := takes_le n t x (x + y) h1 h3 (by omega)
  have hy := takes_le n t y (x + y) h1 h3 (by omega)
  have h0x := takes_nonneg n t x h1 h3 pa0
  have h0y := takes_nonneg n t y h1 h3 pb0
  have htop := takes_top n t (x + y) h1 h3 h4 (by omega) (by omega)
  have h1p := takes_one n t h1 h3
  go_region_held3 (fun w' => w'.cell? ⟨w.heap.size, 0, none⟩ = some (.int .i64 n) ∧ w'.cell? ⟨w.heap.size, 0 + 1, none⟩ = some (.int .i64 t) ∧ w'.cell? ⟨w.heap.size, 1, none⟩ = some (.int .i64 t) ∧ w.heap.size < w'.heap.size) ((refine ⟨?_, ?_, ?_, ?_⟩ <;> first | (simp; omega) | (repeat (first | with_reducible exact c0 | with_reducible exact c1 | with_reducible exact c1' | with_reducible (refine cell_drew ?_) | with_reducible (refine cell_old _ ?_)))))
    ((go_at_call 17; refine (takes_yes _ _ _ _ H.out (by omega) (by omega)).mono ?_; rintro e w' ⟨rfl, rfl⟩))
  go_wp2_with fail
  refine (takes_yes _ _ _ _ H.out (by omega) (by omega)).mono ?_
  rintro e w' ⟨rfl, rfl⟩
  go_wp2
  go_ret
  refine ⟨rfl, ?_⟩
  repeat' (first | exact hB | refine Below.drew ?_ | refine Below.alloc ?_ ?_ _)
  all_goals (first | omega | (simp; omega))
end Go.Proofs.YtdeghhdhjamnbaaDoor
