/-
  curve.checkLine, Burst and Late at any rate, number and ticks: the error, or in new memory the curve; nothing that was there before is otherwise. No condition but 64-bit integers.
-/
import Derived.Test.YtebahbcmlhdleaaDoorCvBurst
namespace Go.Proofs.YtebahbcmlhdleaaDoor
open Go.RowKit Go.Extern.Stop Go.Stop Go.Extern

/-- What is wrong with a line's numbers. -/
def lineE (n t R T : Int) : Int := if okRate n t = false ∨ R < 0 ∨ 1000000 < R then 2 else if T < 0 ∨ 200 < T then 4 else 0
theorem lineE_zero {n t R T : Int} : lineE n t R T = 0 ↔ okB n t R ∧ 0 ≤ T ∧ T ≤ 200 := by
  unfold lineE
  constructor
  · intro h
    split at h
    · simp at h
    · split at h
      · simp at h
      · rename_i h1 h2
        have hr : okRate n t = true := by
          cases hr : okRate n t with
          | true => rfl
          | false => exact absurd (Or.inl hr) h1
        simp only [okRate, wth, Bool.and_eq_true, decide_eq_true_eq] at hr
        exact ⟨⟨by omega, by omega, by omega, by omega⟩, by omega, by omega⟩
  · rintro ⟨h, h1, h2⟩
    have hr := okRate_of h
    have h3 := h.2.2
    rw [if_neg (by rw [hr]; simp; omega), if_neg (by omega)]
set_option maxHeartbeats 1000000 in
theorem line_no (n t R T : Int) (w : World) (h : lineE n t R T ≠ 0) :
    Calls Tryd.prog 21 #[.agg #[.int .i64 n, .int .i64 t], .int .i64 R, .int .i64 T] w fun e w' => e = .returned (.iface 24 (.int .i64 (lineE n t R T))) ∧ Below w.heap.size w w' := by
  cases hr : okRate n t with
  | false =>
    rw [show lineE n t R T = 2 from if_pos (Or.inl hr)]
    have HR : Hid (okRate n t = false) := hr
    clear hr h
    go_enter Tryd.func21, Tryd.ntmps21
    go_wp2_with fail
    refine (speed_no _ _ _ HR.out).mono ?_
    rintro e w1 ⟨rfl, rfl⟩
    go_wp2
    go_ret
    exact ⟨rfl, ((Below.refl _ _).alloc (Nat.le_refl _) _).alloc (by simp) _⟩
  | true =>
    have HR : Hid (okRate n t = true) := hr
    by_cases h1 : R < 0 ∨ 1000000 < R
    · rw [show lineE n t R T = 2 from if_pos (Or.inr h1)]
      have HA : Hid (∀ W, Calls Tryd.prog 43 #[.int .i64 R] W fun e w' => e = .returned (.iface 24 (.int .i64 2)) ∧ w' = W) := fun W => amount_no R W h1
      clear hr h h1
      go_enter Tryd.func21, Tryd.ntmps21
      go_wp2_with fail
      refine (speed_yes _ _ _ HR.out).mono ?_
      rintro e w1 ⟨rfl, rfl⟩
      go_wp2_with fail
      refine (HA.out _).mono ?_
      rintro e w2 ⟨rfl, rfl⟩
      go_wp2
      go_ret
      exact ⟨rfl, ((Below.refl _ _).alloc (Nat.le_refl _) _).alloc (by simp) _⟩
    · have hT : T < 0 ∨ 200 < T := by
        by_cases hT : T < 0 ∨ 200 < T
        · exact hT
        · exfalso; apply h; unfold lineE; rw [if_neg (by rw [hr]; simp; omega), if_neg hT]
      have hE : lineE n t R T = 4 := by unfold lineE; rw [if_neg (by rw [hr]; simp; omega), if_pos hT]
      rw [hE]
      have HA : Hid (∀ W, Calls Tryd.prog 43 #[.int .i64 R] W fun e w' => e = .returned .nilIface ∧ w' = W) := fun W => amount_yes R W (by omega) (by omega)
      clear hr h h1 hE
      by_cases hT0 : T < 0
      · clear hT
        go_enter Tryd.func21, Tryd.ntmps21
        go_wp2_with fail
        refine (speed_yes _ _ _ HR.out).mono ?_
        rintro e w1 ⟨rfl, rfl⟩
        go_wp2_with fail
        refine (HA.out _).mono ?_
        rintro e w2 ⟨rfl, rfl⟩
        go_wp2
        go_ret
        exact ⟨rfl, ((Below.refl _ _).alloc (Nat.le_refl _) _).alloc (by simp) _⟩
      · have hT1 : 200 < T := by omega
        clear hT
        go_enter Tryd.func21, Tryd.ntmps21
        go_wp2_with fail
        refine (speed_yes _ _ _ HR.out).mono ?_
        rintro e w1 ⟨rfl, rfl⟩
        go_wp2_with fail
        refine (HA.out _).mono ?_
        rintro e w2 ⟨rfl, rfl⟩
        go_wp2
        go_ret
        exact ⟨rfl, ((Below.refl _ _).alloc (Nat.le_refl _) _).alloc (by simp) _⟩
set_option maxHeartbeats 1000000 in
theorem burst_no (n t R T : Int) (w : World) (h : lineE n t R T ≠ 0) :
    Calls Tryd.prog 7 #[.agg #[.int .i64 n, .int .i64 t], .int .i64 R, .int .i64 T] w fun e w' => e = .returned (.tuple #[.slice none 0 0, .iface 24 (.int .i64 (lineE n t R T))]) ∧ Below w.heap.size w w' := by
  have HC : Hid (∀ W, Calls Tryd.prog 21 #[.agg #[.int .i64 n, .int .i64 t], .int .i64 R, .int .i64 T] W fun e w' => e = .returned (.iface 24 (.int .i64 (lineE n t R T))) ∧ Below W.heap.size W w') := fun W => line_no n t R T W h
  have hB0 : Below w.heap.size w ((w.alloc (.cells #[.int .i64 n, .int .i64 t] 23)).alloc (.cells #[.int .i64 R] 3)) := ((Below.refl _ _).alloc (Nat.le_refl _) _).alloc (by simp) _
  clear h
  generalize lineE n t R T = E at *
  go_enter Tryd.func7, Tryd.ntmps7
  go_wp2_with fail
  refine (HC.out _).mono ?_
  rintro e w1 ⟨rfl, hb1⟩
  go_wp2
  go_ret2
  exact ⟨rfl, hB0.trans (hb1.mono (by simp <;> omega))⟩
set_option maxHeartbeats 1000000 in
theorem late_no (n t R T : Int) (w : World) (h : lineE n t R T ≠ 0) :
    Calls Tryd.prog 8 #[.agg #[.int .i64 n, .int .i64 t], .int .i64 R, .int .i64 T] w fun e w' => e = .returned (.tuple #[.slice none 0 0, .iface 24 (.int .i64 (lineE n t R T))]) ∧ Below w.heap.size w w' := by
  have HC : Hid (∀ W, Calls Tryd.prog 21 #[.agg #[.int .i64 n, .int .i64 t], .int .i64 R, .int .i64 T] W fun e w' => e = .returned (.iface 24 (.int .i64 (lineE n t R T))) ∧ Below W.heap.size W w') := fun W => line_no n t R T W h
  have hB0 : Below w.heap.size w ((w.alloc (.cells #[.int .i64 n, .int .i64 t] 23)).alloc (.cells #[.int .i64 R] 3)) := ((Below.refl _ _).alloc (Nat.le_refl _) _).alloc (by simp) _
  clear h
  generalize lineE n t R T = E at *
  go_enter Tryd.func8, Tryd.ntmps8
  go_wp2_with fail
  refine (HC.out _).mono ?_
  rintro e w1 ⟨rfl, hb1⟩
  go_wp2
  go_ret2
  exact ⟨rfl, hB0.trans (hb1.mono (by simp <;> omega))⟩
/-- The ticks behind a wait. -/
def behi (R : Int) (u : Nat) : Int := if 0 < (u : Int) - R then (u : Int) - R else 0
theorem behi_bd {R : Int} (hR : 0 ≤ R) {u : Nat} (hu : u ≤ 200) : 0 ≤ behi R u ∧ behi R u ≤ 200 := by unfold behi; split <;> omega
/-- The curve of a wait and a rate. -/
def lat (n t R : Int) (u : Nat) : Int := behi R u * n / t
theorem lat_bd {n t m : Int} (hn : 1 ≤ n ∧ n ≤ 1000000) (ht : 1 ≤ t) (h0 : 0 ≤ m) (h1 : m ≤ 200) : 0 ≤ m * n ∧ m * n ≤ 200000000 ∧ 0 ≤ m * n / t ∧ m * n / t ≤ 200000000 := by
  have a1 : 0 ≤ m * n := Int.mul_nonneg h0 (by omega)
  have a2 : m * n ≤ 200 * 1000000 := Int.mul_le_mul h1 hn.2 (by omega) (by omega)
  have a3 : 0 ≤ m * n / t := Int.ediv_nonneg a1 (by omega)
  have a4 : m * n / t ≤ m * n := Int.ediv_le_self _ a1
  omega
theorem entersLate (args : Array Value) (W : World) : (callFunc 24 args).run Tryd.prog W = .ok (.enter 24 args) W := enters_of Tryd.func24 (by kernel_rfl) rfl args W
set_option maxHeartbeats 1000000 in
theorem late1_any (n t R : Int) (u : Nat) (cr ct : Nat) (w : World) (h : okB n t R) (hu : u ≤ 200) (c0 : w.cell? ⟨cr, 0, none⟩ = some (.int .i64 R)) (c1 : w.cell? ⟨ct, 0, none⟩ = some (.int .i64 n)) (c2 : w.cell? ⟨ct, 1, none⟩ = some (.int .i64 t)) :
    Calls Tryd.prog 24 #[.int .i64 u, .pointer (some ⟨cr, 0, none⟩), .pointer (some ⟨ct, 0, none⟩)] w fun e w' => e = .returned (.int .i64 (lat n t R u)) ∧ w' = w := by
  obtain ⟨hn, ht, hR⟩ := h
  have hz : ¬ t = 0 := by omega
  have es : IntKind.i64.wrap ((u : Int) - R) = (u : Int) - R := by rw [IntKind.wrap_i64]; omega
  have hm := behi_bd hR.1 hu
  have hb := lat_bd hn ht.1 hm.1 hm.2
  obtain ⟨d, hd⟩ : ∃ d, behi R u * n / t = d := ⟨_, rfl⟩
  have HD : Hid (lat n t R u = d) := hd
  have e1 : (behi R u * n).tdiv t = d := by rw [Int.tdiv_eq_ediv_of_nonneg hb.1]; exact hd
  have e0 : IntKind.i64.wrap (behi R u * n) = behi R u * n := by rw [IntKind.wrap_i64]; omega
  have e2 : IntKind.i64.wrap d = d := by rw [IntKind.wrap_i64]; rw [hd] at hb; omega
  clear hb hd
  by_cases hlt : 0 < (u : Int) - R
  · have hbe : behi R u = (u : Int) - R := if_pos hlt
    rw [hbe] at e0 e1 hm
    clear hbe
    go_enter Tryd.func24, Tryd.ntmps24
    go_wp2
    go_ret
    exact ⟨by rw [HD.out]; rfl, rfl⟩
  · have hbe : behi R u = 0 := if_neg hlt
    have hd0 : d = 0 := by rw [hbe] at e1; simp at e1; omega
    subst hd0
    clear e0 e1 e2 hbe hm
    go_enter Tryd.func24, Tryd.ntmps24
    go_wp2
    go_ret
    exact ⟨by rw [HD.out]; rfl, rfl⟩
set_option maxHeartbeats 1000000 in
theorem late_ok (n t R : Int) (T N : Nat) (w : World) (h : okB n t R) (hT : T ≤ 200) (hN : T + 1 = N) :
    Calls Tryd.prog 8 #[.agg #[.int .i64 n, .int .i64 t], .int .i64 R, .int .i64 T] w fun e w' => ∃ s, e = .returned (.tuple #[.slice (some ⟨s, 0, none⟩) N N, .nilIface]) ∧ Row w' (some ⟨s, 0, none⟩) N (lat n t R) ∧ Below w.heap.size w w' := by
  have H : Hid (okB n t R) := h
  have hmf := run_makeFunc
  have hB0 : Below w.heap.size w ((w.alloc (.cells #[.int .i64 n, .int .i64 t] 23)).alloc (.cells #[.int .i64 R] 3)) := ((Below.refl _ _).alloc (Nat.le_refl _) _).alloc (by simp) _
  clear h
  go_enter Tryd.func8, Tryd.ntmps8
  go_wp2_with fail
  refine (line_ok n t R T _ H.out hT).mono ?_
  rintro e w1 ⟨rfl, hb1⟩
  have hB1 : Below w.heap.size w w1 := hB0.trans (hb1.mono (by simp <;> omega))
  go_wp2_with fail
  refine (draw_int _ 24 #[.pointer (some ⟨w.heap.size + 1, 0, none⟩), .pointer (some ⟨w.heap.size, 0, none⟩)] N (by omega) (lat n t R) _ (by omega) entersLate ?_).mono ?_
  · intro k W hk hb
    have k0 : w1.cell? ⟨w.heap.size + 1, 0, none⟩ = some (.int .i64 R) := by rw [hb1.cell (by simp <;> omega)]; exact cell_newest (by simp)
    have k1 : w1.cell? ⟨w.heap.size, 0, none⟩ = some (.int .i64 n) := by rw [hb1.cell (by simp <;> omega), cell_elder (by simp <;> omega)]; simp
    have k2 : w1.cell? ⟨w.heap.size, 1, none⟩ = some (.int .i64 t) := by rw [hb1.cell (by simp <;> omega), cell_elder (by simp <;> omega)]; simp
    refine (late1_any n t R k (w.heap.size + 1) w.heap.size W H.out (by omega) ?_ ?_ ?_).mono ?_
    · rw [hb.cell (World.block_lt_of_cell? _ _ k0)]; exact k0
    · rw [hb.cell (World.block_lt_of_cell? _ _ k1)]; exact k1
    · rw [hb.cell (World.block_lt_of_cell? _ _ k2)]; exact k2
    · rintro e W' ⟨rfl, rfl⟩
      exact ⟨rfl, Below.refl _ _⟩
  rintro e w2 ⟨s, rfl, hrow, hb2⟩
  have HR : Hid (Row w2 (some ⟨s, 0, none⟩) N (lat n t R)) := hrow
  clear hrow
  go_wp2
  go_ret2
  exact ⟨s, rfl, HR.out, hB1.trans (hb2.mono hB1.size)⟩
end Go.Proofs.YtebahbcmlhdleaaDoor
