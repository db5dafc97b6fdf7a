/-
  curve.checkLine and Burst of a rate and a room that may be: in new memory the curve of a burst and a rate; nothing that was there before is otherwise. Conditions: a rate, a room and ticks that may be.
-/
import Derived.Test.YtebahbcmlhdleaaDoorBk2
import Derived.Test.YtebahbcmlhdleaaDoorCfMath
import Derived.Test.YtebahbcmlhdleaaDoorCv5
namespace Go.Proofs.YtebahbcmlhdleaaDoor
open Go.RowKit Go.Extern.Stop Go.Stop Go.Extern

theorem okRate_of {n t R : Int} (h : okB n t R) : okRate n t = true := by
  have := h.1
  have := h.2.1
  simp [okRate, wth]
  omega
set_option maxHeartbeats 1000000 in
theorem line_ok (n t R : Int) (T : Nat) (w : World) (h : okB n t R) (hT : T ≤ 200) :
    Calls Tryd.prog 21 #[.agg #[.int .i64 n, .int .i64 t], .int .i64 R, .int .i64 T] w fun e w' => e = .returned .nilIface ∧ Below w.heap.size w w' := by
  have hR := okRate_of h
  have HR : Hid (okRate n t = true) := hR
  have HA : Hid (∀ W, Calls Tryd.prog 43 #[.int .i64 R] W fun e w' => e = .returned .nilIface ∧ w' = W) := fun W => amount_yes R W h.2.2.1 h.2.2.2
  clear hR h
  go_enter Tryd.func21, Tryd.ntmps21
  go_wp2_with fail
  refine (speed_yes _ _ _ HR.out).mono ?_
  rintro e w1 ⟨rfl, rfl⟩
  go_wp2_with fail
  refine (HA.out _).mono ?_
  rintro e w2 ⟨rfl, rfl⟩
  go_wp2
  go_ret
  exact ⟨rfl, ((Below.refl _ _).alloc (Nat.le_refl _) _).alloc (by simp) _⟩
theorem entersBurst (args : Array Value) (W : World) : (callFunc 23 args).run Tryd.prog W = .ok (.enter 23 args) W := enters_of Tryd.func23 (by kernel_rfl) rfl args W
set_option maxHeartbeats 1000000 in
theorem burst1_any (n t R : Int) (u : Nat) (cr ct : Nat) (w : World) (h : okB n t R) (hu : u ≤ 200) (c0 : w.cell? ⟨cr, 0, none⟩ = some (.int .i64 R)) (c1 : w.cell? ⟨ct, 0, none⟩ = some (.int .i64 n)) (c2 : w.cell? ⟨ct, 1, none⟩ = some (.int .i64 t)) :
    Calls Tryd.prog 23 #[.int .i64 u, .pointer (some ⟨cr, 0, none⟩), .pointer (some ⟨ct, 0, none⟩)] w fun e w' => e = .returned (.int .i64 (bur n t R u)) ∧ ∃ q, w' = w.drewN q := by
  obtain ⟨hn, ht, hR⟩ := h
  by_cases h0 : u = 0
  · subst h0
    clear hn ht hR
    go_enter Tryd.func23, Tryd.ntmps23
    go_wp2
    go_ret
    exact ⟨rfl, 0, rfl⟩
  · have hb := bur_bd hn ht.1 u hu
    have HP : Hid (bur n t R u = R + u * n / t) := bur_pos (by omega)
    have hz : ¬ t = 0 := by omega
    have ht1 := ht.1
    have h0' : ((u : Int) == 0) = false := by simpa using h0
    have hdiv : (u * n : Int).tdiv t = u * n / t := Int.tdiv_eq_ediv_of_nonneg hb.1
    obtain ⟨m, hm⟩ : ∃ m, (u : Int) * n = m := ⟨_, rfl⟩
    obtain ⟨d, hd⟩ : ∃ d, m / t = d := ⟨_, rfl⟩
    have e0 : IntKind.i64.wrap ((u : Int) * n) = m := by rw [hm, IntKind.wrap_i64]; omega
    have e1 : m.tdiv t = d := by rw [← hm, hdiv, hm, hd]
    have e2 : IntKind.i64.wrap d = d := by rw [IntKind.wrap_i64]; rw [hm, hd] at hb; omega
    have e3 : IntKind.i64.wrap (R + d) = R + d := by rw [IntKind.wrap_i64]; rw [hm, hd] at hb; omega
    have HD : Hid ((u : Int) * n / t = d) := by rw [hm, hd]; exact rfl
    clear hb hdiv hm hd hn ht hR
    go_enter Tryd.func23, Tryd.ntmps23
    go_wp2
    go_quiet (fail)
    go_wp2
    go_ret
    exact ⟨by rw [HP.out, HD.out]; rfl, _, rfl⟩
set_option maxHeartbeats 1000000 in
theorem burst_ok (n t R : Int) (T N : Nat) (w : World) (h : okB n t R) (hT : T ≤ 200) (hN : T + 1 = N) :
    Calls Tryd.prog 7 #[.agg #[.int .i64 n, .int .i64 t], .int .i64 R, .int .i64 T] w fun e w' => ∃ s, e = .returned (.tuple #[.slice (some ⟨s, 0, none⟩) N N, .nilIface]) ∧ Row w' (some ⟨s, 0, none⟩) N (bur n t R) ∧ Below w.heap.size w w' := by
  have H : Hid (okB n t R) := h
  have hmf := run_makeFunc
  have hB0 : Below w.heap.size w ((w.alloc (.cells #[.int .i64 n, .int .i64 t] 23)).alloc (.cells #[.int .i64 R] 3)) := ((Below.refl _ _).alloc (Nat.le_refl _) _).alloc (by simp) _
  clear h
  go_enter Tryd.func7, Tryd.ntmps7
  go_wp2_with fail
  refine (line_ok n t R T _ H.out hT).mono ?_
  rintro e w1 ⟨rfl, hb1⟩
  have hB1 : Below w.heap.size w w1 := hB0.trans (hb1.mono (by simp <;> omega))
  go_wp2_with fail
  refine (draw_int _ 23 #[.pointer (some ⟨w.heap.size + 1, 0, none⟩), .pointer (some ⟨w.heap.size, 0, none⟩)] N (by omega) (bur n t R) _ (by omega) entersBurst ?_).mono ?_
  · intro k W hk hb
    have k0 : w1.cell? ⟨w.heap.size + 1, 0, none⟩ = some (.int .i64 R) := by rw [hb1.cell (by simp <;> omega)]; exact cell_newest (by simp)
    have k1 : w1.cell? ⟨w.heap.size, 0, none⟩ = some (.int .i64 n) := by rw [hb1.cell (by simp <;> omega), cell_elder (by simp <;> omega)]; simp
    have k2 : w1.cell? ⟨w.heap.size, 1, none⟩ = some (.int .i64 t) := by rw [hb1.cell (by simp <;> omega), cell_elder (by simp <;> omega)]; simp
    refine (burst1_any n t R k (w.heap.size + 1) w.heap.size W H.out (by omega) ?_ ?_ ?_).mono ?_
    · rw [hb.cell (World.block_lt_of_cell? _ _ k0)]; exact k0
    · rw [hb.cell (World.block_lt_of_cell? _ _ k1)]; exact k1
    · rw [hb.cell (World.block_lt_of_cell? _ _ k2)]; exact k2
    · rintro e W' ⟨rfl, hq⟩
      exact ⟨rfl, below_of_drew hq⟩
  rintro e w2 ⟨s, rfl, hrow, hb2⟩
  have HR : Hid (Row w2 (some ⟨s, 0, none⟩) N (bur n t R)) := hrow
  clear hrow
  go_wp2
  go_ret2
  exact ⟨s, rfl, HR.out, hB1.trans (hb2.mono hB1.size)⟩
end Go.Proofs.YtebahbcmlhdleaaDoor
