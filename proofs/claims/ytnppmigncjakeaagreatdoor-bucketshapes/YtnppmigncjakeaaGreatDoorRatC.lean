/-
  millracebig: Cmp of whole numbers and of fractions. Conditions: lower parts of at least 1, numbers below 2^1600.
-/
import Derived.Test.YtnppmigncjakeaaGreatDoorRatA
namespace Go.Proofs.YtnppmigncjakeaaGreatDoor
open Go.RowKit Go.Deep

/-- -1, 0 or 1. -/
def cmpZ (x y : Int) : Int := if x < y then -1 else if x = y then 0 else 1
theorem cmpZ_same (x y : Int) (h : decide (x < 0) = decide (y < 0)) : cmpZ x y = if decide (x < 0) = true then -(cmpOf x.natAbs y.natAbs) else cmpOf x.natAbs y.natAbs := by
  unfold cmpZ cmpOf
  by_cases hx : x < 0
  · have hy : y < 0 := by simpa [hx] using h.symm
    simp only [hx, decide_true, if_true]
    split <;> split <;> (try split) <;> (try split) <;> omega
  · have hy : ¬ y < 0 := by simpa [hx] using h.symm
    simp only [hx, decide_false, Bool.false_eq_true, if_false]
    split <;> split <;> (try split) <;> (try split) <;> omega
theorem icmp_any (xb xo yb yo : Nat) (x y : Int) (w : World) (hx : IntAt w xb xo x) (hy : IntAt w yb yo y) :
    Calls Tryz.prog 63 #[.pointer (some ⟨xb, xo, none⟩), .pointer (some ⟨yb, yo, none⟩)] w fun e w' => e = .returned (.int .i64 (cmpZ x y)) ∧ Below w.heap.size w w' := by
  obtain ⟨c0, v, c1, hn⟩ := hx
  obtain ⟨d0, u, d1, hm⟩ := hy
  obtain ⟨x0, m, c, rfl, _, _⟩ := hn.form
  obtain ⟨y0, m', c', rfl, _, _⟩ := hm.form
  have HN : Hid (NatAt w (.slice x0 m c) x.natAbs ∧ NatAt w (.slice y0 m' c') y.natAbs) := ⟨hn, hm⟩
  have lx := lt_of_cell c0
  clear hn hm
  by_cases hs : decide (x < 0) = decide (y < 0)
  · have HE : Hid (cmpZ x y = if decide (x < 0) = true then -(cmpOf x.natAbs y.natAbs) else cmpOf x.natAbs y.natAbs) := cmpZ_same x y hs
    have HR : Hid (-1 ≤ cmpOf x.natAbs y.natAbs ∧ cmpOf x.natAbs y.natAbs ≤ 1) := by
      show _ ∧ _
      unfold cmpOf
      split
      · omega
      · split <;> omega
    rw [← hs] at d0
    obtain ⟨sg, hsg⟩ : ∃ sg, decide (x < 0) = sg := ⟨_, rfl⟩
    rw [hsg] at c0 d0 HE
    have HCM : Hid (∀ W : World, Below w.heap.size w W → Calls Tryz.prog 76 #[.slice x0 m c, .slice y0 m' c'] W fun e w' => e = .returned (.int .i64 (cmpOf x.natAbs y.natAbs)) ∧ Below W.heap.size W w') := fun W hW => (cmp_any W (HN.out.1.below hW) (HN.out.2.below hW))
    clear hs hsg HN
    generalize cmpOf x.natAbs y.natAbs = cm at *
    have HC0 : Hid (w.cell? ⟨xb, xo, none⟩ = some (.bool sg)) := c0
    cases sg with
    | false =>
      go_enter Tryz.func63, Tryz.ntmps63
      go_wp2
      go_quiet (fail)
      go_wp2
      go_cut [5] (fun cv wx => cv = .int .i64 cm ∧ Below w.heap.size w wx)
      case first =>
        go_region_with (go_at_call 76; refine (HCM.out _ ?_).mono ?_; (repeat' (first | with_reducible exact Below.refl _ _ | with_reducible refine Below.drew ?_ | with_reducible refine below_drewN ?_ _)); rintro e w1 ⟨rfl, hb1⟩)
        all_goals
          go_wp2
          go_meet
          case rel => exact ⟨rfl, (below_drewN (Below.refl w.heap.size w) _).drew.trans hb1⟩
      case rest =>
        obtain ⟨rfl, hb⟩ := hcut
        have k0 : wc.cell? ⟨xb, xo, none⟩ = some (.bool false) := by rw [hb.cell (p := ⟨xb, xo, none⟩) lx]; exact HC0.out
        go_wp2
        go_ret
        exact ⟨by rw [HE.out]; rfl, hb⟩
    | true =>
      have hng : IntKind.i64.wrap (-cm) = -cm := by have := HR.out; rw [IntKind.wrap_i64]; omega
      go_enter Tryz.func63, Tryz.ntmps63
      go_wp2
      go_quiet (fail)
      go_wp2
      go_cut [5] (fun cv wx => cv = .int .i64 cm ∧ Below w.heap.size w wx)
      case first =>
        go_region_with (go_at_call 76; refine (HCM.out _ ?_).mono ?_; (repeat' (first | with_reducible exact Below.refl _ _ | with_reducible refine Below.drew ?_ | with_reducible refine below_drewN ?_ _)); rintro e w1 ⟨rfl, hb1⟩)
        all_goals
          go_wp2
          go_meet
          case rel => exact ⟨rfl, (below_drewN (Below.refl w.heap.size w) _).drew.trans hb1⟩
      case rest =>
        obtain ⟨rfl, hb⟩ := hcut
        have k0 : wc.cell? ⟨xb, xo, none⟩ = some (.bool true) := by rw [hb.cell (p := ⟨xb, xo, none⟩) lx]; exact HC0.out
        go_wp2
        go_ret
        exact ⟨by rw [HE.out]; rfl, hb⟩
  · by_cases hx0 : x < 0
    · have hy0 : ¬ y < 0 := fun h => hs (by simp [hx0, h])
      have HE : Hid (cmpZ x y = -1) := by show _ = _; unfold cmpZ; rw [if_pos (by omega)]
      have e1 : decide (x < 0) = true := by simpa using hx0
      have e2 : decide (y < 0) = false := by simpa using hy0
      rw [e1] at c0
      rw [e2] at d0
      clear hs hx0 hy0 e1 e2
      go_enter Tryz.func63, Tryz.ntmps63
      go_wp2
      go_quiet (fail)
      go_wp2
      go_ret
      exact ⟨by rw [HE.out]; rfl, below_drewN (Below.refl _ _) _⟩
    · have hy0 : y < 0 := by
        by_cases h : y < 0
        · exact h
        · exact absurd (by simp [hx0, h]) hs
      have HE : Hid (cmpZ x y = 1) := by show _ = _; unfold cmpZ; rw [if_neg (by omega), if_neg (by omega)]
      have e1 : decide (x < 0) = false := by simpa using hx0
      have e2 : decide (y < 0) = true := by simpa using hy0
      rw [e1] at c0
      rw [e2] at d0
      clear hs hx0 hy0 e1 e2
      go_enter Tryz.func63, Tryz.ntmps63
      go_wp2
      go_quiet (fail)
      go_wp2
      go_ret
      exact ⟨by rw [HE.out]; rfl, below_drewN (Below.refl _ _) _⟩
end Go.Proofs.YtnppmigncjakeaaGreatDoor
