/-
  millracebig's Rat: norm of a fraction whose lower part is at least 1, at numbers below 2^1600: both parts divided by their greatest common divisor; what stays.
-/
import Derived.Test.YtnppmigncjakeaaGreatDoorGg
import Derived.Test.YtnppmigncjakeaaGreatDoorBig15
import Derived.Deep.DeepCutAuto
namespace Go.Proofs.YtnppmigncjakeaaGreatDoor
open Go.RowKit Go.Deep

set_option maxHeartbeats 4000000 in
set_option maxRecDepth 100000 in
theorem norm_more (b : Nat) (a d : Int) (w : World) (h : RatAt w b a d) (ha : a ≠ 0) (hd : 2 ≤ d) (hA : a.natAbs < 4294967296 ^ 50) (hD : d.natAbs < 4294967296 ^ 50) :
    Calls Tryz.prog 93 #[.pointer (some ⟨b, 0, none⟩)] w fun e w' => e = .returned (.pointer (some ⟨b, 0, none⟩)) ∧ RatAt w' b (a / (gcdOf a d : Int)) (d / (gcdOf a d : Int)) ∧ UpdR b w w' := by
  have H : Hid (RatAt w b a d) := h
  obtain ⟨⟨a1, va, a2, a3⟩, ⟨b1, vb, b2, b3⟩, ⟨_, _, f0, f1⟩, ⟨_, _, f2, f3⟩⟩ := h
  obtain ⟨xa, ka, ca, rfl, ha1, ha2⟩ := a3.form
  obtain ⟨xb, kb, cb, rfl, hb1, hb2⟩ := b3.form
  have e0 : ((kb : Int) == 0) = false := by simp; omega
  have e2 : decide (d < 0) = false := by simp; omega
  have e3 : ((ka : Int) == 0) = false := by simp at ha2 ⊢; omega
  have HA : Hid (NatAt w (.slice xa ka ca) a.natAbs) := a3
  have HB : Hid (NatAt w (.slice xb kb cb) d.natAbs) := b3
  have HX : Hid (a ≠ 0 ∧ 2 ≤ d ∧ a.natAbs < 4294967296 ^ 50 ∧ d.natAbs < 4294967296 ^ 50) := ⟨ha, hd, hA, hD⟩
  have HG : Hid (0 < gcdOf a d) := Nat.gcd_pos_of_pos_left _ (by omega)
  rw [e2] at b1
  have step : Hid (∀ w1, Below w.heap.size w w1 → w1.cell? ⟨b, 0, none⟩ = some (.bool (decide (a < 0))) ∧ w1.cell? ⟨b, 0 + 1, none⟩ = some (.slice xa ka ca) ∧ w1.cell? ⟨b, 2, none⟩ = some (.bool false) ∧ w1.cell? ⟨b, 2 + 1, none⟩ = some (.slice xb kb cb) ∧ w1.frozen? ⟨b, 0 + 1, none⟩ = false ∧ w1.frozen? ⟨b, 2 + 1, none⟩ = false) := by
    intro w1 hb
    exact ⟨by rw [hb.cell (lt_of_cell a1)]; exact a1, by rw [hb.cell (lt_of_cell a2)]; exact a2, by rw [hb.cell (lt_of_cell b1)]; exact b1, by rw [hb.cell (lt_of_cell b2)]; exact b2, by rw [hb.frozen (p := ⟨b, 0 + 1, none⟩) (lt_of_cell a2)]; exact f1, by rw [hb.frozen (p := ⟨b, 2 + 1, none⟩) (lt_of_cell b2)]; exact f3⟩
  have hone : (((kb : Int) == 1) = false ∨ ∃ bb bo, kb = 1 ∧ xb = some ⟨bb, bo, none⟩ ∧ w.cell? ⟨bb, bo, none⟩ = some (.int .u32 (d.natAbs : Int)) ∧ 1 ≤ cb ∧ cb ≤ maxLen) := by
    rcases b3.one with ⟨h1, bb, bo, h2, h3, h4, h5⟩ | ⟨h1, _⟩
    · exact Or.inr ⟨bb, bo, h1, h2, h3, h4, h5⟩
    · exact Or.inl (by simp; omega)
  have hd1 : ((d.natAbs : Int) == 1) = false := by simp; omega
  clear ha2 hb2 a3 b3 ha hd hA hD
  rcases hone with hk | ⟨bb, bo, rfl, rfl, c1, c2, c3⟩
  all_goals
    go_enter Tryz.func93, Tryz.ntmps93
    go_wp2_with fail
    go_cut [3] (fun v wx => (∃ x k c, v = .slice x k c ∧ NatAt wx v (gcdOf a d)) ∧ Below w.heap.size w wx)
    case first =>
      go_region_with (go_at_call 103; refine (common_big _ (by exact HA.out) (by exact HB.out) (by exact HX.out.2.2.1) (by exact HX.out.2.2.2)).mono ?_; rintro e w1 ⟨vg, rfl, hg, hb0⟩)
      all_goals
        go_wp2_with fail
        go_meet
        case rel =>
          obtain ⟨xg, kg, cg, rfl, _, _⟩ := hg.form
          exact ⟨⟨_, _, _, rfl, hg⟩, ((Below.refl _ w).drew).trans hb0⟩
    case rest =>
    obtain ⟨⟨xg, kg, cg, rfl, hg⟩, hb⟩ := hcut
    have hg1 : kg ≤ 1000000 := by obtain ⟨_, _, _, e, h, _⟩ := hg.form; injection e with _ e _; omega
    have HV : Hid (NatAt wc (.slice xg kg cg) (gcdOf a d)) := hg
    obtain ⟨d0, d1, d2, d3, d4, d5⟩ := step.out wc hb
    have HA1 : Hid (NatAt wc (.slice xa ka ca) a.natAbs) := HA.out.below hb
    have HBl : Hid (Below w.heap.size w wc) := hb
    clear a1 a2 b1 b2 f0 f1 f2 f3
    have hcases : (kg = 1 ∧ gcdOf a d = 1 ∧ ∃ gb go, xg = some ⟨gb, go, none⟩ ∧ wc.cell? ⟨gb, go, none⟩ = some (.int .u32 1)) ∨ (kg = 1 ∧ ((gcdOf a d : Int) == 1) = false ∧ ∃ gb go, xg = some ⟨gb, go, none⟩ ∧ wc.cell? ⟨gb, go, none⟩ = some (.int .u32 (gcdOf a d : Int))) ∨ ((kg : Int) == 1) = false := by
      rcases hg.one with ⟨h1, gb, go, h2, h3, _, _⟩ | ⟨h1, _⟩
      · by_cases h4 : gcdOf a d = 1
        · exact Or.inl ⟨h1, h4, gb, go, h2, by rw [h4] at h3; exact h3⟩
        · exact Or.inr (Or.inl ⟨h1, by simp; omega, gb, go, h2, h3⟩)
      · exact Or.inr (Or.inr (by simp; omega))
    clear hg hb
    rcases hcases with ⟨rfl, hg2, gb, go, rfl, k1⟩ | hcases
    · have HE : Hid (gcdOf a d = 1) := hg2
      clear hg2
      go_wp2
      go_ret
      rw [HE.out]
      refine ⟨rfl, ?_, .of_below HBl.out⟩
      have := H.out.below HBl.out
      simpa using this
    · have hcases : (∃ gb go, kg = 1 ∧ ((gcdOf a d : Int) == 1) = false ∧ xg = some ⟨gb, go, none⟩ ∧ wc.cell? ⟨gb, go, none⟩ = some (.int .u32 (gcdOf a d : Int))) ∨ ((kg : Int) == 1) = false := by
        rcases hcases with ⟨h1, h2, gb, go, h3, h4⟩ | h
        · exact Or.inl ⟨gb, go, h1, h2, h3, h4⟩
        · exact Or.inr h
      rcases hcases with ⟨gb, go, rfl, hg2, rfl, k1⟩ | hg2
      all_goals
        go_wp2_with fail
        refine (div_big _ HA1.out HV.out HG.out HX.out.2.2.1).mono ?_
        rintro e w2 ⟨vp, r, rfl, hp, _, hb2⟩
        obtain ⟨xp, kp, cp, rfl, _, _⟩ := hp.form
        have HB2 : Hid (Below w.heap.size w w2 ∧ NatAt w2 (.slice xp kp cp) (a.natAbs / gcdOf a d) ∧ NatAt w2 (.slice _ _ cb) d.natAbs ∧ NatAt w2 (.slice _ _ cg) (gcdOf a d)) := ⟨HBl.out.trans (hb2.mono HBl.out.size), hp, (HB.out.below HBl.out).below hb2, HV.out.below hb2⟩
        clear d0 d1 d2 d3 d4 d5 hp hb2
        obtain ⟨d0, d1, d2, d3, d4, d5⟩ := step.out w2 HB2.out.1
        go_wp2_with fail
        refine (div_big _ HB2.out.2.2.1 HB2.out.2.2.2 HG.out HX.out.2.2.2).mono ?_
        rintro e w3 ⟨vq, r2, rfl, hq, _, hb3⟩
        obtain ⟨xq, kq, cq, rfl, _, _⟩ := hq.form
        have HB3 : Hid (Below w.heap.size w w3 ∧ NatAt w3 (.slice xp kp cp) (a.natAbs / gcdOf a d) ∧ NatAt w3 (.slice xq kq cq) (d.natAbs / gcdOf a d)) := ⟨HB2.out.1.trans (hb3.mono HB2.out.1.size), HB2.out.2.1.below hb3, hq⟩
        clear d0 d1 d2 d3 d4 d5 hq hb3
        obtain ⟨d0, d1, d2, d3, d4, d5⟩ := step.out w3 HB3.out.1
        go_wp2
        go_ret
        obtain ⟨m1, m2⟩ := div_sign HG.out (show gcdOf a d ∣ a.natAbs from Nat.gcd_dvd_left _ _)
        obtain ⟨m3, m4⟩ := div_sign (a := d) HG.out (show gcdOf a d ∣ d.natAbs from Nat.gcd_dvd_right _ _)
        obtain ⟨n1, n2⟩ := norm_stores (H.out.below HB3.out.1) (p := a / (gcdOf a d : Int)) (q := d / (gcdOf a d : Int)) (by rw [m1]; exact HB3.out.2.1) (by rw [m3]; exact HB3.out.2.2) m2 m4
        exact ⟨rfl, n1, (UpdR.of_below HB3.out.1).trans n2⟩
end Go.Proofs.YtnppmigncjakeaaGreatDoor
