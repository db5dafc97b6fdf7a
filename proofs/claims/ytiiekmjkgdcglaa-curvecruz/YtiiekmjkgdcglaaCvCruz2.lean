/-
  millracekeep.CurveCruz is true where both are curves that begin with 0: the great walk; nothing that was there before is otherwise. Conditions: the numbers lie in memory, and a slice is no longer than its room.
-/
import Derived.Test.YtiiekmjkgdcglaaCvCruz
namespace Go.Proofs.Ytiiekmjkgdcglaa
open Go.RowKit Go.Extern.Stop Go.Stop Go.Extern

theorem backlog_k (x y : Option Addr) (cx cy n m : Nat) (f g : Nat → Int) (w : World) (hx : Row w x n f) (hy : Row w y m g) (h1 : okC n f) (h2 : okC m g) (M : Int) (hM : px (fun t => f t - g t) (min n m) = M) :
    Calls Try.prog 16 #[.slice x n cx, .slice y m cy] w fun e w' => e = .returned (.tuple #[.int .i64 M, .nilIface]) ∧ Below w.heap.size w w' := by
  subst hM
  exact (backlog_ok x y cx cy n m f g w hx hy h1 h2).mono fun e w' hh => ⟨hh.1, below_of_drew hh.2⟩
/-- Delay, its answer a number of ticks. -/
theorem delay_n (x y : Option Addr) (cx cy n m : Nat) (f g : Nat → Int) (w : World) (hx : Row w x n f) (hy : Row w y m g) (h1 : okC n f) (h2 : okC m g) (hc : m ≤ cy) :
    Calls Try.prog 18 #[.slice x n cx, .slice y m cy] w fun e w' => ((∃ d : Nat, dlyOk n f m g ∧ dlyV n f m g = d ∧ d ≤ 201 ∧ e = .returned (.tuple #[.int .i64 (d : Int), .nilIface])) ∨ e = .returned (.tuple #[.int .i64 0, .iface 45 (.int .i64 8)])) ∧ Below w.heap.size w w' := by
  refine (delay_k x y cx cy n m f g w hx hy h1 h2 hc).mono ?_
  rintro e w' ⟨⟨d, hd, hv, h0, h3, rfl⟩ | ⟨_, rfl⟩, hb⟩
  · exact ⟨Or.inl ⟨d.toNat, hd, by omega, by omega, by rw [show ((d.toNat : Nat) : Int) = d by omega]⟩, hb⟩
  · exact ⟨Or.inr rfl, hb⟩

set_option maxRecDepth 20000 in
set_option maxHeartbeats 16000000 in
theorem cruz_yes (x y z : Option Addr) (cx cy cz n m L : Nat) (f g h : Nat → Int) (w : World) (hx : Row w x n f) (hy : Row w y m g) (hz : Row w z L h) (q0 : n ≤ cx) (q1 : m ≤ cy) (hL : L ≤ 30) (m0 : cx ≤ maxLen) (k1 : lineOk n f) (k2 : lineOk m g) (z1 : f 0 = 0) (z2 : g 0 = 0) :
    Calls Try.prog 4 #[.slice x n cx, .slice y m cy, .slice z L cz] w fun e w' => e = .returned (.bool true) ∧ Below w.heap.size w w' := by
  have HX : Hid (Row w x n f) := hx
  have HY : Hid (Row w y m g) := hy
  have HZ : Hid (Row w z L h) := hz
  have K1 : Hid (lineOk n f) := k1
  have K2 : Hid (lineOk m g) := k2
  have M0 : Hid (cx ≤ maxLen) := m0
  have b1 := k1.1
  have b2 := k2.1
  have p1 := k1.2.1.pos
  have p2 := k2.2.1.pos
  obtain ⟨bx, ox, rfl⟩ := hx.some p1
  obtain ⟨by', oy, rfl⟩ := hy.some p2
  have Z1 : Hid (f 0 = 0) := z1
  have Z2 : Hid (g 0 = 0) := z2
  clear hx hy hz k1 k2 z1 z2 m0
  go_enter Try.func4, Try.ntmps4
  go_wp2_with fail
  refine (curved_true _).mono ?_
  rintro e w1 ⟨rfl, hb1⟩
  go_wp2_with fail
  refine (lines2 w1 (some ⟨bx, ox, none⟩) (some ⟨by', oy, none⟩) cx cy n m f g (HX.out.below hb1) (HY.out.below hb1) (by unfold maxLen; omega) (by unfold maxLen; omega)).mono ?_
  rintro e w2 ⟨⟨_, rfl⟩ | ⟨hh, rfl⟩, rfl⟩
  case inr => exact absurd ⟨K1.out, K2.out⟩ hh
  have B2 : Hid (Below w.heap.size w (w1.alloc (.cells #[.slice (some ⟨bx, ox, none⟩) n cx, .slice (some ⟨by', oy, none⟩) m cy] 22))) := hb1.alloc hb1.size _
  clear hb1
  generalize w1.alloc (.cells #[.slice (some ⟨bx, ox, none⟩) n cx, .slice (some ⟨by', oy, none⟩) m cy] 22) = w2 at *
  have c1 := (HX.out.below B2.out).at (i := 0) (by omega)
  have c2 := (HY.out.below B2.out).at (i := 0) (by omega)
  rw [Nat.add_zero, Z1.out] at c1
  rw [Nat.add_zero, Z2.out] at c2
  go_wp2_with fail
  refine (come_any z (some ⟨bx, ox, none⟩) cz cx L n h f w2 (HZ.out.below B2.out) (HX.out.below B2.out) K1.out.2.1 (by omega)).mono ?_
  rintro e w3 ⟨zx, K, cK, c, rfl, hrx, hKc, hcm, hnil, hKL, hKn, hfit, hc2, hb3⟩
  have RC : Hid (Row w3 zx K c) := hrx
  have HCM : Hid (cK ≤ maxLen) := hcm
  have HNIL : Hid (zx = none → K = 0 ∧ cK = 0) := hnil
  have HFT : Hid (Fit K c f) := hfit
  have HC2 : Hid (∀ i, i < K → c i < 2000) := hc2
  have B3 : Hid (Below w.heap.size w w3) := B2.out.trans (hb3.mono B2.out.size)
  obtain ⟨J, hJ⟩ : ∃ J, min K (m - 1) = J := ⟨_, rfl⟩
  have HJ : Hid (min K (m - 1) = J) := hJ
  have hJK : J ≤ K := by omega
  have hJm : J + 1 ≤ m := by omega
  clear hrx hcm hnil hfit hc2 hb3 c1 c2 hJ
  have hmi : IntKind.i64.wrap ((m : Int) - 1) = (m : Int) - 1 := by rw [IntKind.wrap_i64]; omega
  go_upto_if 59 with (fail)
  go_cut [7] (fun v wx => v = .slice zx J cK ∧ wx = w3)
  case first =>
    by_cases hlt : m - 1 < K
    · obtain rfl : m = J + 1 := by have := HJ.out; omega
      have hlt' : J < K := by omega
      have hLc : (J : Int) ≤ cK := by omega
      by_cases hz : J = 0
      · obtain rfl : J = 0 := hz
        go_wp2
        go_meet
        case rel => exact ⟨rfl, rfl⟩
      · have hz' : 0 < J := by omega
        go_wp2
        go_meet
        case rel => exact ⟨rfl, rfl⟩
    · obtain rfl : K = J := by have := HJ.out; omega
      have hnlt : (K : Int) ≤ (m : Int) - 1 := by omega
      go_wp2
      go_meet
      case rel => exact ⟨rfl, rfl⟩
  case rest =>
  obtain ⟨rfl, hwc⟩ := hcut
  subst hwc
  clear hmi
  obtain ⟨i0, hi, hz0, hz1, hz2⟩ := info_parts infoInt
  have RJ : Hid (Row wc zx J c) := RC.out.take hJK
  have hJc : (J : Int) ≤ cK := by omega
  have hJ30 : J ≤ 30 := by omega
  obtain ⟨X, hX⟩ : ∃ X, snoc c J 0 = X := ⟨_, rfl⟩
  have HXC : Hid (∀ i, i < J → X i = c i) := fun i hi => by rw [← hX]; exact snoc_lt hi
  have HXJ : Hid (X J = 0) := by rw [← hX]; exact snoc_at _ _ _
  have HXV : Hid (vals c J ++ [.int .i64 0] = vals X (J + 1)) := by rw [← hX]; exact (vals_snoc _ _ _).symm
  have HXB : Hid (∀ i, i < J + 1 → 0 ≤ X i ∧ X i < 2000) := fun i hi => by
    by_cases e : i < J
    · rw [HXC.out i e]; exact ⟨(HFT.out.1 i (by omega)).1, HC2.out i (by omega)⟩
    · obtain rfl : i = J := by omega
      rw [HXJ.out]; omega
  have HFX : Hid (Fit J X f) := (HFT.out.take hJK).congr fun i hi => (HXC.out i hi).symm
  have HTB : Hid (∀ t, t ≤ J + 1 → 0 ≤ tot X t ∧ tot X t ≤ 62000) := fun t ht => by
    have := tot_bd (c := X) (n := J + 1) (B := 2000) (fun i hi => by have := HXB.out i hi; omega) t ht
    omega
  obtain ⟨F1, hF1⟩ : ∃ F, conv (tot X) g = F := ⟨_, rfl⟩
  have HF1 : Hid (conv (tot X) g = F1) := hF1
  obtain ⟨M, hM⟩ : ∃ M, px (fun t => f t - g t) (min n m) = M := ⟨_, rfl⟩
  have HM : Hid (px (fun t => f t - g t) (min n m) = M) := hM
  obtain ⟨r, hr⟩ : ∃ r, (min n m + 1) / 2 = r := ⟨_, rfl⟩
  have HR : Hid ((min n m + 1) / 2 = r) := hr
  obtain ⟨F2, hF2⟩ : ∃ F, bhd (min n m) f g = F := ⟨_, rfl⟩
  have HF2 : Hid (bhd (min n m) f g = F2) := hF2
  have HS1 : Hid (∀ t, t ≤ J → 0 ≤ F1 t ∧ F1 t ≤ tot X t ∧ tot X t - F1 t ≤ M) := fun t ht => by
    rw [← HF1.out, ← HM.out]
    exact ⟨conv_low (fun i hi => (HTB.out i (by omega)).1) (fun i hi => K2.out.2.1.low i (by omega)), cruz_served Z2.out t, cruz_backlog HFX.out Z2.out (by omega) (by omega) ht⟩
  have HS2 : Hid (∀ s t, s ≤ t → t ≤ J → F1 t - F1 s ≤ F2 (t - s)) := fun s t hs ht => by
    rw [← HF1.out, ← HF2.out]
    exact cruz_out HFX.out Z1.out Z2.out (by omega) (by omega) hs ht
  have HS3 : Hid (∀ d : Nat, dlyOk n f m g → dlyV n f m g = d → ∀ t, t + d ≤ J → tot X t ≤ F1 (t + d)) := fun d hd hv t ht => by
    rw [← HF1.out]
    exact cruz_wait HFX.out K2.out.2.1 (by omega) (by omega) hd (by omega) ht
  have HSM : Hid (0 ≤ M ∧ M ≤ 1000000000000) := by
    show 0 ≤ M ∧ M ≤ 1000000000000
    rw [← HM.out]
    refine ⟨px_nonneg _ _, px_le _ _ (by omega) _ fun t ht => ?_⟩
    have := K1.out.2.1.top t (by omega)
    have := K2.out.2.1.low t (by omega)
    omega
  have HSF : Hid (∀ t, t < r → 0 ≤ F2 t ∧ F2 t ≤ 1000000000000) := fun t ht => by
    have hk := okC_bhd K1.out.2.1 K2.out.2.1
    rw [HR.out, HF2.out] at hk
    exact ⟨hk.low t ht, hk.top t ht⟩
  have hr60 : r ≤ 60 := by have := HR.out; omega
  clear hX hF1 hM hr hF2
  go_wp2_with (at_builtin; refine wpList_append_grows _ rfl _ _ 22 rfl 3 i0 (.int .i64 0) 1 8 Try.underlying22 hi hz0 hz1 hz2 rfl (by decide) zx J J (vals c J) rfl (fun e => by have := (HNIL.out e).1; omega) (by rw [vals_length]; omega) (vals_cells (RJ.out.alloc _)) ⟨wc.heap.size, 0, none⟩ 1 1 [.int .i64 0] rfl rfl (cell_new1 _ _ _) (by simp [Value.oneCell']) (by omega) (by unfold maxLen; omega) (by omega) ?_; intro v' w4 hown4 hgrow4)
  have hb4 : Below wc.heap.size wc w4 := ((Below.refl _ _).alloc (Nat.le_refl _) _).grown hgrow4 (by simp) (by simp)
  rw [HXV.out] at hown4
  obtain ⟨x4, c4, rfl, _, _, hr4⟩ := row_of_owns hown4
  have R4 : Hid (Row w4 x4 (J + 1) X) := hr4
  have RJ4 : Hid (Row w4 zx J c) := RJ.out.below hb4
  have B4 : Hid (Below w.heap.size w w4) := B3.out.trans (hb4.mono B3.out.size)
  clear hr4 hb4 hown4 hgrow4 RJ RC
  refine (serve_k x4 (some ⟨by', oy, none⟩) c4 cy (J + 1) m X g w4 R4.out (HY.out.below B4.out) K2.out.2.1 (by omega) (fun i hi => by have := HXB.out i hi; unfold okAmt; omega) F1 (fun t _ => by rw [HF1.out])).mono ?_
  rintro e w5 ⟨s1, rfl, r5, hb5⟩
  have R5 : Hid (Row w5 (some ⟨s1, 0, none⟩) (J + 1) F1) := r5
  have RJ5 : Hid (Row w5 zx J c) := RJ4.out.below hb5
  have B5 : Hid (Below w.heap.size w w5) := B4.out.trans (hb5.mono B4.out.size)
  clear r5 hb5 RJ4 R4
  go_wp2_with fail
  refine (backlog_k (some ⟨bx, ox, none⟩) (some ⟨by', oy, none⟩) cx cy n m f g w5 (HX.out.below B5.out) (HY.out.below B5.out) K1.out.2.1 K2.out.2.1 M HM.out).mono ?_
  rintro e w6 ⟨rfl, hb6⟩
  have R6 : Hid (Row w6 (some ⟨s1, 0, none⟩) (J + 1) F1) := R5.out.below hb6
  have RJ6 : Hid (Row w6 zx J c) := RJ5.out.below hb6
  have B6 : Hid (Below w.heap.size w w6) := B5.out.trans (hb6.mono B5.out.size)
  clear hb6 R5 RJ5
  go_wp2_with fail
  refine (behind_k (some ⟨bx, ox, none⟩) (some ⟨by', oy, none⟩) cx cy n m f g w6 (HX.out.below B6.out) (HY.out.below B6.out) K1.out.2.1 K2.out.2.1 q0 M0.out r HR.out F2 HF2.out).mono ?_
  rintro e w7 ⟨s2, rfl, r7, hb7⟩
  have RF : Hid (Row w7 (some ⟨s2, 0, none⟩) r F2) := r7
  have RB : Hid (Row w7 (some ⟨s1, 0, none⟩) (J + 1) F1) := R6.out.below hb7
  have RJ7 : Hid (Row w7 zx J c) := RJ6.out.below hb7
  have B7 : Hid (Below w.heap.size w w7) := B6.out.trans (hb7.mono B6.out.size)
  clear r7 hb7 R6 RJ6
  go_wp2
  go_loopw [14, 15] (fun v i wr => ∃ t : Nat, t ≤ J + 1 ∧ i = .int .i64 t ∧ v = .int .i64 (tot X t) ∧ ∃ p, wr = w7.drewN p) (fun _ i _ => J + 1 - (intOf i).toNat)
  case atStart => exact ⟨0, Nat.zero_le _, rfl, rfl, 0, rfl⟩
  case round =>
    obtain ⟨t, ht, rfl, rfl, p, rfl⟩ := hrel
    by_cases htl : t < J + 1
    · have hti : (t : Int) < (J : Int) + 1 := by omega
      have c0 := RB.out.at (i := t) htl
      rw [Nat.zero_add] at c0
      have d0 := HS1.out t (by omega)
      have d1 := HSM.out
      have d2 := HTB.out t ht
      have d3 := HTB.out (t + 1) (by omega)
      obtain ⟨u, hu⟩ : ∃ u, tot X t = u := ⟨_, rfl⟩
      have HU : Hid (tot X t = u) := hu
      obtain ⟨u2, hu2⟩ : ∃ u2, tot X (t + 1) = u2 := ⟨_, rfl⟩
      have HU2 : Hid (tot X (t + 1) = u2) := hu2
      have hus : u2 = u + X t := by rw [← hu, ← hu2]; rfl
      have HUS : Hid (u2 = u + X t) := hus
      obtain ⟨v, hv⟩ : ∃ v, F1 t = v := ⟨_, rfl⟩
      have HV : Hid (F1 t = v) := hv
      rw [hu, hv] at d0
      rw [hu] at d2
      rw [hu2] at d3
      rw [hv] at c0
      rw [hu]
      clear hu hu2 hv hus
      have e0 : IntKind.i64.wrap (u - v) = u - v := by rw [IntKind.wrap_i64]; omega
      have e1 : ¬ M < u - v := by omega
      have e2 : ¬ u < v := by omega
      go_wp2
      clear e0 e1 e2
      go_loopw [16] (fun i w2 => ∃ s : Nat, s ≤ t + 1 ∧ i = .int .i64 s ∧ ∃ p, w2 = w7.drewN p) (fun i _ => t + 1 - (intOf i).toNat)
      case atStart => exact ⟨0, Nat.zero_le _, rfl, _, rfl⟩
      case round =>
        obtain ⟨s, hs, rfl, p2, rfl⟩ := hrel
        have ew : IntKind.i64.wrap ((t : Int) - s) = (t : Int) - s := by rw [IntKind.wrap_i64]; omega
        by_cases hst : s ≤ t ∧ t - s < r
        · obtain ⟨hst, hsr⟩ := hst
          have g1 : (s : Int) ≤ t := by omega
          have g2 : (t : Int) - s < r := by omega
          have g3 : (s : Int) < (J : Int) + 1 := by omega
          have c2 := RB.out.at (i := s) (by omega)
          have c3 := RF.out.at (i := t - s) hsr
          rw [Nat.zero_add] at c2 c3
          have n1 := HS2.out s t hst (by omega)
          have n2 := HS1.out s (by omega)
          have n3 := HTB.out s (by omega)
          have n4 := HSF.out (t - s) hsr
          rw [HV.out] at n1
          have e1 : ((t : Int) - s).toNat = t - s := by omega
          generalize F1 s = q at *
          generalize F2 (t - s) = o at *
          have e0 : IntKind.i64.wrap (v - q) = v - q := by rw [IntKind.wrap_i64]; omega
          have e2 : ¬ o < v - q := by omega
          clear n2 n3
          go_wp2
          go_quiet (fail)
          go_wp2
          go_roundw
          case rel => exact ⟨s + 1, by omega, by go_num, _, rfl⟩
          case measure => simp [intOf]; omega
        · have hcase : ¬ (s : Int) ≤ t ∨ ((s : Int) ≤ t ∧ ¬ (t : Int) - s < r) := by omega
          by_cases htJ : t < J
          · obtain ⟨bz, oz, rfl⟩ := RJ7.out.some (by omega)
            have c4 := RJ7.out.at htJ
            rw [← HXC.out t htJ] at c4
            have hxb := HXB.out t (by omega)
            have hus := HUS.out
            generalize X t = xt at *
            have e0 : IntKind.i64.wrap (u + xt) = u2 := by rw [IntKind.wrap_i64]; omega
            clear hus hxb
            rcases hcase with hc | ⟨hc, hc2⟩
            all_goals
              go_wp2
              go_roundw
              case rel => exact ⟨t + 1, by omega, by go_num, by rw [HU2.out], _, rfl⟩
              case measure => simp [intOf]; omega
          · obtain rfl : t = J := by omega
            obtain rfl : u2 = u := by have := HUS.out; rw [HXJ.out] at this; omega
            rcases hcase with hc | ⟨hc, hc2⟩
            all_goals
              go_wp2
              go_roundw
              case rel => exact ⟨t + 1, by omega, by go_num, by rw [HU2.out], _, rfl⟩
              case measure => simp [intOf]
    · obtain rfl : t = J + 1 := by omega
      have htn : ¬ ((J + 1 : Nat) : Int) < (J : Int) + 1 := by omega
      have B8 : Hid (Below w.heap.size w (w7.drewN p)) := below_drewN' B7.out p
      have RB8 : Hid (Row (w7.drewN p) (some ⟨s1, 0, none⟩) (J + 1) F1) := RB.out
      have RJ8 : Hid (Row (w7.drewN p) zx J c) := RJ7.out
      generalize w7.drewN p = w8 at *
      clear RB RJ7 RF
      go_wp2_with fail
      refine (delay_n (some ⟨bx, ox, none⟩) (some ⟨by', oy, none⟩) cx cy n m f g w8 (HX.out.below B8.out) (HY.out.below B8.out) K1.out.2.1 K2.out.2.1 q1).mono ?_
      rintro e w9 ⟨⟨d, hd, hdv, hd201, rfl⟩ | rfl, hb9⟩
      · have RB9 : Hid (Row w9 (some ⟨s1, 0, none⟩) (J + 1) F1) := RB8.out.below hb9
        have RJ9 : Hid (Row w9 zx J c) := RJ8.out.below hb9
        have B9 : Hid (Below w.heap.size w w9) := B8.out.trans (hb9.mono B8.out.size)
        have HSD : Hid (∀ t, t + d ≤ J → tot X t ≤ F1 (t + d)) := HS3.out d hd hdv
        clear hb9 RB8 RJ8 hd hdv
        go_wp2
        go_loop [14, 18] (fun v i => ∃ t : Nat, t ≤ J + 1 ∧ i = .int .i64 t ∧ v = .int .i64 (tot X t)) (fun _ i => J + 1 - (intOf i).toNat)
        case atStart => exact ⟨0, Nat.zero_le _, rfl, rfl⟩
        case round =>
          obtain ⟨t, ht, rfl, rfl⟩ := hrel
          by_cases htd : t + d < J + 1
          · have g1 : (t : Int) + d < (J : Int) + 1 := by omega
            have c0 := RB9.out.at (i := t + d) htd
            rw [Nat.zero_add] at c0
            have n1 := HSD.out t (by omega)
            have d2 := HTB.out t ht
            have d3 := HTB.out (t + 1) (by omega)
            have e1 : ((t : Int) + d).toNat = t + d := by omega
            obtain ⟨u, hu⟩ : ∃ u, tot X t = u := ⟨_, rfl⟩
            obtain ⟨u2, hu2⟩ : ∃ u2, tot X (t + 1) = u2 := ⟨_, rfl⟩
            have HU2 : Hid (tot X (t + 1) = u2) := hu2
            have hus : u2 = u + X t := by rw [← hu, ← hu2]; rfl
            have HUS : Hid (u2 = u + X t) := hus
            rw [hu] at n1 d2
            rw [hu2] at d3
            rw [hu]
            clear hu hu2 hus
            generalize F1 (t + d) = v at *
            have e2 : ¬ v < u := by omega
            by_cases htJ : t < J
            · obtain ⟨bz, oz, rfl⟩ := RJ9.out.some (by omega)
              have c4 := RJ9.out.at htJ
              rw [← HXC.out t htJ] at c4
              have hxb := HXB.out t (by omega)
              have hus := HUS.out
              generalize X t = xt at *
              have e0 : IntKind.i64.wrap (u + xt) = u2 := by rw [IntKind.wrap_i64]; omega
              clear hus hxb
              go_wp2
              go_round
              case rel => exact ⟨t + 1, by omega, by go_num, by rw [HU2.out]⟩
              case measure => simp [intOf]; omega
            · obtain rfl : t = J := by omega
              obtain rfl : u2 = u := by have := HUS.out; rw [HXJ.out] at this; omega
              go_wp2
              go_round
              case rel => exact ⟨t + 1, by omega, by go_num, by rw [HU2.out]⟩
              case measure => simp [intOf]
          · have g1 : ¬ (t : Int) + d < (J : Int) + 1 := by omega
            go_wp2
            go_ret
            exact ⟨rfl, B9.out⟩
      · have B9 : Hid (Below w.heap.size w w9) := B8.out.trans (hb9.mono B8.out.size)
        clear hb9
        go_wp2
        go_ret
        exact ⟨rfl, B9.out⟩
theorem cruz_any (x y z : Option Addr) (cx cy cz n m L : Nat) (f g h : Nat → Int) (w : World) (hx : Row w x n f) (hy : Row w y m g) (hz : Row w z L h) (q0 : n ≤ cx) (q1 : m ≤ cy) (q2 : L ≤ cz) (m0 : cx ≤ maxLen) (m1 : cy ≤ maxLen) (m2 : cz ≤ maxLen) :
    Calls Try.prog 4 #[.slice x n cx, .slice y m cy, .slice z L cz] w fun e w' => e = .returned (.bool true) ∧ Below w.heap.size w w' := by
  by_cases hn : 30 < L
  · exact cruz_long z x y cz cx cy L n m w (Nat.le_trans q2 m2) hn
  by_cases hk : lineOk n f ∧ lineOk m g
  · by_cases hz' : ¬ f 0 = 0 ∨ ¬ g 0 = 0
    · exact cruz_nz z x y cz cx cy L n m f g w hx hy (by omega) hk.1 hk.2 hz'
    · exact cruz_yes x y z cx cy cz n m L f g h w hx hy hz q0 q1 (by omega) m0 hk.1 hk.2 (by omega) (by omega)
  · exact cruz_no z x y cz cx cy L n m f g w hx hy (Nat.le_trans q0 m0) (Nat.le_trans q1 m1) (by omega) hk
end Go.Proofs.Ytiiekmjkgdcglaa
