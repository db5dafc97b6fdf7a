/-
  millraceref.RateCheck, LineCheck, Line; millracelaw.CurveMakes is true at every rate and numbers; nothing that was there before is otherwise. Condition: errors.errorType holds its handle.
-/
import Derived.Test.YtebahbcmlhdleaaDoorLwErr
import Derived.Test.YtebahbcmlhdleaaDoorCvLate
import Derived.Test.YtebahbcmlhdleaaDoorRatM
namespace Go.Proofs.YtebahbcmlhdleaaDoor
open Go.RowKit Go.Deep Go.Extern.Stop Go.Stop Go.Extern

theorem rrate_yes (n t : Int) (w : World) (h : okRate n t = true) : Calls Tryd.prog 15 #[.agg #[.int .i64 n, .int .i64 t]] w fun e w' => e = .returned (.int .i64 0) ∧ w' = w.alloc (.cells #[.int .i64 n, .int .i64 t] 23) := by
  simp only [okRate, wth, Bool.and_eq_true, decide_eq_true_eq] at h
  have H1 : Hid (∀ W, Calls Tryd.prog 16 #[.int .i64 n, .int .i64 1, .int .i64 1000000] W fun e w' => e = .returned (.bool true) ∧ w' = W) := fun W => within_yes _ _ _ W (by omega) (by omega)
  have H2 : Hid (∀ W, Calls Tryd.prog 16 #[.int .i64 t, .int .i64 1, .int .i64 1000000] W fun e w' => e = .returned (.bool true) ∧ w' = W) := fun W => within_yes _ _ _ W (by omega) (by omega)
  clear h
  go_enter Tryd.func15, Tryd.ntmps15
  go_wp2_with fail
  refine (H1.out _).mono ?_
  rintro e w1 ⟨rfl, rfl⟩
  go_wp2_with fail
  refine (H2.out _).mono ?_
  rintro e w2 ⟨rfl, rfl⟩
  go_wp2
  go_ret
  exact ⟨rfl, rfl⟩
theorem rrate_no (n t : Int) (w : World) (h : okRate n t = false) : Calls Tryd.prog 15 #[.agg #[.int .i64 n, .int .i64 t]] w fun e w' => e = .returned (.int .i64 2) ∧ w' = w.alloc (.cells #[.int .i64 n, .int .i64 t] 23) := by
  by_cases h1 : n < 1 ∨ 1000000 < n
  · have H1 : Hid (∀ W, Calls Tryd.prog 16 #[.int .i64 n, .int .i64 1, .int .i64 1000000] W fun e w' => e = .returned (.bool false) ∧ w' = W) := fun W => within_no _ _ _ W (by omega)
    clear h h1
    go_enter Tryd.func15, Tryd.ntmps15
    go_wp2_with fail
    refine (H1.out _).mono ?_
    rintro e w1 ⟨rfl, rfl⟩
    go_wp2
    go_ret
    exact ⟨rfl, rfl⟩
  · have h2 : t < 1 ∨ 1000000 < t := by
      by_cases h2 : t < 1 ∨ 1000000 < t
      · exact h2
      · exfalso
        have : okRate n t = true := by simp only [okRate, wth, Bool.and_eq_true, decide_eq_true_eq]; omega
        rw [this] at h; cases h
    have H1 : Hid (∀ W, Calls Tryd.prog 16 #[.int .i64 n, .int .i64 1, .int .i64 1000000] W fun e w' => e = .returned (.bool true) ∧ w' = W) := fun W => within_yes _ _ _ W (by omega) (by omega)
    have H2 : Hid (∀ W, Calls Tryd.prog 16 #[.int .i64 t, .int .i64 1, .int .i64 1000000] W fun e w' => e = .returned (.bool false) ∧ w' = W) := fun W => within_no _ _ _ W (by omega)
    clear h h1 h2
    go_enter Tryd.func15, Tryd.ntmps15
    go_wp2_with fail
    refine (H1.out _).mono ?_
    rintro e w1 ⟨rfl, rfl⟩
    go_wp2_with fail
    refine (H2.out _).mono ?_
    rintro e w2 ⟨rfl, rfl⟩
    go_wp2
    go_ret
    exact ⟨rfl, rfl⟩
set_option maxHeartbeats 1000000 in
theorem rlcheck_any (n t R T : Int) (w : World) : Calls Tryd.prog 5 #[.agg #[.int .i64 n, .int .i64 t], .int .i64 R, .int .i64 T] w fun e w' => e = .returned (.int .i64 (lineE n t R T)) ∧ Below w.heap.size w w' := by
  have hB : Below w.heap.size w ((w.alloc (.cells #[.int .i64 n, .int .i64 t] 23)).alloc (.cells #[.int .i64 n, .int .i64 t] 23)) := ((Below.refl _ _).alloc (Nat.le_refl _) _).alloc (by simp) _
  cases hr : okRate n t with
  | false =>
    rw [show lineE n t R T = 2 from if_pos (Or.inl hr)]
    have HR : Hid (okRate n t = false) := hr
    clear hr
    go_enter Tryd.func5, Tryd.ntmps5
    go_wp2_with fail
    refine (rrate_no _ _ _ HR.out).mono ?_
    rintro e w1 ⟨rfl, rfl⟩
    go_wp2
    go_ret
    exact ⟨rfl, hB⟩
  | true =>
    have HR : Hid (okRate n t = true) := hr
    by_cases h1 : R < 0 ∨ 1000000 < R
    · rw [show lineE n t R T = 2 from if_pos (Or.inr h1)]
      have HA : Hid (∀ W, Calls Tryd.prog 16 #[.int .i64 R, .int .i64 0, .int .i64 1000000] W fun e w' => e = .returned (.bool false) ∧ w' = W) := fun W => within_no _ _ _ W h1
      clear hr h1
      go_enter Tryd.func5, Tryd.ntmps5
      go_wp2_with fail
      refine (rrate_yes _ _ _ HR.out).mono ?_
      rintro e w1 ⟨rfl, rfl⟩
      go_wp2_with fail
      refine (HA.out _).mono ?_
      rintro e w2 ⟨rfl, rfl⟩
      go_wp2
      go_ret
      exact ⟨rfl, hB⟩
    · have HA : Hid (∀ W, Calls Tryd.prog 16 #[.int .i64 R, .int .i64 0, .int .i64 1000000] W fun e w' => e = .returned (.bool true) ∧ w' = W) := fun W => within_yes _ _ _ W (by omega) (by omega)
      have hn1 : ¬ (okRate n t = false ∨ R < 0 ∨ 1000000 < R) := by rw [hr]; simp; omega
      by_cases hT : T < 0 ∨ 200 < T
      · have hE : lineE n t R T = 4 := by unfold lineE; rw [if_neg hn1, if_pos hT]
        rw [hE]
        have HT : Hid (∀ W, Calls Tryd.prog 16 #[.int .i64 T, .int .i64 0, .int .i64 200] W fun e w' => e = .returned (.bool false) ∧ w' = W) := fun W => within_no _ _ _ W hT
        clear hr h1 hT hE hn1
        go_enter Tryd.func5, Tryd.ntmps5
        go_wp2_with fail
        refine (rrate_yes _ _ _ HR.out).mono ?_
        rintro e w1 ⟨rfl, rfl⟩
        go_wp2_with fail
        refine (HA.out _).mono ?_
        rintro e w2 ⟨rfl, rfl⟩
        go_wp2_with fail
        refine (HT.out _).mono ?_
        rintro e w2 ⟨rfl, rfl⟩
        go_wp2
        go_ret
        exact ⟨rfl, hB⟩
      · have hE : lineE n t R T = 0 := by unfold lineE; rw [if_neg hn1, if_neg hT]
        rw [hE]
        have HT : Hid (∀ W, Calls Tryd.prog 16 #[.int .i64 T, .int .i64 0, .int .i64 200] W fun e w' => e = .returned (.bool true) ∧ w' = W) := fun W => within_yes _ _ _ W (by omega) (by omega)
        clear hr h1 hT hE hn1
        go_enter Tryd.func5, Tryd.ntmps5
        go_wp2_with fail
        refine (rrate_yes _ _ _ HR.out).mono ?_
        rintro e w1 ⟨rfl, rfl⟩
        go_wp2_with fail
        refine (HA.out _).mono ?_
        rintro e w2 ⟨rfl, rfl⟩
        go_wp2_with fail
        refine (HT.out _).mono ?_
        rintro e w2 ⟨rfl, rfl⟩
        go_wp2
        go_ret
        exact ⟨rfl, hB⟩

/-- The reference's line. -/
def lin (n t room wait : Int) (u : Nat) : Int := behi wait u * n / t + (if 0 < u then room else 0)
theorem lin_bur (n t R : Int) (u : Nat) : lin n t R 0 u = bur n t R u := by
  unfold lin bur behi
  by_cases h : u = 0
  · subst h; simp
  · rw [if_pos (by omega), if_pos (by omega), if_neg h]; simp; omega
theorem lin_lat (n t R : Int) (u : Nat) : lin n t 0 R u = lat n t R u := by
  unfold lin lat; split <;> omega
set_option maxRecDepth 20000 in
set_option maxHeartbeats 4000000 in
theorem rline_any (n t room wait : Int) (T N : Nat) (w : World) (h : okRate n t = true) (hr : 0 ≤ room ∧ room ≤ 1000000) (hw : 0 ≤ wait ∧ wait ≤ 1000000) (hT : T ≤ 200) (hN : T + 1 = N) :
    Calls Tryd.prog 6 #[.agg #[.int .i64 n, .int .i64 t], .int .i64 room, .int .i64 wait, .int .i64 T] w fun e w' => ∃ z cz, e = .returned (.slice z N cz) ∧ Row w' z N (lin n t room wait) ∧ Below w.heap.size w w' := by
  obtain ⟨i0, hi, hz0, hz1, hz2⟩ := info_parts infoInt
  simp only [okRate, wth, Bool.and_eq_true, decide_eq_true_eq] at h
  have HN : Hid ((1 ≤ n ∧ n ≤ 1000000) ∧ 1 ≤ t ∧ t ≤ 1000000) := by show _ ∧ _ ∧ _; omega
  have HW : Hid (0 ≤ wait ∧ wait ≤ 1000000) := hw
  have HRM : Hid (0 ≤ room ∧ room ≤ 1000000) := hr
  have b0 : Below w.heap.size w (w.alloc (.cells #[.int .i64 n, .int .i64 t] 23)) := (Below.refl _ _).alloc (Nat.le_refl _) _
  have HB0 : Hid (Below w.heap.size w (w.alloc (.cells #[.int .i64 n, .int .i64 t] 23))) := b0
  have HK : Hid ((w.alloc (.cells #[.int .i64 n, .int .i64 t] 23)).cell? ⟨w.heap.size, 0, none⟩ = some (.int .i64 n) ∧ (w.alloc (.cells #[.int .i64 n, .int .i64 t] 23)).cell? ⟨w.heap.size, 1, none⟩ = some (.int .i64 t)) := ⟨by simp, by simp⟩
  have hr0 := hr.1
  have hr1 := hr.2
  have hw0 := hw.1
  have hw1 := hw.2
  clear h hr hw b0
  go_enter Tryd.func6, Tryd.ntmps6
  go_wp2
  generalize hW1 : w.alloc (.cells #[.int .i64 n, .int .i64 t] 23) = wb at *
  have hsz : wb.heap.size = w.heap.size + 1 := by rw [← hW1]; simp
  have HSZ : Hid (wb.heap.size = w.heap.size + 1) := hsz
  clear hW1 hsz
  go_loopw [9, 10] (fun o i wr => ∃ k : Nat, k ≤ N ∧ i = .int .i64 k ∧ wr.ownsRow wb.heap.size 3 1 o k (vals (lin n t room wait) k) ∧ Below wb.heap.size wb wr) (fun _ i _ => N - (intOf i).toNat)
  case atStart => exact ⟨0, Nat.zero_le _, rfl, World.ownsRow_nil wb _ _ _, Below.refl _ _⟩
  case round =>
    obtain ⟨k, hk, rfl, hown, hbel⟩ := hrel
    have HO : Hid (wr.ownsRow wb.heap.size 3 1 u9 k (vals (lin n t room wait) k)) := hown
    have HB : Hid (Below wb.heap.size wb wr) := hbel
    have hlt0 : w.heap.size < wb.heap.size := by have := HSZ.out; omega
    have KK : Hid (∀ W, Below wb.heap.size wb W → W.cell? ⟨w.heap.size, 0, none⟩ = some (.int .i64 n) ∧ W.cell? ⟨w.heap.size, 1, none⟩ = some (.int .i64 t)) := fun W hW => ⟨by rw [hW.cell hlt0]; exact HK.out.1, by rw [hW.cell hlt0]; exact HK.out.2⟩
    have q0 := (KK.out wr hbel).1
    have q1 := (KK.out wr hbel).2
    clear hown hbel
    by_cases hlt : k < N
    · have hki : (k : Int) ≤ T := by omega
      have es : IntKind.i64.wrap ((k : Int) - wait) = (k : Int) - wait := by rw [IntKind.wrap_i64]; omega
      obtain ⟨m, hm⟩ : ∃ m, behi wait k = m := ⟨_, rfl⟩
      have HM : Hid (behi wait k = m) := hm
      have hmb := behi_bd (R := wait) hw0 (u := k) (by omega)
      rw [hm] at hmb
      have hlb := lat_bd HN.out.1 HN.out.2.1 hmb.1 hmb.2
      have HX : Hid (0 ≤ m ∧ m ≤ 200) := hmb
      have HLB : Hid (0 ≤ m * n ∧ m * n ≤ 200000000 ∧ 0 ≤ m * n / t ∧ m * n / t ≤ 200000000) := hlb
      have HIF : Hid ((if wait < (k : Int) then (k : Int) - wait else 0) = m) := by
        show _ = _
        rw [← hm]
        unfold behi
        by_cases hwk : wait < (k : Int)
        · rw [if_pos hwk, if_pos (by omega)]
        · rw [if_neg hwk, if_neg (by omega)]
      have HLV : Hid (lin n t room wait k = m * n / t + (if 0 < k then room else 0)) := by show behi wait k * n / t + _ = _; rw [hm]
      have HBD : Hid ((m.natAbs < 18446744073709551616 ∧ (1 : Int).natAbs < 18446744073709551616 ∧ n.natAbs < 18446744073709551616 ∧ t.natAbs < 18446744073709551616) ∧ m.natAbs * n.natAbs < 18446744073709551616 ∧ (1 : Int).natAbs * t.natAbs < 18446744073709551616) := by
        have h1 := HN.out
        have h2 : m.natAbs * n.natAbs ≤ 200 * 1000000 := Nat.mul_le_mul (by omega) (by omega)
        refine ⟨⟨by omega, by simp, by omega, by omega⟩, by omega, by simp; omega⟩
      have D0 : Hid (Below wr.heap.size wr wr.drew) := (Below.refl _ _).drew
      have KW : Hid (∀ W, Below wr.heap.size wr W → W.cell? ⟨w.heap.size, 0, none⟩ = some (.int .i64 n) ∧ W.cell? ⟨w.heap.size, 1, none⟩ = some (.int .i64 t)) := fun W hW => KK.out W (HB.out.trans (hW.mono HB.out.size))
      have hif := HIF.out
      clear hm hmb hlb
      go_wp2
      go_region_held3 (fun W => W.cell? ⟨w.heap.size, 0, none⟩ = some (.int .i64 n) ∧ W.cell? ⟨w.heap.size, 1, none⟩ = some (.int .i64 t)) (first | exact KW.out _ D4.out | exact KW.out _ D3.out | exact KW.out _ D2.out | exact KW.out _ D1.out | exact KW.out _ D0.out)
        (first
          | (go_at_call 19; refine (refInt_any m _ (by have := HX.out; omega)).mono ?_; rintro e w1 ⟨b1, rfl, g1, f1, l1⟩; have F1 : Hid (Frac w1 b1 m 1) := f1; have D1 : Hid (Below wr.heap.size wr w1) := D0.out.trans (l1.mono D0.out.size); clear f1 l1 g1)
          | (go_at_call 20; refine (refSpeed_any n t _ (by have := HN.out; omega) (by have := HN.out; omega)).mono ?_; rintro e w2 ⟨b2, rfl, g2, f2, l2⟩; have F2 : Hid (Frac w2 b2 n t ∧ Frac w2 b1 m 1) := ⟨f2, F1.out.below l2⟩; have D2 : Hid (Below wr.heap.size wr w2) := D1.out.trans (l2.mono D1.out.size); clear f2 l2 g2)
          | (go_at_call 18; refine (refMul_any b1 b2 m 1 n t _ F2.out.2 F2.out.1 HBD.out.1 HBD.out.2.1 HBD.out.2.2).mono ?_; rintro e w3 ⟨b3, rfl, g3, ⟨a3, d3, h3, hc3, e3, la3, lc3⟩, l3⟩; have F3 : Hid (RatAt w3 b3 a3 d3 ∧ 1 ≤ d3 ∧ a3 * (1 * t) = m * n * d3 ∧ a3.natAbs ≤ (m * n).natAbs ∧ d3.natAbs ≤ (1 * t).natAbs) := ⟨h3, hc3, e3, la3, lc3⟩; have D3 : Hid (Below wr.heap.size wr w3) := D2.out.trans (l3.mono D2.out.size); clear h3 hc3 e3 la3 lc3 l3 g3)
          | (go_at_call 17; refine (down_any b3 a3 d3 _ F3.out.1 F3.out.2.1 (by have := F3.out.2.2.2.1; have := HLB.out; omega) (by have := F3.out.2.2.2.2; have := HN.out; omega)).mono ?_; rintro e w4 ⟨rfl, l4⟩; have D4 : Hid (Below wr.heap.size wr w4) := D3.out.trans (l4.mono D3.out.size); clear l4))
      all_goals
        have hfl : a3 / d3 = m * n / t := by
          have h1 := frac_floor (P := m * n) (Q := 1 * t) F3.out.2.1 (by have := HN.out; omega) F3.out.2.2.1
          rw [h1, Int.one_mul]
        rw [hfl]
        clear hfl F3
        obtain ⟨d, hd⟩ : ∃ d, m * n / t = d := ⟨_, rfl⟩
        have hdb : 0 ≤ d ∧ d ≤ 200000000 := by rw [← hd]; exact HLB.out.2.2
        have HD : Hid (m * n / t = d) := hd
        rw [hd]
        clear hd
        by_cases hk0 : 0 < k
        · have HLN : Hid (lin n t room wait k = d + room) := by show lin n t room wait k = _; rw [HLV.out, HD.out, if_pos hk0]
          have e0 : IntKind.i64.wrap (d + room) = d + room := by rw [IntKind.wrap_i64]; omega
          go_wp2_with (at_builtin; refine wpList_append_own _ rfl _ _ 26 rfl wb.heap.size 3 i0 (.int .i64 0) 1 8 Tryd.underlying26 hi hz0 hz1 hz2 rfl (by decide) _ _ _ rfl ((ownsRow_below HO.out D4.out).alloc _) ⟨w4.heap.size, 0, none⟩ 1 1 [.int .i64 (d + room)] rfl rfl (cell_new1 _ _ _) (by simp [Value.oneCell']) (by unfold maxLen; omega) (by omega) (by simp; have := D4.out.size; have := HB.out.size; omega) ?_; intro v' w5 hown5 hgrow5 _)
          go_roundw
          case rel =>
            have hb4 : Below wb.heap.size wb w4 := HB.out.trans (D4.out.mono HB.out.size)
            have hb5 : Below wb.heap.size wb w5 := (hb4.alloc hb4.size _).grown hgrow5 (by simp; have := hb4.size; omega) (fun i e => (HO.out.lt i e).1)
            exact ⟨k + 1, by omega, by go_num, by rw [vals_succ, HLN.out]; exact hown5, hb5⟩
          case measure => simp [intOf]; omega
        · have HLN : Hid (lin n t room wait k = d) := by show lin n t room wait k = _; rw [HLV.out, HD.out, if_neg hk0]; omega
          go_wp2_with (at_builtin; refine wpList_append_own _ rfl _ _ 26 rfl wb.heap.size 3 i0 (.int .i64 0) 1 8 Tryd.underlying26 hi hz0 hz1 hz2 rfl (by decide) _ _ _ rfl ((ownsRow_below HO.out D4.out).alloc _) ⟨w4.heap.size, 0, none⟩ 1 1 [.int .i64 d] rfl rfl (cell_new1 _ _ _) (by simp [Value.oneCell']) (by unfold maxLen; omega) (by omega) (by simp; have := D4.out.size; have := HB.out.size; omega) ?_; intro v' w5 hown5 hgrow5 _)
          go_roundw
          case rel =>
            have hb4 : Below wb.heap.size wb w4 := HB.out.trans (D4.out.mono HB.out.size)
            have hb5 : Below wb.heap.size wb w5 := (hb4.alloc hb4.size _).grown hgrow5 (by simp; have := hb4.size; omega) (fun i e => (HO.out.lt i e).1)
            exact ⟨k + 1, by omega, by go_num, by rw [vals_succ, HLN.out]; exact hown5, hb5⟩
          case measure => simp [intOf]; omega
    · obtain rfl : k = N := by omega
      have hki : ¬ (k : Int) ≤ T := by omega
      obtain ⟨z, cz, rfl, _, _, hrow⟩ := row_of_owns HO.out
      have HR : Hid (Row wr z k (lin n t room wait)) := hrow
      have HE : Hid (Below w.heap.size w wr) := HB0.out.trans (HB.out.mono HB0.out.size)
      clear hrow
      go_wp2
      go_ret
      exact ⟨z, ⟨cz, rfl⟩, HR.out, HE.out⟩
theorem burst_int (n t R T : Int) (N : Nat) (w : World) (h : okB n t R) (h0 : 0 ≤ T) (h1 : T ≤ 200) (hN : T + 1 = N) :
    Calls Tryd.prog 7 #[.agg #[.int .i64 n, .int .i64 t], .int .i64 R, .int .i64 T] w fun e w' => ∃ s, e = .returned (.tuple #[.slice (some ⟨s, 0, none⟩) N N, .nilIface]) ∧ Row w' (some ⟨s, 0, none⟩) N (bur n t R) ∧ Below w.heap.size w w' := by
  obtain ⟨k, rfl⟩ := Int.eq_ofNat_of_zero_le h0
  exact burst_ok n t R k N w h (by omega) (by omega)
theorem late_int (n t R T : Int) (N : Nat) (w : World) (h : okB n t R) (h0 : 0 ≤ T) (h1 : T ≤ 200) (hN : T + 1 = N) :
    Calls Tryd.prog 8 #[.agg #[.int .i64 n, .int .i64 t], .int .i64 R, .int .i64 T] w fun e w' => ∃ s, e = .returned (.tuple #[.slice (some ⟨s, 0, none⟩) N N, .nilIface]) ∧ Row w' (some ⟨s, 0, none⟩) N (lat n t R) ∧ Below w.heap.size w w' := by
  obtain ⟨k, rfl⟩ := Int.eq_ofNat_of_zero_le h0
  exact late_ok n t R k N w h (by omega) (by omega)
theorem rline_int (n t room wait T : Int) (N : Nat) (w : World) (h : okRate n t = true) (hr : 0 ≤ room ∧ room ≤ 1000000) (hw : 0 ≤ wait ∧ wait ≤ 1000000) (h0 : 0 ≤ T) (h1 : T ≤ 200) (hN : T + 1 = N) (F : Nat → Int) (hF : ∀ u, lin n t room wait u = F u) :
    Calls Tryd.prog 6 #[.agg #[.int .i64 n, .int .i64 t], .int .i64 room, .int .i64 wait, .int .i64 T] w fun e w' => ∃ z cz, e = .returned (.slice z N cz) ∧ Row w' z N F ∧ Below w.heap.size w w' := by
  obtain ⟨k, rfl⟩ := Int.eq_ofNat_of_zero_le h0
  refine (rline_any n t room wait k N w h hr hw (by omega) (by omega)).mono ?_
  rintro e w' ⟨z, cz, rfl, hrow, hb⟩
  exact ⟨z, cz, rfl, hrow.congr fun i _ => hF i, hb⟩
set_option maxRecDepth 20000 in
set_option maxHeartbeats 2000000 in
theorem cmake_no (n t R T : Int) (w : World) (hL : Laid w) (h : lineE n t R T ≠ 0) :
    Calls Tryd.prog 3 #[.agg #[.int .i64 n, .int .i64 t], .int .i64 R, .int .i64 T] w fun e w' => e = .returned (.bool true) ∧ Below w.heap.size w w' := by
  have HC : Hid (∀ W, Calls Tryd.prog 5 #[.agg #[.int .i64 n, .int .i64 t], .int .i64 R, .int .i64 T] W fun e w' => e = .returned (.int .i64 (lineE n t R T)) ∧ Below W.heap.size W w') := fun W => rlcheck_any n t R T W
  have H1 : Hid (∀ W, Calls Tryd.prog 7 #[.agg #[.int .i64 n, .int .i64 t], .int .i64 R, .int .i64 T] W fun e w' => e = .returned (.tuple #[.slice none 0 0, .iface 24 (.int .i64 (lineE n t R T))]) ∧ Below W.heap.size W w') := fun W => burst_no n t R T W h
  have H2 : Hid (∀ W, Calls Tryd.prog 8 #[.agg #[.int .i64 n, .int .i64 t], .int .i64 R, .int .i64 T] W fun e w' => e = .returned (.tuple #[.slice none 0 0, .iface 24 (.int .i64 (lineE n t R T))]) ∧ Below W.heap.size W w') := fun W => late_no n t R T W h
  have HB : Hid (∀ W, Laid W → Calls Tryd.prog 9 #[.iface 24 (.int .i64 (lineE n t R T)), .int .i64 (lineE n t R T)] W fun e w' => e = .returned (.bool true) ∧ Below W.heap.size W w') := fun W hW => bare_no _ W hW h
  have HLA : Hid (Laid w) := hL
  clear hL
  generalize lineE n t R T = E at *
  have hE' : (E == 0) = false := by simpa using h
  clear h
  have hB0 : Below w.heap.size w (w.alloc (.cells #[.int .i64 n, .int .i64 t] 23)) := (Below.refl _ _).alloc (Nat.le_refl _) _
  go_enter Tryd.func3, Tryd.ntmps3
  go_wp2_with fail
  refine (HC.out _).mono ?_
  rintro e w1 ⟨rfl, hb1⟩
  have K1 : Hid (w1.cell? ⟨w.heap.size, 0, none⟩ = some (.int .i64 n) ∧ w1.cell? ⟨w.heap.size, 1, none⟩ = some (.int .i64 t)) := ⟨by rw [hb1.cell (by simp)]; simp, by rw [hb1.cell (by simp)]; simp⟩
  have B1 : Hid (Below w.heap.size w w1) := hB0.trans (hb1.mono (by simp))
  have q0 := K1.out.1
  have q1 := K1.out.2
  clear hb1 hB0
  go_wp2_with fail
  refine (H1.out _).mono ?_
  rintro e w2 ⟨rfl, hb2⟩
  have r0 : w2.cell? ⟨w.heap.size, 0, none⟩ = some (.int .i64 n) := by rw [hb2.cell (World.block_lt_of_cell? _ _ K1.out.1)]; exact K1.out.1
  have r1 : w2.cell? ⟨w.heap.size, 1, none⟩ = some (.int .i64 t) := by rw [hb2.cell (World.block_lt_of_cell? _ _ K1.out.2)]; exact K1.out.2
  have B2 : Hid (Below w.heap.size w w2) := B1.out.trans (hb2.mono B1.out.size)
  clear hb2 q0 q1
  go_wp2_with fail
  refine (H2.out _).mono ?_
  rintro e w3 ⟨rfl, hb3⟩
  have B3 : Hid (Below w.heap.size w w3) := B2.out.trans (hb3.mono B2.out.size)
  clear hb3 r0 r1
  go_wp2_with fail
  refine (HB.out w3 (HLA.out.below B3.out)).mono ?_
  rintro e w4 ⟨rfl, hb4⟩
  have B4 : Hid (Below w.heap.size w w4) := B3.out.trans (hb4.mono B3.out.size)
  clear hb4
  go_wp2_with fail
  refine (HB.out w4 (HLA.out.below B4.out)).mono ?_
  rintro e w5 ⟨rfl, hb5⟩
  have B5 : Hid (Below w.heap.size w w5) := B4.out.trans (hb5.mono B4.out.size)
  clear hb5
  go_wp2_with fail
  refine (lsame_any none none 0 0 0 (fun _ => 0) w5 (Nat.zero_le _) (Or.inl rfl) (Or.inl rfl)).mono ?_
  rintro e w6 ⟨rfl, hq6⟩
  have B6 : Hid (Below w.heap.size w w6) := B5.out.trans (below_of_drew hq6)
  clear hq6
  go_wp2_with fail
  refine (lsame_any none none 0 0 0 (fun _ => 0) w6 (Nat.zero_le _) (Or.inl rfl) (Or.inl rfl)).mono ?_
  rintro e w7 ⟨rfl, hq7⟩
  have B7 : Hid (Below w.heap.size w w7) := B6.out.trans (below_of_drew hq7)
  clear hq7
  go_wp2
  go_ret
  exact ⟨rfl, B7.out⟩
set_option maxRecDepth 20000 in
set_option maxHeartbeats 4000000 in
theorem cmake_yes (n t R T : Int) (w : World) (hL : Laid w) (h : lineE n t R T = 0) :
    Calls Tryd.prog 3 #[.agg #[.int .i64 n, .int .i64 t], .int .i64 R, .int .i64 T] w fun e w' => e = .returned (.bool true) ∧ Below w.heap.size w w' := by
  obtain ⟨hok, hT0, hT1⟩ := lineE_zero.1 h
  obtain ⟨N, hN⟩ : ∃ N : Nat, T + 1 = N := ⟨(T + 1).toNat, by omega⟩
  have hrt := okRate_of hok
  have hN201 : N ≤ 201 := by omega
  have HC : Hid (∀ W, Calls Tryd.prog 5 #[.agg #[.int .i64 n, .int .i64 t], .int .i64 R, .int .i64 T] W fun e w' => e = .returned (.int .i64 0) ∧ Below W.heap.size W w') := fun W => by have := rlcheck_any n t R T W; rw [h] at this; exact this
  have H1 : Hid (∀ W, Calls Tryd.prog 7 #[.agg #[.int .i64 n, .int .i64 t], .int .i64 R, .int .i64 T] W fun e w' => ∃ s, e = .returned (.tuple #[.slice (some ⟨s, 0, none⟩) N N, .nilIface]) ∧ Row w' (some ⟨s, 0, none⟩) N (bur n t R) ∧ Below W.heap.size W w') := fun W => burst_int n t R T N W hok hT0 hT1 hN
  have H2 : Hid (∀ W, Calls Tryd.prog 8 #[.agg #[.int .i64 n, .int .i64 t], .int .i64 R, .int .i64 T] W fun e w' => ∃ s, e = .returned (.tuple #[.slice (some ⟨s, 0, none⟩) N N, .nilIface]) ∧ Row w' (some ⟨s, 0, none⟩) N (lat n t R) ∧ Below W.heap.size W w') := fun W => late_int n t R T N W hok hT0 hT1 hN
  have L1 : Hid (∀ W, Calls Tryd.prog 6 #[.agg #[.int .i64 n, .int .i64 t], .int .i64 R, .int .i64 0, .int .i64 T] W fun e w' => ∃ z cz, e = .returned (.slice z N cz) ∧ Row w' z N (bur n t R) ∧ Below W.heap.size W w') := fun W => rline_int n t R 0 T N W hrt hok.2.2 (by omega) hT0 hT1 hN _ (lin_bur n t R)
  have L2 : Hid (∀ W, Calls Tryd.prog 6 #[.agg #[.int .i64 n, .int .i64 t], .int .i64 0, .int .i64 R, .int .i64 T] W fun e w' => ∃ z cz, e = .returned (.slice z N cz) ∧ Row w' z N (lat n t R) ∧ Below W.heap.size W w') := fun W => rline_int n t 0 R T N W hrt (by omega) hok.2.2 hT0 hT1 hN _ (lin_lat n t R)
  have HLA : Hid (Laid w) := hL
  clear hL h hok hT0 hT1 hN hrt
  have hB0 : Below w.heap.size w (w.alloc (.cells #[.int .i64 n, .int .i64 t] 23)) := (Below.refl _ _).alloc (Nat.le_refl _) _
  go_enter Tryd.func3, Tryd.ntmps3
  go_wp2_with fail
  refine (HC.out _).mono ?_
  rintro e w1 ⟨rfl, hb1⟩
  have K1 : Hid (w1.cell? ⟨w.heap.size, 0, none⟩ = some (.int .i64 n) ∧ w1.cell? ⟨w.heap.size, 1, none⟩ = some (.int .i64 t)) := ⟨by rw [hb1.cell (by simp)]; simp, by rw [hb1.cell (by simp)]; simp⟩
  have B1 : Hid (Below w.heap.size w w1) := hB0.trans (hb1.mono (by simp))
  have KW : Hid (∀ W, Below w1.heap.size w1 W → W.cell? ⟨w.heap.size, 0, none⟩ = some (.int .i64 n) ∧ W.cell? ⟨w.heap.size, 1, none⟩ = some (.int .i64 t)) := fun W hW => ⟨by rw [hW.cell (World.block_lt_of_cell? _ _ K1.out.1)]; exact K1.out.1, by rw [hW.cell (World.block_lt_of_cell? _ _ K1.out.2)]; exact K1.out.2⟩
  have q0 := K1.out.1
  have q1 := K1.out.2
  have D0 : Hid (Below w1.heap.size w1 w1.drew) := (Below.refl _ _).drew
  have hmark : Hid True := trivial
  clear hb1 hB0
  go_wp2
  go_region_held3 (fun W => W.cell? ⟨w.heap.size, 0, none⟩ = some (.int .i64 n) ∧ W.cell? ⟨w.heap.size, 1, none⟩ = some (.int .i64 t)) (first | exact KW.out _ D2.out | exact KW.out _ D1.out | exact KW.out _ D0.out)
    (first
      | (go_at_call 6; clear hmark; refine (L1.out _).mono ?_; rintro e w2 ⟨za, ca, rfl, ha, l2⟩; have RA : Hid (Row w2 za N (bur n t R)) := ha; have D1 : Hid (Below w1.heap.size w1 w2) := D0.out.trans (l2.mono D0.out.size); clear ha l2)
      | (go_at_call 6; refine (L2.out _).mono ?_; rintro e w3 ⟨zb, cb, rfl, hb, l3⟩; have RB : Hid (Row w3 zb N (lat n t R) ∧ Row w3 za N (bur n t R)) := ⟨hb, RA.out.below l3⟩; have D2 : Hid (Below w1.heap.size w1 w3) := D1.out.trans (l3.mono D1.out.size); clear hb l3))
  all_goals
    have q0 := (KW.out w3 D2.out).1
    have q1 := (KW.out w3 D2.out).2
    go_wp2_with fail
    refine (H1.out _).mono ?_
    rintro e w4 ⟨s1, rfl, hr4, hb4⟩
    have R4 : Hid (Row w4 (some ⟨s1, 0, none⟩) N (bur n t R) ∧ Row w4 zb N (lat n t R) ∧ Row w4 za N (bur n t R)) := ⟨hr4, RB.out.1.below hb4, RB.out.2.below hb4⟩
    have D4 : Hid (Below w1.heap.size w1 w4) := D2.out.trans (hb4.mono D2.out.size)
    clear hr4 hb4 q0 q1
    have q0 := (KW.out w4 D4.out).1
    have q1 := (KW.out w4 D4.out).2
    go_wp2_with fail
    refine (H2.out _).mono ?_
    rintro e w5 ⟨s2, rfl, hr5, hb5⟩
    have R5 : Hid (Row w5 (some ⟨s2, 0, none⟩) N (lat n t R) ∧ Row w5 (some ⟨s1, 0, none⟩) N (bur n t R) ∧ Row w5 zb N (lat n t R) ∧ Row w5 za N (bur n t R)) := ⟨hr5, R4.out.1.below hb5, R4.out.2.1.below hb5, R4.out.2.2.below hb5⟩
    have D5 : Hid (Below w1.heap.size w1 w5) := D4.out.trans (hb5.mono D4.out.size)
    have B5 : Hid (Below w.heap.size w w5) := B1.out.trans (D5.out.mono B1.out.size)
    clear hr5 hb5 q0 q1
    go_wp2_with fail
    refine (bare_nil w5 (HLA.out.below B5.out)).mono ?_
    rintro e w6 ⟨rfl, hb6⟩
    have R6 : Hid (Row w6 (some ⟨s2, 0, none⟩) N (lat n t R) ∧ Row w6 (some ⟨s1, 0, none⟩) N (bur n t R) ∧ Row w6 zb N (lat n t R) ∧ Row w6 za N (bur n t R)) := ⟨R5.out.1.below hb6, R5.out.2.1.below hb6, R5.out.2.2.1.below hb6, R5.out.2.2.2.below hb6⟩
    have B6 : Hid (Below w.heap.size w w6) := B5.out.trans (hb6.mono B5.out.size)
    clear hb6
    go_wp2_with fail
    refine (bare_nil w6 (HLA.out.below B6.out)).mono ?_
    rintro e w7 ⟨rfl, hb7⟩
    have R7 : Hid (Row w7 (some ⟨s2, 0, none⟩) N (lat n t R) ∧ Row w7 (some ⟨s1, 0, none⟩) N (bur n t R) ∧ Row w7 zb N (lat n t R) ∧ Row w7 za N (bur n t R)) := ⟨R6.out.1.below hb7, R6.out.2.1.below hb7, R6.out.2.2.1.below hb7, R6.out.2.2.2.below hb7⟩
    have B7 : Hid (Below w.heap.size w w7) := B6.out.trans (hb7.mono B6.out.size)
    clear hb7
    go_wp2_with fail
    refine (lsame_any (some ⟨s1, 0, none⟩) za N ca N (bur n t R) w7 (by unfold maxLen; omega) R7.out.2.1 R7.out.2.2.2).mono ?_
    rintro e w8 ⟨rfl, hq8⟩
    have hb8 : Below w7.heap.size w7 w8 := below_of_drew hq8
    have R8 : Hid (Row w8 (some ⟨s2, 0, none⟩) N (lat n t R) ∧ Row w8 zb N (lat n t R)) := ⟨R7.out.1.below hb8, R7.out.2.2.1.below hb8⟩
    have B8 : Hid (Below w.heap.size w w8) := B7.out.trans (hb8.mono B7.out.size)
    clear hq8 hb8
    go_wp2_with fail
    refine (lsame_any (some ⟨s2, 0, none⟩) zb N cb N (lat n t R) w8 (by unfold maxLen; omega) R8.out.1 R8.out.2).mono ?_
    rintro e w9 ⟨rfl, hq9⟩
    have B9 : Hid (Below w.heap.size w w9) := B8.out.trans (below_of_drew hq9)
    clear hq9
    go_wp2
    go_ret
    exact ⟨rfl, B9.out⟩
theorem cmake_any (n t R T : Int) (w : World) (hL : Laid w) :
    Calls Tryd.prog 3 #[.agg #[.int .i64 n, .int .i64 t], .int .i64 R, .int .i64 T] w fun e w' => e = .returned (.bool true) ∧ Below w.heap.size w w' := by
  by_cases h : lineE n t R T = 0
  · exact cmake_yes n t R T w hL h
  · exact cmake_no n t R T w hL h
end Go.Proofs.YtebahbcmlhdleaaDoor
