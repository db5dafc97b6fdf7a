/-
  millracekeep.CurveTwice is true where both are curves that begin with 0: the great walk; nothing that was there before is otherwise. Conditions: the numbers lie in memory, and a slice is no longer than its room.
-/
import Derived.Test.YtiiekmjkgdcglaaCvTwice
namespace Go.Proofs.Ytiiekmjkgdcglaa
open Go.RowKit Go.Extern.Stop Go.Stop Go.Extern

/-- What comes: of each number its rest by 1000, then 0. -/
def comeX (f : Nat → Int) (L : Nat) (i : Nat) : Int := if i < L then pickN (f i) 1000 else 0
theorem comeX_bd (f : Nat → Int) (L i : Nat) : 0 ≤ comeX f L i ∧ comeX f L i < 1000 := by
  unfold comeX
  split
  · exact pickN_bd _ _ (by omega)
  · omega
set_option maxRecDepth 20000 in
set_option maxHeartbeats 8000000 in
theorem twice_yes (x y z : Option Addr) (cx cy cz n m l : Nat) (f g h : Nat → Int) (w : World) (hx : Row w x n f) (hy : Row w y m g) (hz : Row w z l h) (q0 : n ≤ cx) (hn : n ≤ 40) (k1 : lineOk m g) (k2 : lineOk l h) (z1 : g 0 = 0) (z2 : h 0 = 0) :
    Calls Try.prog 6 #[.slice x n cx, .slice y m cy, .slice z l cz] w fun e w' => e = .returned (.bool true) ∧ Below w.heap.size w w' := by
  have HX : Hid (Row w x n f) := hx
  have HY : Hid (Row w y m g) := hy
  have HZ : Hid (Row w z l h) := hz
  have K1 : Hid (lineOk m g) := k1
  have K2 : Hid (lineOk l h) := k2
  have b1 := k1.1
  have b2 := k2.1
  have p1 := k1.2.1.pos
  have p2 := k2.2.1.pos
  obtain ⟨by', oy, rfl⟩ := hy.some p1
  obtain ⟨bz, oz, rfl⟩ := hz.some p2
  have Z1 : Hid (g 0 = 0) := z1
  have Z2 : Hid (h 0 = 0) := z2
  obtain ⟨p, hp⟩ : ∃ p, min m l = p := ⟨_, rfl⟩
  have HP : Hid (min m l = p) := hp
  obtain ⟨L, hL⟩ : ∃ L, min n (p - 1) = L := ⟨_, rfl⟩
  have HL : Hid (min n (p - 1) = L) := hL
  have hLp : L + 1 ≤ p := by omega
  have hp60 : p ≤ 60 := by omega
  have hpm : p ≤ m := by omega
  have hpl : p ≤ l := by omega
  clear hx hy hz k1 k2 z1 z2 hp hL
  go_enter Try.func6, Try.ntmps6
  go_wp2_with fail
  refine (curved_true _).mono ?_
  rintro e w1 ⟨rfl, hb1⟩
  go_wp2_with fail
  refine (lines2 w1 (some ⟨by', oy, none⟩) (some ⟨bz, oz, none⟩) cy cz m l g h (HY.out.below hb1) (HZ.out.below hb1) (by unfold maxLen; omega) (by unfold maxLen; omega)).mono ?_
  rintro e w2 ⟨⟨_, rfl⟩ | ⟨hh, rfl⟩, rfl⟩
  case inr => exact absurd ⟨K1.out, K2.out⟩ hh
  have B2 : Hid (Below w.heap.size w (w1.alloc (.cells #[.slice (some ⟨by', oy, none⟩) m cy, .slice (some ⟨bz, oz, none⟩) l cz] 22))) := hb1.alloc hb1.size _
  clear hb1
  generalize w1.alloc (.cells #[.slice (some ⟨by', oy, none⟩) m cy, .slice (some ⟨bz, oz, none⟩) l cz] 22) = w2 at *
  have c1 := (HY.out.below B2.out).at (i := 0) (by omega)
  have c2 := (HZ.out.below B2.out).at (i := 0) (by omega)
  rw [Nat.add_zero, Z1.out] at c1
  rw [Nat.add_zero, Z2.out] at c2
  go_upto_region 3 with (fail)
  go_cut [7] (fun v wx => v = .int .i64 p ∧ wx = w2)
  case first =>
    by_cases hlm : l < m
    · obtain rfl : p = l := by have := HP.out; omega
      go_wp2
      go_meet
      case rel => exact ⟨rfl, rfl⟩
    · obtain rfl : p = m := by have := HP.out; omega
      go_wp2
      go_meet
      case rel => exact ⟨rfl, rfl⟩
  case rest =>
  obtain ⟨rfl, hwc⟩ := hcut
  subst hwc
  clear c1 c2
  have hpi : IntKind.i64.wrap ((p : Int) - 1) = (p : Int) - 1 := by rw [IntKind.wrap_i64]; omega
  go_upto_if 61 with (fail)
  go_cut [0] (fun v wx => v = .slice x L cx ∧ wx = wc)
  case first =>
    by_cases hlt : p - 1 < n
    · obtain rfl : p = L + 1 := by have := HL.out; omega
      have hlt' : L < n := by omega
      have hLc : (L : Int) ≤ cx := by omega
      by_cases hz : L = 0
      · obtain rfl : L = 0 := hz
        go_wp2
        go_meet
        case rel => exact ⟨rfl, rfl⟩
      · have hz' : 0 < L := by omega
        go_wp2
        go_meet
        case rel => exact ⟨rfl, rfl⟩
    · obtain rfl : n = L := by have := HL.out; omega
      have hnlt : (n : Int) ≤ (p : Int) - 1 := by omega
      go_wp2
      go_meet
      case rel => exact ⟨rfl, rfl⟩
  case rest =>
  obtain ⟨rfl, hwc⟩ := hcut
  subst hwc
  clear hpi
  have RX : Hid (Row wc x L f) := (HX.out.take (by have := HL.out; omega)).below B2.out
  have hL40 : L ≤ 40 := by have := HL.out; omega
  have hmk := make_ints (L + 1) (by omega)
  have hcast : ((L + 1 : Nat) : Int) = (L : Int) + 1 := by omega
  rw [hcast] at hmk
  clear hcast HX
  go_wp2
  go_loopw [9] (fun i wr => ∃ k : Nat, k ≤ L ∧ i = .int .i64 k ∧ OwnI wr wc.heap.size (L + 1) (fun j => if j < k then pickN (f j) 1000 else 0) ∧ Below wc.heap.size wc wr) (fun i _ => L - (intOf i).toNat)
  case atStart => exact ⟨0, Nat.zero_le _, rfl, (OwnI.made wc (L + 1)).congr fun j _ => by simp, (Below.refl _ _).alloc (Nat.le_refl _) _⟩
  case round =>
    obtain ⟨k, hk, rfl, hown, hbel⟩ := hrel
    have HO : Hid (OwnI wr wc.heap.size (L + 1) (fun j => if j < k then pickN (f j) 1000 else 0)) := hown
    have HB : Hid (Below wc.heap.size wc wr) := hbel
    by_cases hlt : k < L
    · obtain ⟨bx, ox, rfl⟩ := RX.out.some (by omega)
      have c0 := (RX.out.below hbel).at hlt
      have c1 : wr.cell? ⟨wc.heap.size, k, none⟩ = some (.int .i64 0) := by
        have := World.rowIs.cell hown (i := k) (by omega)
        simpa using this
      have c2 := World.rowIs.frozen hown k
      have hkl : (k : Int) < (L : Int) + 1 := by omega
      clear hown hbel
      go_wp2_with (go_at_call 19; refine (pick_any _ _ _ (by omega) (by omega)).mono ?_; rintro e w' ⟨rfl, rfl⟩)
      go_roundw
      case rel =>
        refine ⟨k + 1, by omega, by go_num, HO.out.set k _ fun j hj => ?_, HB.out.setCell (Nat.le_refl _) _⟩
        by_cases e : j = k
        · subst e; simp
        · by_cases e2 : j < k
          · rw [if_pos (by omega), if_neg e, if_pos e2]
          · rw [if_neg (by omega), if_neg e, if_neg e2]
      case measure => simp [intOf]; omega
    · obtain rfl : k = L := by omega
      clear hown hbel
      have RXX : Hid (Row wr (some ⟨wc.heap.size, 0, none⟩) (k + 1) (comeX f k)) := HO.out.row
      have B3 : Hid (Below w.heap.size w wr) := B2.out.trans (HB.out.mono B2.out.size)
      have AMT : Hid (∀ i, i < k + 1 → okAmt (comeX f k i)) := fun i _ => by have := comeX_bd f k i; unfold okAmt; omega
      obtain ⟨F1, hF1⟩ : ∃ F, conv (tot (comeX f k)) g = F := ⟨_, rfl⟩
      have HF1 : Hid (conv (tot (comeX f k)) g = F1) := hF1
      have hF0 : F1 0 = 0 := by rw [← hF1]; simp [conv, pm, tot, Z1.out]
      have hTB : ∀ t, t ≤ k + 1 → 0 ≤ tot (comeX f k) t ∧ tot (comeX f k) t ≤ 41000 := fun t ht => by
        have := tot_bd (c := comeX f k) (n := k + 1) (B := 1000) (fun i _ => by have := comeX_bd f k i; omega) t ht
        omega
      have hFB : ∀ t, t ≤ k → 0 ≤ F1 t ∧ F1 t ≤ 41000 := fun t ht => by
        rw [← hF1]
        refine ⟨conv_low (fun i hi => (hTB i (by omega)).1) (fun i hi => K1.out.2.1.low i (by omega)), ?_⟩
        have h1 := cruz_served (x := comeX f k) Z1.out t
        have h2 := (hTB t (by omega)).2
        omega
      have hFU : ∀ t, t < k → F1 t ≤ F1 (t + 1) := fun t ht => by
        rw [← hF1]
        refine conv_up ?_ (fun i hi => K1.out.2.1.up i (by omega))
        have := comeX_bd f k t
        simp only [tot]
        omega
      have HFB : Hid (∀ t, t ≤ k → 0 ≤ F1 t ∧ F1 t ≤ 41000) := hFB
      have HFU : Hid (∀ t, t < k → F1 t ≤ F1 (t + 1)) := hFU
      have HF0 : Hid (F1 0 = 0) := hF0
      have OB : Hid (okC p (conv g h)) := by rw [← HP.out]; exact (K1.out.conv K2.out).1
      have HTW : Hid (∀ t, t < k + 1 → conv (tot (gone F1 (k + 1))) h t = conv (tot (comeX f k)) (conv g h) t) := fun t ht => by rw [← HF1.out]; exact twice Z1.out ht
      clear hF1 hF0 hTB hFB hFU HO HB RX
      go_wp2_with fail
      refine (serve_k (some ⟨wc.heap.size, 0, none⟩) (some ⟨by', oy, none⟩) (k + 1) cy (k + 1) m (comeX f k) g wr RXX.out (HY.out.below B3.out) K1.out.2.1 (by omega) AMT.out F1 (fun t _ => by rw [HF1.out])).mono ?_
      rintro e w4 ⟨s1, rfl, r1, hb4⟩
      have R1 : Hid (Row w4 (some ⟨s1, 0, none⟩) (k + 1) F1) := r1
      have RX4 : Hid (Row w4 (some ⟨wc.heap.size, 0, none⟩) (k + 1) (comeX f k)) := RXX.out.below hb4
      have B4 : Hid (Below w.heap.size w w4) := B3.out.trans (hb4.mono B3.out.size)
      clear r1 hb4 RXX
      go_wp2_with fail
      refine (then_k (some ⟨by', oy, none⟩) (some ⟨bz, oz, none⟩) cy cz m l g h w4 (HY.out.below B4.out) (HZ.out.below B4.out) K1.out.2.1 K2.out.2.1 p HP.out).mono ?_
      rintro e w5 ⟨s2, rfl, r2, hb5⟩
      have R2 : Hid (Row w5 (some ⟨s2, 0, none⟩) p (conv g h)) := r2
      have R15 : Hid (Row w5 (some ⟨s1, 0, none⟩) (k + 1) F1) := R1.out.below hb5
      have RX5 : Hid (Row w5 (some ⟨wc.heap.size, 0, none⟩) (k + 1) (comeX f k)) := RX4.out.below hb5
      have B5 : Hid (Below w.heap.size w w5) := B4.out.trans (hb5.mono B4.out.size)
      clear r2 hb5 R1 RX4
      go_wp2
      go_loopw [15] (fun i w6 => ∃ j : Nat, j ≤ k ∧ i = .int .i64 j ∧ OwnI w6 w5.heap.size (k + 1) (fun t => if t < j then F1 (t + 1) - F1 t else 0) ∧ Below w5.heap.size w5 w6) (fun i _ => k - (intOf i).toNat)
      case atStart => exact ⟨0, Nat.zero_le _, rfl, (OwnI.made w5 (k + 1)).congr fun j _ => by simp, (Below.refl _ _).alloc (Nat.le_refl _) _⟩
      case round =>
        obtain ⟨j, hj, rfl, hown, hbel⟩ := hrel
        have HO : Hid (OwnI wr w5.heap.size (k + 1) (fun t => if t < j then F1 (t + 1) - F1 t else 0)) := hown
        have HB : Hid (Below w5.heap.size w5 wr) := hbel
        by_cases hjk : j < k
        · have c0 := (R15.out.below hbel).at (i := j) (by omega)
          have c1 := (R15.out.below hbel).at (i := j + 1) (by omega)
          rw [Nat.zero_add] at c0 c1
          have c2 : wr.cell? ⟨w5.heap.size, j, none⟩ = some (.int .i64 0) := by
            have := World.rowIs.cell hown (i := j) (by omega)
            simpa using this
          have c3 := World.rowIs.frozen hown j
          have hjl : (j : Int) < (k : Int) + 1 := by omega
          have d0 := HFB.out j (by omega)
          have d1 := HFB.out (j + 1) (by omega)
          have d2 := HFU.out j hjk
          clear hown hbel
          have hj1 : (j : Int) + 1 < (k : Int) + 1 := by omega
          have HV : Hid (∀ t, t < k + 1 → (if t < j + 1 then F1 (t + 1) - F1 t else 0) = if t = j then F1 (j + 1) - F1 j else if t < j then F1 (t + 1) - F1 t else 0) := fun t _ => by
            by_cases e : t = j
            · subst e; simp
            · by_cases e2 : t < j
              · rw [if_pos (by omega), if_neg e, if_pos e2]
              · rw [if_neg (by omega), if_neg e, if_neg e2]
          obtain ⟨u, hu⟩ : ∃ u, F1 j = u := ⟨_, rfl⟩
          obtain ⟨v, hv⟩ : ∃ v, F1 (j + 1) = v := ⟨_, rfl⟩
          rw [hu] at c0 d0 d2
          rw [hv] at c1 d1 d2
          have HU : Hid (F1 j = u) := hu
          have HVV : Hid (F1 (j + 1) = v) := hv
          clear hu hv
          have e0 : IntKind.i64.wrap (v - u) = v - u := by rw [IntKind.wrap_i64]; omega
          have e1 : ¬ v - u < 0 := by omega
          go_wp2
          go_region
          all_goals
            go_wp2
            go_roundw
            case rel =>
              refine ⟨j + 1, by omega, by go_num, ?_, ?_⟩
              · exact OwnI.set (HO.out.drewN _) j _ fun t ht => by rw [HV.out t ht, HU.out, HVV.out]
              · exact (below_drewN' HB.out _).setCell (Nat.le_refl _) _
            case measure => simp [intOf]; omega
        · obtain rfl : j = k := by omega
          have RM : Hid (Row wr (some ⟨w5.heap.size, 0, none⟩) (j + 1) (gone F1 (j + 1))) := HO.out.row.congr fun t _ => by
            unfold gone
            by_cases e : t < j
            · rw [if_pos e, if_pos (by omega)]
            · rw [if_neg e, if_neg (by omega)]
          have R26 : Hid (Row wr (some ⟨s2, 0, none⟩) p (conv g h)) := R2.out.below hbel
          have RX6 : Hid (Row wr (some ⟨wc.heap.size, 0, none⟩) (j + 1) (comeX f j)) := RX5.out.below hbel
          have B6 : Hid (Below w.heap.size w wr) := B5.out.trans (hbel.mono B5.out.size)
          have AM2 : Hid (∀ i, i < j + 1 → okAmt (gone F1 (j + 1) i)) := fun i hi => by
            unfold gone okAmt
            by_cases e : i + 1 < j + 1
            · rw [if_pos e]
              have := HFB.out i (by omega)
              have := HFB.out (i + 1) (by omega)
              have := HFU.out i (by omega)
              omega
            · rw [if_neg e]; omega
          obtain ⟨F2, hF2⟩ : ∃ F, conv (tot (comeX f j)) (conv g h) = F := ⟨_, rfl⟩
          have HF2 : Hid (conv (tot (comeX f j)) (conv g h) = F2) := hF2
          clear hown hbel R2 RX5 R15 hF2
          go_wp2_with fail
          refine (serve_k (some ⟨w5.heap.size, 0, none⟩) (some ⟨bz, oz, none⟩) (j + 1) cz (j + 1) l (gone F1 (j + 1)) h wr RM.out (HZ.out.below B6.out) K2.out.2.1 (by omega) AM2.out F2 (fun t ht => by rw [HTW.out t ht, HF2.out])).mono ?_
          rintro e w7 ⟨s3, rfl, r3, hb7⟩
          have R37 : Hid (Row w7 (some ⟨s3, 0, none⟩) (j + 1) F2) := r3
          have R27 : Hid (Row w7 (some ⟨s2, 0, none⟩) p (conv g h)) := R26.out.below hb7
          have RX7 : Hid (Row w7 (some ⟨wc.heap.size, 0, none⟩) (j + 1) (comeX f j)) := RX6.out.below hb7
          have B7 : Hid (Below w.heap.size w w7) := B6.out.trans (hb7.mono B6.out.size)
          clear r3 hb7 R26 RX6 RM
          go_wp2_with fail
          refine (serve_k (some ⟨wc.heap.size, 0, none⟩) (some ⟨s2, 0, none⟩) (j + 1) p (j + 1) p (comeX f j) (conv g h) w7 RX7.out R27.out OB.out (by omega) AMT.out F2 (fun t _ => by rw [HF2.out])).mono ?_
          rintro e w8 ⟨s4, rfl, r4, hb8⟩
          have R48 : Hid (Row w8 (some ⟨s4, 0, none⟩) (j + 1) F2) := r4
          have R38 : Hid (Row w8 (some ⟨s3, 0, none⟩) (j + 1) F2) := R37.out.below hb8
          have B8 : Hid (Below w.heap.size w w8) := B7.out.trans (hb8.mono B7.out.size)
          clear r4 hb8 R37 R27 RX7
          go_wp2_with fail
          refine (same_any (some ⟨s3, 0, none⟩) (some ⟨s4, 0, none⟩) (j + 1) (j + 1) (j + 1) F2 F2 w8 (by unfold maxLen; omega) R38.out R48.out (fun _ _ => rfl)).mono ?_
          rintro e w9 ⟨rfl, hq9⟩
          have B9 : Hid (Below w.heap.size w w9) := B8.out.trans (below_of_drew hq9)
          clear hq9
          go_wp2
          go_ret
          exact ⟨rfl, B9.out⟩
theorem twice_any (x y z : Option Addr) (cx cy cz n m l : Nat) (f g h : Nat → Int) (w : World) (hx : Row w x n f) (hy : Row w y m g) (hz : Row w z l h) (q0 : n ≤ cx) (q1 : m ≤ cy) (q2 : l ≤ cz) (m0 : cx ≤ maxLen) (m1 : cy ≤ maxLen) (m2 : cz ≤ maxLen) :
    Calls Try.prog 6 #[.slice x n cx, .slice y m cy, .slice z l cz] w fun e w' => e = .returned (.bool true) ∧ Below w.heap.size w w' := by
  by_cases hn : 40 < n
  · exact twice_long x y z cx cy cz n m l w (Nat.le_trans q0 m0) hn
  by_cases hk : lineOk m g ∧ lineOk l h
  · by_cases hz' : ¬ g 0 = 0 ∨ ¬ h 0 = 0
    · exact twice_nz x y z cx cy cz n m l g h w hy hz (by omega) hk.1 hk.2 hz'
    · exact twice_yes x y z cx cy cz n m l f g h w hx hy hz q0 (by omega) hk.1 hk.2 (by omega) (by omega)
  · exact twice_no x y z cx cy cz n m l g h w hy hz (Nat.le_trans q1 m1) (Nat.le_trans q2 m2) (by omega) hk
end Go.Proofs.Ytiiekmjkgdcglaa
