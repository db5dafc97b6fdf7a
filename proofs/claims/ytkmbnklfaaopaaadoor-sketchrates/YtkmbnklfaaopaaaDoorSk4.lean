/-
  millracelaw.SketchRates returns true at every argument; nothing that was there before is otherwise. Conditions: the numbers lie in memory, and errors.errorType holds its handle.
-/
import Derived.Test.YtkmbnklfaaopaaaDoorSk3
namespace Go.Proofs.YtkmbnklfaaopaaaDoor
open Go.RowKit Go.Extern.Stop Go.Stop Go.Extern

set_option maxRecDepth 20000 in
set_option maxHeartbeats 4000000 in
theorem ratesLaw_any (x : Option Addr) (cap n : Nat) (c : Nat → Int) (hv : Int) (w : World) (hL : Laid w) (hx : Row w x n c) (b0 : n ≤ maxLen) :
    Calls Tryd.prog 5 #[.slice x n cap, .int .i64 hv] w fun e w' => e = .returned (.bool true) ∧ Below w.heap.size w w' := by
  have HX : Hid (Row w x n c) := hx
  have HL : Hid (Laid w) := hL
  have HB0 : Hid (n ≤ maxLen) := b0
  unfold maxLen at b0
  clear hx hL
  by_cases hn : 150 < n
  · go_enter Tryd.func5, Tryd.ntmps5
    go_wp2
    go_ret
    exact ⟨rfl, Below.refl _ _⟩
  clear b0
  by_cases hr0 : hv < 0
  · have HE : Hid (rateE n c hv = 2) := by show rateE n c hv = 2; unfold rateE; rw [if_pos (Or.inl hr0)]
    by_cases hz : (0 : Int) < (n : Int)
    · go_enter Tryd.func5, Tryd.ntmps5
      go_wp2
      refine wp_loop_rounds 1 ?_
      rw [rounds_succ]
      go_wp2_with fail
      refine (rate_any x cap n c hv w (HX.out) HB0.out).mono ?_
      rintro e w1 ⟨h1, hb1⟩
      rcases h1 with ⟨h0, _⟩ | ⟨h0, rfl⟩
      · exact absurd h0 (by rw [HE.out]; decide)
      rw [HE.out]
      have HB1 : Hid (Below w.heap.size w w1) := (Below.refl w.heap.size w).trans (hb1.mono (Below.refl w.heap.size w).size)
      clear h0 hb1
      go_wp2_with fail
      refine (bare_no 2 w1 (HL.out.below HB1.out) (by decide)).mono ?_
      rintro e w2 ⟨rfl, hb2⟩
      have HB2 : Hid (Below w.heap.size w w2) := HB1.out.trans (hb2.mono HB1.out.size)
      clear hb2
      go_wp2_with fail
      refine (lsame_any none none 0 0 0 (fun _ => 0) w2 (by unfold maxLen; omega) (Or.inl rfl) (Or.inl rfl)).mono ?_
      rintro e w3 ⟨rfl, q3, rfl⟩
      go_wp2
      go_ret
      exact ⟨rfl, below_drewN' HB2.out q3⟩
    · go_enter Tryd.func5, Tryd.ntmps5
      go_wp2
      refine wp_loop_rounds 1 ?_
      rw [rounds_succ]
      go_wp2_with fail
      refine (rate_any x cap n c hv w (HX.out) HB0.out).mono ?_
      rintro e w1 ⟨h1, hb1⟩
      rcases h1 with ⟨h0, _⟩ | ⟨h0, rfl⟩
      · exact absurd h0 (by rw [HE.out]; decide)
      rw [HE.out]
      have HB1 : Hid (Below w.heap.size w w1) := (Below.refl w.heap.size w).trans (hb1.mono (Below.refl w.heap.size w).size)
      clear h0 hb1
      go_wp2_with fail
      refine (bare_no 2 w1 (HL.out.below HB1.out) (by decide)).mono ?_
      rintro e w2 ⟨rfl, hb2⟩
      have HB2 : Hid (Below w.heap.size w w2) := HB1.out.trans (hb2.mono HB1.out.size)
      clear hb2
      go_wp2_with fail
      refine (lsame_any none none 0 0 0 (fun _ => 0) w2 (by unfold maxLen; omega) (Or.inl rfl) (Or.inl rfl)).mono ?_
      rintro e w3 ⟨rfl, q3, rfl⟩
      go_wp2
      go_ret
      exact ⟨rfl, below_drewN' HB2.out q3⟩
  by_cases hr1 : 10 < hv
  · have HE : Hid (rateE n c hv = 2) := by show rateE n c hv = 2; unfold rateE; rw [if_pos (Or.inr hr1)]
    by_cases hz : (0 : Int) < (n : Int)
    · go_enter Tryd.func5, Tryd.ntmps5
      go_wp2
      refine wp_loop_rounds 1 ?_
      rw [rounds_succ]
      go_wp2_with fail
      refine (rate_any x cap n c hv w (HX.out) HB0.out).mono ?_
      rintro e w1 ⟨h1, hb1⟩
      rcases h1 with ⟨h0, _⟩ | ⟨h0, rfl⟩
      · exact absurd h0 (by rw [HE.out]; decide)
      rw [HE.out]
      have HB1 : Hid (Below w.heap.size w w1) := (Below.refl w.heap.size w).trans (hb1.mono (Below.refl w.heap.size w).size)
      clear h0 hb1
      go_wp2_with fail
      refine (bare_no 2 w1 (HL.out.below HB1.out) (by decide)).mono ?_
      rintro e w2 ⟨rfl, hb2⟩
      have HB2 : Hid (Below w.heap.size w w2) := HB1.out.trans (hb2.mono HB1.out.size)
      clear hb2
      go_wp2_with fail
      refine (lsame_any none none 0 0 0 (fun _ => 0) w2 (by unfold maxLen; omega) (Or.inl rfl) (Or.inl rfl)).mono ?_
      rintro e w3 ⟨rfl, q3, rfl⟩
      go_wp2
      go_ret
      exact ⟨rfl, below_drewN' HB2.out q3⟩
    · go_enter Tryd.func5, Tryd.ntmps5
      go_wp2
      refine wp_loop_rounds 1 ?_
      rw [rounds_succ]
      go_wp2_with fail
      refine (rate_any x cap n c hv w (HX.out) HB0.out).mono ?_
      rintro e w1 ⟨h1, hb1⟩
      rcases h1 with ⟨h0, _⟩ | ⟨h0, rfl⟩
      · exact absurd h0 (by rw [HE.out]; decide)
      rw [HE.out]
      have HB1 : Hid (Below w.heap.size w w1) := (Below.refl w.heap.size w).trans (hb1.mono (Below.refl w.heap.size w).size)
      clear h0 hb1
      go_wp2_with fail
      refine (bare_no 2 w1 (HL.out.below HB1.out) (by decide)).mono ?_
      rintro e w2 ⟨rfl, hb2⟩
      have HB2 : Hid (Below w.heap.size w w2) := HB1.out.trans (hb2.mono HB1.out.size)
      clear hb2
      go_wp2_with fail
      refine (lsame_any none none 0 0 0 (fun _ => 0) w2 (by unfold maxLen; omega) (Or.inl rfl) (Or.inl rfl)).mono ?_
      rintro e w3 ⟨rfl, q3, rfl⟩
      go_wp2
      go_ret
      exact ⟨rfl, below_drewN' HB2.out q3⟩
  by_cases hl : 100 < n
  · have HE : Hid (rateE n c hv = 4) := by show rateE n c hv = 4; unfold rateE; rw [if_neg (by omega), if_pos hl]
    by_cases hz : (0 : Int) < (n : Int)
    · go_enter Tryd.func5, Tryd.ntmps5
      go_wp2
      refine wp_loop_rounds 1 ?_
      rw [rounds_succ]
      go_wp2_with fail
      refine (rate_any x cap n c hv w (HX.out) HB0.out).mono ?_
      rintro e w1 ⟨h1, hb1⟩
      rcases h1 with ⟨h0, _⟩ | ⟨h0, rfl⟩
      · exact absurd h0 (by rw [HE.out]; decide)
      rw [HE.out]
      have HB1 : Hid (Below w.heap.size w w1) := (Below.refl w.heap.size w).trans (hb1.mono (Below.refl w.heap.size w).size)
      clear h0 hb1
      go_wp2_with fail
      refine (bare_no 4 w1 (HL.out.below HB1.out) (by decide)).mono ?_
      rintro e w2 ⟨rfl, hb2⟩
      have HB2 : Hid (Below w.heap.size w w2) := HB1.out.trans (hb2.mono HB1.out.size)
      clear hb2
      go_wp2_with fail
      refine (lsame_any none none 0 0 0 (fun _ => 0) w2 (by unfold maxLen; omega) (Or.inl rfl) (Or.inl rfl)).mono ?_
      rintro e w3 ⟨rfl, q3, rfl⟩
      go_wp2
      go_ret
      exact ⟨rfl, below_drewN' HB2.out q3⟩
    · exfalso; omega
  have HEE : Hid (rateE n c hv = if ∀ i, i < n → okN (c i) then 0 else 2) := by show rateE n c hv = _; unfold rateE; rw [if_neg (by omega), if_neg hl]
  go_enter Tryd.func5, Tryd.ntmps5
  go_wp2
  go_loopw [5, 6] (fun s i wr => ∃ k : Nat, k ≤ n ∧ i = .int .i64 k ∧ ((s = .int .i64 0 ∧ Hid (∀ i, i < k → okN (c i))) ∨ (s = .int .i64 2 ∧ Hid (rateE n c hv = 2))) ∧ ∃ q, wr = w.drewN q) (fun _ i _ => n - (intOf i).toNat)
  case atStart => exact ⟨0, Nat.zero_le _, rfl, Or.inl ⟨rfl, fun i hi => by omega⟩, 0, rfl⟩
  case round =>
    obtain ⟨k, hk, rfl, hs, q, rfl⟩ := hrel
    rcases hs with ⟨rfl, HA⟩ | ⟨rfl, HE⟩
    · by_cases hlt : k < n
      · obtain ⟨b, off, rfl⟩ := HX.out.some (by omega)
        have c0 := HX.out.at hlt
        by_cases hok : okN (c k)
        · have HA' : Hid (∀ i, i < k + 1 → okN (c i)) := fun i hi => by
            by_cases e : i = k
            · subst e; exact hok
            · exact HA.out i (by omega)
          obtain ⟨k0, k1⟩ := hok
          have g0 : ¬ c k < 0 := by omega
          have g1 : ¬ 1000000 < c k := by omega
          clear HA k0 k1
          go_wp2
          go_roundw
          case rel => exact ⟨k + 1, by omega, by go_num, Or.inl ⟨rfl, HA'⟩, _, rfl⟩
          case measure => simp [intOf]; omega
        · have HE2 : Hid (rateE n c hv = 2) := by
            show rateE n c hv = 2
            rw [HEE.out, if_neg (fun h => hok (h k hlt))]
          by_cases g0 : c k < 0
          · clear hok
            go_wp2
            go_roundw
            case rel => exact ⟨k + 1, by omega, by go_num, Or.inr ⟨rfl, HE2⟩, _, rfl⟩
            case measure => simp [intOf]; omega
          · have g1 : 1000000 < c k := by unfold okN at hok; omega
            clear hok
            go_wp2
            go_roundw
            case rel => exact ⟨k + 1, by omega, by go_num, Or.inr ⟨rfl, HE2⟩, _, rfl⟩
            case measure => simp [intOf]; omega
      · obtain rfl : k = n := by omega
        have HE0 : Hid (rateE k c hv = 0) := by show rateE k c hv = 0; rw [HEE.out, if_pos HA.out]
        go_wp2_with fail
        refine (means_any x cap k c hv (w.drewN q) (HX.out.drewN q) (by omega) (by omega) (by omega) HA.out).mono ?_
        rintro e w1 ⟨⟨y, cy, rfl, hy⟩, hb1⟩
        have HY : Hid (Row w1 y k (fun i => meanR hv.toNat c (i + 1))) := hy
        have HB1 : Hid (Below w.heap.size w w1) := (below_drewN' (Below.refl _ _) q).trans (hb1.mono (Nat.le_refl _))
        clear hy hb1
        go_wp2_with fail
        refine (rate_any x cap k c hv w1 (HX.out.below HB1.out) HB0.out).mono ?_
        rintro e w2 ⟨h1, hb2⟩
        rcases h1 with ⟨h0, z, cz, rfl, hz, _⟩ | ⟨h0, _⟩
        · have HZ : Hid (Row w2 z k (fun i => meanR hv.toNat c (i + 1))) := hz
          have HY2 : Hid (Row w2 y k (fun i => meanR hv.toNat c (i + 1))) := HY.out.below hb2
          have HB2 : Hid (Below w.heap.size w w2) := HB1.out.trans (hb2.mono HB1.out.size)
          clear h0 hz hb2
          go_wp2_with fail
          refine (bare_nil w2 (HL.out.below HB2.out)).mono ?_
          rintro e w3 ⟨rfl, hb3⟩
          have HB3 : Hid (Below w.heap.size w w3) := HB2.out.trans (hb3.mono HB2.out.size)
          have HZ3 : Hid (Row w3 z k (fun i => meanR hv.toNat c (i + 1))) := HZ.out.below hb3
          have HY3 : Hid (Row w3 y k (fun i => meanR hv.toNat c (i + 1))) := HY2.out.below hb3
          clear hb3
          go_wp2_with fail
          refine (lsame_any z y cz cy k _ w3 HB0.out HZ3.out HY3.out).mono ?_
          rintro e w4 ⟨rfl, q4, rfl⟩
          go_wp2
          go_ret
          exact ⟨rfl, below_drewN' HB3.out q4⟩
        · exact absurd HE0.out h0
    · by_cases hlt : (k : Int) < n
      · go_wp2_with fail
        refine (rate_any x cap n c hv (w.drewN q) (HX.out.drewN q) HB0.out).mono ?_
        rintro e w1 ⟨h1, hb1⟩
        rcases h1 with ⟨h0, _⟩ | ⟨h0, rfl⟩
        · exact absurd h0 (by rw [HE.out]; decide)
        rw [HE.out]
        have HB1 : Hid (Below w.heap.size w w1) := (below_drewN' (Below.refl w.heap.size w) q).trans (hb1.mono (below_drewN' (Below.refl w.heap.size w) q).size)
        clear h0 hb1
        go_wp2_with fail
        refine (bare_no 2 w1 (HL.out.below HB1.out) (by decide)).mono ?_
        rintro e w2 ⟨rfl, hb2⟩
        have HB2 : Hid (Below w.heap.size w w2) := HB1.out.trans (hb2.mono HB1.out.size)
        clear hb2
        go_wp2_with fail
        refine (lsame_any none none 0 0 0 (fun _ => 0) w2 (by unfold maxLen; omega) (Or.inl rfl) (Or.inl rfl)).mono ?_
        rintro e w3 ⟨rfl, q3, rfl⟩
        go_wp2
        go_ret
        exact ⟨rfl, below_drewN' HB2.out q3⟩
      · go_wp2_with fail
        refine (rate_any x cap n c hv (w.drewN q) (HX.out.drewN q) HB0.out).mono ?_
        rintro e w1 ⟨h1, hb1⟩
        rcases h1 with ⟨h0, _⟩ | ⟨h0, rfl⟩
        · exact absurd h0 (by rw [HE.out]; decide)
        rw [HE.out]
        have HB1 : Hid (Below w.heap.size w w1) := (below_drewN' (Below.refl w.heap.size w) q).trans (hb1.mono (below_drewN' (Below.refl w.heap.size w) q).size)
        clear h0 hb1
        go_wp2_with fail
        refine (bare_no 2 w1 (HL.out.below HB1.out) (by decide)).mono ?_
        rintro e w2 ⟨rfl, hb2⟩
        have HB2 : Hid (Below w.heap.size w w2) := HB1.out.trans (hb2.mono HB1.out.size)
        clear hb2
        go_wp2_with fail
        refine (lsame_any none none 0 0 0 (fun _ => 0) w2 (by unfold maxLen; omega) (Or.inl rfl) (Or.inl rfl)).mono ?_
        rintro e w3 ⟨rfl, q3, rfl⟩
        go_wp2
        go_ret
        exact ⟨rfl, below_drewN' HB2.out q3⟩
end Go.Proofs.YtkmbnklfaaopaaaDoor
