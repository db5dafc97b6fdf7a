/-
  millraceref.ScedCheck: what it returns at any flows. Conditions: the flows lie in memory, and no slice is longer than memory.
-/
import Derived.Test.YtnaooocmggnojaaDoorSf1
namespace Go.Proofs.YtnaooocmggnojaaDoor
open Go.RowKit Go.Extern.Stop Go.Stop Go.Extern

theorem rsced_long (x : Option Addr) (cap m : Nat) (F : Nat → Flw) (w : World) (h : m < 1 ∨ 8 < m) :
    Calls Tryd.prog 6 #[.slice x m cap] w fun e w' => e = .returned (.int .i64 (scedE m F)) ∧ Below w.heap.size w w' := by
  rw [show scedE m F = 4 from if_pos h]
  have HW : Hid (∀ W, Calls Tryd.prog 15 #[.int .i64 m, .int .i64 1, .int .i64 8] W fun e w' => e = .returned (.bool false) ∧ w' = W) := fun W => within_no _ _ _ W (by omega)
  clear h
  go_enter Tryd.func6, Tryd.ntmps6
  go_wp2_with fail
  refine (HW.out _).mono ?_
  rintro e w' ⟨rfl, rfl⟩
  go_wp2
  go_ret
  exact ⟨rfl, Below.refl _ _⟩
set_option maxHeartbeats 4000000 in
theorem rsced_any (b off cap m : Nat) (F : Nat → Flw) (w : World) (hF : FlsAt w b off m F) :
    Calls Tryd.prog 6 #[.slice (some ⟨b, off, none⟩) m cap] w fun e w' => e = .returned (.int .i64 (scedE m F)) ∧ Below w.heap.size w w' := by
  by_cases h : m < 1 ∨ 8 < m
  · exact rsced_long _ cap m F w h
  have h1 : ¬ m < 1 := by omega
  have h2 : ¬ 8 < m := by omega
  obtain ⟨long, HL⟩ : ∃ l, Hid (l = (F 0).n) := ⟨_, rfl⟩
  have HE : Hid (scedE m F = fst0 (fun i => flowE (F i) long) m) := by unfold scedE; rw [if_neg h, HL.out]; exact rfl
  have HF : Hid (FlsAt w b off m F) := hF
  have HW : Hid (∀ W, Calls Tryd.prog 15 #[.int .i64 m, .int .i64 1, .int .i64 8] W fun e w' => e = .returned (.bool true) ∧ w' = W) := fun W => within_yes _ _ _ W (by omega) (by omega)
  clear h hF
  go_enter Tryd.func6, Tryd.ntmps6
  go_wp2_with fail
  refine (HW.out _).mono ?_
  rintro e w' ⟨rfl, rfl⟩
  go_wp2
  go_loopw [15] (fun i wr => ∃ k : Nat, k ≤ m ∧ i = .int .i64 k ∧ Hid (fst0 (fun i => flowE (F i) long) k = 0) ∧ Below w'.heap.size w' wr) (fun i _ => m - (intOf i).toNat)
  case atStart => exact ⟨0, Nat.zero_le _, rfl, rfl, Below.refl _ _⟩
  case round =>
    obtain ⟨k, hk, rfl, HZ, hbel⟩ := hrel
    have HB : Hid (Below w'.heap.size w' wr) := hbel
    clear hbel
    by_cases hlt : k < m
    · obtain ⟨c0, c1, hw0⟩ := HF.out.below HB.out k hlt
      obtain ⟨d0, _, _⟩ := HF.out.below HB.out 0 (by omega)
      simp only [Nat.zero_mul, Nat.add_zero] at d0
      rw [← HL.out] at d0
      have hsz : b < wr.heap.size := World.block_lt_of_cell? wr _ c0
      have HFK : Hid (fst0 (fun i => flowE (F i) long) (k + 1) = flowE (F k) long) := by
        show fst0 _ (k + 1) = _
        simp only [fst0]
        rw [if_pos HZ.out]
      have HST : Hid (flowE (F k) long ≠ 0 → scedE m F = flowE (F k) long) := fun hz => by
        rw [HE.out, ← HFK.out]
        exact fst0_stay (by rw [HFK.out]; exact hz) m (by omega)
      generalize F k = f at *
      obtain ⟨x, cx, n, c, y, cy, mm, p⟩ := f
      obtain ⟨rc, rp, ln, lm⟩ := hw0
      simp only at c0 c1 rc rp ln lm
      have hln := ln
      have hlm := lm
      unfold maxLen at hln hlm
      generalize (F 0).x = x0 at *
      generalize (F 0).cx = cx0 at *
      have HRC : Hid (∀ W, Below wr.heap.size wr W → Row W x n c) := fun W hW => rc.below hW
      have HCK : Hid (∀ W, Below wr.heap.size wr W → Calls Tryd.prog 16 #[.slice y mm cy] W fun e w' => e = .returned (.int .i64 (curveE mm p)) ∧ w' = W) := fun W hW => rcheck_any y cy mm p W lm (rp.below hW)
      have HA : Hid (Below wr.heap.size wr (wr.alloc (.cells #[.slice x n cx, .slice y mm cy] 38))) := below_alloc_ (Below.refl _ _) _
      have HAW : Hid (Below w'.heap.size w' (wr.alloc (.cells #[.slice x n cx, .slice y mm cy] 38))) := below_alloc_ HB.out _
      have HFE : Hid (flowE ⟨x, cx, n, c, y, cy, mm, p⟩ long = if curveE mm p = 0 then (if n = long then (if mm ≤ long then 2 else cellsE n c) else 3) else curveE mm p) := rfl
      clear rc rp ln lm
      go_wp2_with fail
      refine (HCK.out _ HA.out).mono ?_
      rintro e w2 ⟨rfl, rfl⟩
      by_cases hc : curveE mm p = 0
      · rw [hc]
        rw [if_pos hc] at HFE
        clear hc
        by_cases hn : n = long
        · subst hn
          rw [if_pos rfl] at HFE
          by_cases hm2 : mm ≤ n
          · rw [if_pos hm2] at HFE
            go_wp2
            go_quiet (fail)
            go_wp2
            go_ret
            exact ⟨by rw [HST.out (by rw [HFE.out]; decide), HFE.out]; rfl, below_drewN' HAW.out _⟩
          · rw [if_neg hm2] at HFE
            go_wp2
            go_quiet (fail)
            go_wp2
            go_loopw [6, 44] (fun s i wx => ∃ (j : Nat), j ≤ n ∧ i = .int .i64 j ∧ s = .int .i64 (tot c j) ∧ Hid (0 ≤ tot c j ∧ tot c j ≤ 100) ∧ Hid (fst0 (cellE c) j = 0) ∧ ∃ q, wx = (wr.alloc (.cells #[.slice x n cx, .slice y mm cy] 38)).drewN q) (fun _ i _ => n - (intOf i).toNat)
            case atStart => exact ⟨0, Nat.zero_le _, rfl, rfl, ⟨by simp [tot], by simp [tot]⟩, rfl, _, rfl⟩
            case round =>
              obtain ⟨j, hj, rfl, rfl, HT, HZJ, q, rfl⟩ := hrel
              by_cases hjn : j < n
              · obtain ⟨xb, xo, rfl⟩ := (HRC.out _ HA.out).some (by omega)
                have v0 := (HRC.out _ HA.out).at hjn
                have ht0 := HT.out.1
                have ht1 := HT.out.2
                by_cases hr : c j < 0 ∨ 100 < c j
                · have hce : cellE c j = 2 := by unfold cellE; rw [if_pos hr]
                  have HG : Hid (cellsE n c = 2) := by
                    show cellsE n c = _
                    rw [cellsE, fst0_at HZJ.out (by rw [hce]; decide) hjn, hce]
                  have HWN : Hid (∀ W, Calls Tryd.prog 15 #[.int .i64 (c j), .int .i64 0, .int .i64 100] W fun e w' => e = .returned (.bool false) ∧ w' = W) := fun W => within_no _ _ _ W hr
                  clear hr hce
                  go_wp2_with fail
                  refine (HWN.out _).mono ?_
                  rintro e w3 ⟨rfl, rfl⟩
                  go_wp2
                  go_ret
                  exact ⟨by rw [HST.out (by rw [HFE.out, HG.out]; decide), HFE.out, HG.out]; rfl, below_drewN' HAW.out _⟩
                · have hr0 : 0 ≤ c j := by omega
                  have hr1 : c j ≤ 100 := by omega
                  have HWN : Hid (∀ W, Calls Tryd.prog 15 #[.int .i64 (c j), .int .i64 0, .int .i64 100] W fun e w' => e = .returned (.bool true) ∧ w' = W) := fun W => within_yes _ _ _ W hr0 hr1
                  have e0 : IntKind.i64.wrap (tot c j + c j) = tot c (j + 1) := by rw [IntKind.wrap_i64]; simp only [tot]; omega
                  have HS : Hid (tot c (j + 1) = tot c j + c j) := rfl
                  by_cases h5 : 100 < tot c (j + 1)
                  · have hce : cellE c j = 4 := by unfold cellE; rw [if_neg hr, if_pos h5]
                    have HG : Hid (cellsE n c = 4) := by
                      show cellsE n c = _
                      rw [cellsE, fst0_at HZJ.out (by rw [hce]; decide) hjn, hce]
                    clear hr hce
                    go_wp2_with fail
                    refine (HWN.out _).mono ?_
                    rintro e w3 ⟨rfl, rfl⟩
                    go_wp2
                    go_ret
                    exact ⟨by rw [HST.out (by rw [HFE.out, HG.out]; decide), HFE.out, HG.out]; rfl, below_drewN' HAW.out _⟩
                  · have HG : Hid (fst0 (cellE c) (j + 1) = 0) := fst0_next HZJ.out (by unfold cellE; rw [if_neg hr, if_neg h5])
                    have HT' : Hid (0 ≤ tot c (j + 1) ∧ tot c (j + 1) ≤ 100) := by have := HS.out; constructor <;> omega
                    clear hr
                    go_wp2_with fail
                    refine (HWN.out _).mono ?_
                    rintro e w3 ⟨rfl, rfl⟩
                    go_wp2
                    go_roundw
                    case rel => exact ⟨j + 1, by omega, by go_num, rfl, HT', HG, _, rfl⟩
                    case measure => simp [intOf]; omega
              · obtain rfl : j = n := by omega
                go_wp2
                go_roundw
                case rel => exact ⟨k + 1, by omega, by go_num, by show _ = _; rw [HFK.out, HFE.out, cellsE, HZJ.out], below_drewN' HAW.out _⟩
                case measure => simp [intOf]; omega
        · rw [if_neg hn] at HFE
          go_wp2
          go_quiet (fail)
          go_wp2
          go_ret
          exact ⟨by rw [HST.out (by rw [HFE.out]; decide), HFE.out]; rfl, below_drewN' HAW.out _⟩
      · rw [if_neg hc] at HFE
        have HG : Hid (scedE m F = curveE mm p) := by show _ = _; rw [HST.out (by rw [HFE.out]; exact hc), HFE.out]
        go_wp2
        go_ret
        exact ⟨by rw [HG.out]; rfl, HAW.out⟩
    · obtain rfl : k = m := by omega
      go_wp2
      go_ret
      exact ⟨by rw [HE.out, HZ.out]; rfl, HB.out⟩
theorem rscedA (x : Option Addr) (cap m : Nat) (F : Nat → Flw) (w : World) (hA : FlArg w x m F) :
    Calls Tryd.prog 6 #[.slice x m cap] w fun e w' => e = .returned (.int .i64 (scedE m F)) ∧ Below w.heap.size w w' := by
  rcases hA with h | ⟨b, off, rfl, h⟩
  · exact rsced_long x cap m F w (by omega)
  · exact rsced_any b off cap m F w h
end Go.Proofs.YtnaooocmggnojaaDoor
