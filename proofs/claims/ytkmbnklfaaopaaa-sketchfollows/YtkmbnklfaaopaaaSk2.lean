/-
  millracekeep.SketchFollows: it returns true at every argument; nothing that was there before is otherwise. Conditions: the numbers lie in memory.
-/
import Derived.Test.YtkmbnklfaaopaaaSk1
namespace Go.Proofs.Ytkmbnklfaaopaaa
open Go.RowKit Go.Extern.Stop Go.Stop Go.Extern

theorem row_one (w : World) (v : Int) (t : TypeId) : Row (w.alloc (.cells #[.int .i64 v] t)) (some ⟨w.heap.size, 0, none⟩) 1 (fun _ => v) :=
  Or.inr ⟨w.heap.size, 0, rfl, fun i hi => by
    obtain rfl : i = 0 := by omega
    simp⟩
theorem rate_eight : rateE 1 (fun _ => 8) 1 = 0 := by
  unfold rateE
  rw [if_neg (by omega), if_neg (by omega), if_pos (fun i _ => show okN 8 by decide)]
theorem mean_eight : meanR (1 : Int).toNat (fun _ => 8) 1 = 4000 := by decide
set_option maxRecDepth 20000 in
set_option maxHeartbeats 2000000 in
theorem follows_any (x : Option Addr) (cap n : Nat) (c : Nat → Int) (hv : Int) (w : World) (hx : Row w x n c) (b0 : n ≤ maxLen) :
    Calls Try.prog 5 #[.slice x n cap, .int .i64 hv] w fun e w' => e = .returned (.bool true) ∧ Below w.heap.size w w' := by
  have HX : Hid (Row w x n c) := hx
  have HB0 : Hid (n ≤ maxLen) := b0
  clear hx b0
  go_enter Try.func5, Try.ntmps5
  go_wp2_with fail
  refine (rate_any x cap n c hv w HX.out HB0.out).mono ?_
  rintro e w1 ⟨h1, hb1⟩
  have HB1 : Hid (Below w.heap.size w w1) := hb1
  have H1 : Hid ((rateE n c hv = 0 ∧ ∃ y cy, e = .returned (.tuple #[.slice y n cy, .nilIface]) ∧ Row w1 y n (fun i => meanR hv.toNat c (i + 1)) ∧ n ≤ 100) ∨ (rateE n c hv ≠ 0 ∧ e = .returned (.tuple #[.slice none 0 0, .iface 45 (.int .i64 (rateE n c hv))]))) := h1
  clear h1 hb1
  rcases H1.out with ⟨h0, y, cy, rfl, hy, hn⟩ | ⟨h0, rfl⟩
  · clear H1
    have HY : Hid (Row w1 y n (fun i => meanR hv.toNat c (i + 1))) := hy
    have HA : Hid (∀ i, i < n → okN (c i)) := by
      show ∀ i, i < n → okN (c i)
      unfold rateE at h0
      split at h0
      · omega
      · split at h0
        · omega
        · split at h0
          · assumption
          · omega
    clear hy h0
    go_wp2_with fail
    refine (rate_any _ 1 1 (fun _ => 8) 1 _ (row_one w1 8 3) (by unfold maxLen; omega)).mono ?_
    rintro e w2 ⟨h2, hb2⟩
    rcases h2 with ⟨_, z, cz, rfl, hz, _⟩ | ⟨h2, _⟩
    · have HB2 : Hid (Below w1.heap.size w1 w2) := ((Below.refl _ _).alloc (Nat.le_refl _) _).trans (hb2.mono (by simp))
      obtain ⟨zb, zoff, rfl⟩ := hz.some (by omega)
      have z0 := hz.at (i := 0) (by omega)
      simp only [Nat.zero_add, mean_eight, Nat.add_zero] at z0
      have HX2 : Hid (Row w2 x n c) := (HX.out.below HB1.out).below HB2.out
      have HY2 : Hid (Row w2 y n (fun i => meanR hv.toNat c (i + 1))) := HY.out.below HB2.out
      have HBW : Hid (Below w.heap.size w w2) := HB1.out.trans (HB2.out.mono HB1.out.size)
      clear hz hb2 HX HY HB1 HB2
      go_wp2
      go_loopw [9, 10] (fun s i wr => ∃ k : Nat, k ≤ n ∧ i = .int .i64 k ∧ s = .int .i64 (topR c k) ∧ ∃ q, wr = w2.drewN q) (fun _ i _ => n - (intOf i).toNat)
      case atStart => exact ⟨0, Nat.zero_le _, rfl, rfl, 0, rfl⟩
      case round =>
        obtain ⟨k, hk, rfl, rfl, q, rfl⟩ := hrel
        by_cases hlt : k < n
        · obtain ⟨b, off, rfl⟩ := HX2.out.some (by omega)
          obtain ⟨yb, yoff, rfl⟩ := HY2.out.some (by omega)
          have c0 := HX2.out.at hlt
          have y0 := HY2.out.at hlt
          have HT : Hid (topR c (k + 1) = max (topR c k) (c k)) := rfl
          have bt := mean_bd (h := hv.toNat) (k + 1) (fun i hi => HA.out i (by omega))
          have bu := top_le (k + 1) (fun i hi => HA.out i (by omega))
          have bv := top_nonneg c (k + 1)
          generalize meanR hv.toNat c (k + 1) = mm at *
          have e0 : (if topR c k < c k then c k else topR c k) = topR c (k + 1) := by rw [HT.out]; split <;> omega
          have e1 : IntKind.i64.wrap (1000 * topR c (k + 1)) = 1000 * topR c (k + 1) := by rw [IntKind.wrap_i64]; omega
          have g0 : ¬ mm < 0 := by omega
          have g1 : ¬ 1000 * topR c (k + 1) < mm := by omega
          clear bt bu bv
          go_wp2
          go_roundw
          case rel => exact ⟨k + 1, by omega, by go_num, by first | rfl | rw [HT.out], _, rfl⟩
          case measure => simp [intOf]; omega
        · obtain rfl : k = n := by omega
          go_wp2
          go_ret
          exact ⟨rfl, below_drewN' HBW.out _⟩
    · exact absurd rate_eight h2
  · clear H1
    go_wp2_with fail
    refine (rate_any _ 1 1 (fun _ => 8) 1 _ (row_one w1 8 3) (by unfold maxLen; omega)).mono ?_
    rintro e w2 ⟨h2, hb2⟩
    rcases h2 with ⟨_, z, cz, rfl, hz, _⟩ | ⟨h2, _⟩
    · have HBW : Hid (Below w.heap.size w w2) := HB1.out.trans ((((Below.refl _ _).alloc (Nat.le_refl _) _).trans (hb2.mono (by simp))).mono HB1.out.size)
      obtain ⟨zb, zoff, rfl⟩ := hz.some (by omega)
      have z0 := hz.at (i := 0) (by omega)
      simp only [Nat.zero_add, mean_eight, Nat.add_zero] at z0
      clear hz hb2 HX HB1
      go_wp2
      go_ret
      exact ⟨rfl, HBW.out⟩
    · exact absurd rate_eight h2
end Go.Proofs.Ytkmbnklfaaopaaa
