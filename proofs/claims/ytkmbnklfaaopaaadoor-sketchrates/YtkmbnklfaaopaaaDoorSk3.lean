/-
  millraceref.Means: the same means, by divisions; millracelaw.SketchRates returns true at every argument; nothing that was there before is otherwise. Conditions: the numbers lie in memory, and errors.errorType holds its handle.
-/
import Derived.Test.YtkmbnklfaaopaaaDoorSk1
import Derived.Test.YtkmbnklfaaopaaaDoorLwE
namespace Go.Proofs.YtkmbnklfaaopaaaDoor
open Go.RowKit Go.Extern.Stop Go.Stop Go.Extern

theorem floor_neg {d p : Int} (hp : 0 < p) (h : d.tmod p < 0) : d.tdiv p - 1 = d / p := by
  rw [Int.tmod_eq_emod] at h
  rw [Int.tdiv_eq_ediv]
  have h1 := Int.emod_nonneg d (by omega : p ≠ 0)
  by_cases hc : 0 ≤ d ∨ p ∣ d
  · rw [if_pos hc] at h
    omega
  · rw [if_neg hc, Int.sign_eq_one_of_pos hp]; omega
theorem floor_pos {d p : Int} (hp : 0 < p) (h : ¬ d.tmod p < 0) : d.tdiv p = d / p := by
  rw [Int.tmod_eq_emod] at h
  rw [Int.tdiv_eq_ediv]
  have h1 := Int.emod_lt_of_pos d hp
  by_cases hc : 0 ≤ d ∨ p ∣ d
  · rw [if_pos hc]; omega
  · rw [if_neg hc] at h
    omega
theorem pow2_le {k : Nat} (h : k ≤ 10) : (2 : Int) ^ k ≤ 1024 := by
  match k, h with
  | 0, _ => decide
  | 1, _ => decide
  | 2, _ => decide
  | 3, _ => decide
  | 4, _ => decide
  | 5, _ => decide
  | 6, _ => decide
  | 7, _ => decide
  | 8, _ => decide
  | 9, _ => decide
  | 10, _ => decide
theorem tdiv_small {d p : Int} (h0 : -2000000000 ≤ d) (h1 : d ≤ 2000000000) : -2000000000 ≤ d.tdiv p ∧ d.tdiv p ≤ 2000000000 := by
  have h := Int.natAbs_tdiv_le_natAbs d p
  omega
set_option maxRecDepth 20000 in
set_option maxHeartbeats 2000000 in
theorem means_any (x : Option Addr) (cap n : Nat) (c : Nat → Int) (hv : Int) (w : World) (hx : Row w x n c) (hn : n ≤ 100) (h0 : 0 ≤ hv) (h1 : hv ≤ 10) (hA : ∀ i, i < n → okN (c i)) :
    Calls Tryd.prog 18 #[.slice x n cap, .int .i64 hv] w fun e w' => (∃ y cy, e = .returned (.slice y n cy) ∧ Row w' y n (fun i => meanR hv.toNat c (i + 1))) ∧ Below w.heap.size w w' := by
  obtain ⟨i0, hi, hz0, hz1, hz2⟩ := info_parts infoInt
  have HX : Hid (Row w x n c) := hx
  have HA : Hid (∀ i, i < n → okN (c i)) := hA
  clear hx hA
  obtain ⟨H, rfl⟩ : ∃ H : Nat, hv = H := ⟨hv.toNat, by omega⟩
  rw [Int.toNat_natCast]
  go_enter Tryd.func18, Tryd.ntmps18
  go_wp2
  go_loopw [6, 13] (fun b i wr => ∃ k : Nat, k ≤ H ∧ i = .int .i64 k ∧ b = .int .i64 (2 ^ k) ∧ ∃ q, wr = w.drewN q) (fun _ i _ => H - (intOf i).toNat)
  case atStart => exact ⟨0, Nat.zero_le _, rfl, rfl, 0, rfl⟩
  case round =>
    obtain ⟨k, hk, rfl, rfl, q, rfl⟩ := hrel
    by_cases hlt : k < H
    · have hp := pow2_le (k := k) (by omega)
      have hp0 := two_pow_pos k
      have HP : Hid ((2 : Int) ^ (k + 1) = 2 ^ k * 2) := Int.pow_succ 2 k
      generalize (2 : Int) ^ k = pw at *
      have ew : IntKind.i64.wrap (pw * 2) = pw * 2 := by rw [IntKind.wrap_i64]; omega
      go_wp2
      go_roundw
      case rel => exact ⟨k + 1, by omega, by go_num, by rw [HP.out], _, rfl⟩
      case measure => simp [intOf]; omega
    · obtain rfl : k = H := by omega
      have hp := pow2_le (k := k) (by omega)
      have hp0 := two_pow_pos k
      have HMS : Hid (∀ j, meanR k c (j + 1) = meanR k c j + (1000 * c j - meanR k c j) / 2 ^ k) := fun j => rfl
      generalize (2 : Int) ^ k = pw at *
      have hpz : ¬ pw = 0 := by omega
      go_wp2
      go_loopw [5, 7, 20] (fun s o i wr => ∃ j : Nat, j ≤ n ∧ i = .int .i64 j ∧ s = .int .i64 (meanR k c j) ∧ wr.ownsRow w.heap.size 3 1 o j (vals (fun i => meanR k c (i + 1)) j) ∧ Below w.heap.size w wr) (fun _ _ i _ => n - (intOf i).toNat)
      case atStart => exact ⟨0, Nat.zero_le _, rfl, rfl, ⟨rfl, .inl ⟨rfl, rfl⟩⟩, below_drewN' (Below.refl _ _) q⟩
      case round =>
        obtain ⟨j, hj, rfl, rfl, hown, hbel⟩ := hrel
        by_cases hjl : j < n
        · obtain ⟨b, off, rfl⟩ := HX.out.some (by omega)
          have c0 := (HX.out.below hbel).at hjl
          have HO : Hid (wr.ownsRow w.heap.size 3 1 u7 j (vals (fun i => meanR k c (i + 1)) j)) := hown
          have HB : Hid (Below w.heap.size w wr) := hbel
          clear hown hbel
          have bt := mean_bd (h := k) j (fun i hi => HA.out i (by omega))
          have bu := top_le j (fun i hi => HA.out i (by omega))
          have bt' := mean_bd (h := k) (j + 1) (fun i hi => HA.out i (by omega))
          have bu' := top_le (j + 1) (fun i hi => HA.out i (by omega))
          have HM := HMS.out j
          obtain ⟨k0, k1⟩ := HA.out j hjl
          have q1 : j + 1 ≤ maxLen := by unfold maxLen; omega
          have q2 : (j + 1) * 8 ≤ 140737488355328 := by omega
          have q3 : ∀ o, w.heap.size ≤ (wr.alloc o).heap.size := fun o => by simp; have := HB.out.size; omega
          have HV : Hid (vals (fun i => meanR k c (i + 1)) (j + 1) = vals (fun i => meanR k c (i + 1)) j ++ [.int .i64 (meanR k c (j + 1))]) := vals_succ _ j
          obtain ⟨m0, hm0⟩ : ∃ m0, m0 = meanR k c j := ⟨_, rfl⟩
          obtain ⟨m1, hm1⟩ : ∃ m1, m1 = meanR k c (j + 1) := ⟨_, rfl⟩
          have HV' : Hid (vals (fun i => meanR k c (i + 1)) (j + 1) = vals (fun i => meanR k c (i + 1)) j ++ [.int .i64 m1]) := by rw [hm1]; exact HV.out
          have HM1 : Hid (m1 = meanR k c (j + 1)) := hm1
          rw [← hm0, ← hm1] at HM
          rw [← hm0]
          rw [← hm0] at bt
          rw [← hm1] at bt'
          clear hm0 hm1
          have e0 : IntKind.i64.wrap (1000 * c j) = 1000 * c j := by rw [IntKind.wrap_i64]; omega
          have e1 : IntKind.i64.wrap (1000 * c j - m0) = 1000 * c j - m0 := by rw [IntKind.wrap_i64]; omega
          have hts := tdiv_small (d := 1000 * c j - m0) (p := pw) (by omega) (by omega)
          have e2 : IntKind.i64.wrap ((1000 * c j - m0).tdiv pw) = (1000 * c j - m0).tdiv pw := by rw [IntKind.wrap_i64]; omega
          by_cases hneg : (1000 * c j - m0).tmod pw < 0
          · have hf := floor_neg hp0 hneg
            have e3 : IntKind.i64.wrap ((1000 * c j - m0).tdiv pw - 1) = (1000 * c j - m0).tdiv pw - 1 := by rw [IntKind.wrap_i64]; omega
            have e4 : IntKind.i64.wrap (m0 + ((1000 * c j - m0).tdiv pw - 1)) = m1 := by rw [hf, ← HM, IntKind.wrap_i64]; omega
            clear hf hts bt bu bt' bu' HM
            go_wp2_with (at_builtin; refine wpList_append_own _ rfl _ _ 22 rfl w.heap.size 3 i0 (.int .i64 0) 1 8 Tryd.underlying22 hi hz0 hz1 hz2 rfl (by decide) _ _ _ rfl (HO.out.alloc _) ⟨wr.heap.size, 0, none⟩ 1 1 [.int .i64 m1] rfl rfl (cell_new1 _ _ _) (by simp [Value.oneCell']) q1 q2 (q3 _) ?_; intro v' w4 hown4 hgrow4 _)
            go_roundw
            case rel =>
              have hb4 : Below w.heap.size w w4 := (HB.out.alloc HB.out.size _).grown hgrow4 (by simp; have := HB.out.size; omega) (fun j e => (HO.out.lt j e).1)
              exact ⟨j + 1, by omega, by go_num, by rw [HM1.out], by rw [HV'.out]; exact hown4, hb4⟩
            case measure => simp [intOf]; omega
          · have hf := floor_pos hp0 hneg
            have e4 : IntKind.i64.wrap (m0 + (1000 * c j - m0).tdiv pw) = m1 := by rw [hf, ← HM, IntKind.wrap_i64]; omega
            clear hf hts bt bu bt' bu' HM
            go_wp2_with (at_builtin; refine wpList_append_own _ rfl _ _ 22 rfl w.heap.size 3 i0 (.int .i64 0) 1 8 Tryd.underlying22 hi hz0 hz1 hz2 rfl (by decide) _ _ _ rfl (HO.out.alloc _) ⟨wr.heap.size, 0, none⟩ 1 1 [.int .i64 m1] rfl rfl (cell_new1 _ _ _) (by simp [Value.oneCell']) q1 q2 (q3 _) ?_; intro v' w4 hown4 hgrow4 _)
            go_roundw
            case rel =>
              have hb4 : Below w.heap.size w w4 := (HB.out.alloc HB.out.size _).grown hgrow4 (by simp; have := HB.out.size; omega) (fun j e => (HO.out.lt j e).1)
              exact ⟨j + 1, by omega, by go_num, by rw [HM1.out], by rw [HV'.out]; exact hown4, hb4⟩
            case measure => simp [intOf]; omega
        · obtain rfl : j = n := by omega
          have HO : Hid (wr.ownsRow w.heap.size 3 1 u7 j (vals (fun i => meanR k c (i + 1)) j)) := hown
          have HB : Hid (Below w.heap.size w wr) := hbel
          clear hown hbel
          obtain ⟨y, cy, rfl, _, _, hrow⟩ := row_of_owns HO.out
          have HR : Hid (Row wr y j (fun i => meanR k c (i + 1))) := hrow
          clear hrow
          go_wp2
          go_ret
          exact ⟨⟨y, cy, rfl, HR.out⟩, HB.out⟩
end Go.Proofs.YtkmbnklfaaopaaaDoor
