/-
  curve.totals, Serve, rowsFit, Fits: what each returns at every argument, and that nothing that was there before is otherwise. Conditions: the numbers lie in memory, and a slice is no longer than its room.
-/
import Derived.Test.YtebahbcmlhdleaaDoorCv4
namespace Go.Proofs.YtebahbcmlhdleaaDoor
open Go.RowKit Go.Extern.Stop Go.Stop Go.Extern

/-- What may come. -/
def okAmt (v : Int) : Prop := 0 ≤ v ∧ v ≤ 1000000
def amtE (v : Int) : Int := if v < 0 ∨ 1000000 < v then 2 else 0
theorem amtE_zero {v : Int} : amtE v = 0 ↔ okAmt v := by
  unfold amtE okAmt
  constructor
  · intro h; split at h
    · simp at h
    · omega
  · intro h; rw [if_neg (by omega)]
theorem amount_any (n : Int) (w : World) : Calls Tryd.prog 43 #[.int .i64 n] w fun e w' => e = .returned (errV (amtE n)) ∧ w' = w := by
  by_cases h : n < 0 ∨ 1000000 < n
  · rw [show amtE n = 2 from if_pos h]; exact amount_no n w h
  · rw [show amtE n = 0 from if_neg h]; exact amount_yes n w (by omega) (by omega)

/-- What Fits tells. -/
def fitR (E : Int) : Value := if E = 0 then .tuple #[.bool true, .nilIface] else if E = 1 then .tuple #[.bool false, .nilIface] else .tuple #[.bool false, .iface 24 (.int .i64 2)]
def rw0 (c a : Nat → Int) (t : Nat) : Int := if c t < 0 ∨ 1000000 < c t then 2 else if a (t + 1) < tot c (t + 1) then 1 else 0
set_option maxHeartbeats 1000000 in
theorem rows_any (x y : Option Addr) (cx cy n m : Nat) (c a : Nat → Int) (w : World) (hx : Row w x n c) (hy : Row w y m a) (hlt : n < m) (b0 : m ≤ 1000) :
    Calls Tryd.prog 34 #[.slice x n cx, .slice y m cy] w fun e w' => e = .returned (fitR (fst0 (rw0 c a) n)) ∧ w' = w := by
  obtain ⟨b', off', rfl⟩ := hy.some (by omega)
  have HX : Hid (Row w x n c) := hx
  have HY : Hid (Row w (some ⟨b', off', none⟩) m a) := hy
  clear hx hy
  go_enter Tryd.func34, Tryd.ntmps34
  go_wp2
  go_loop [6, 12] (fun s i => ∃ k : Nat, k ≤ n ∧ i = .int .i64 k ∧ s = .int .i64 (tot c k) ∧ Hid (fst0 (rw0 c a) k = 0)) (fun _ i => n - (intOf i).toNat)
  case atStart => exact ⟨0, Nat.zero_le _, rfl, rfl, rfl⟩
  case round =>
    obtain ⟨k, hk, rfl, rfl, HF⟩ := hrel
    by_cases hkn : k < n
    · obtain ⟨b, off, rfl⟩ := HX.out.some (by omega)
      have c0 := HX.out.at hkn
      have c1 := HY.out.at (i := k + 1) (by omega)
      have hok : ∀ i, i < k → 0 ≤ c i ∧ c i ≤ 1000000 := fun i hi => by
        have := (fst0_zero k).1 HF.out i hi
        unfold rw0 at this
        split at this
        · simp at this
        · omega
      have bt := tot_bd (c := c) (n := k) (B := 1000000) hok k (Nat.le_refl _)
      have bt1 : tot c k ≤ 1000000000 := by omega
      have bt0 := bt.1
      by_cases h2 : c k < 0 ∨ 1000000 < c k
      · have HE : Hid (fst0 (rw0 c a) n = 2) := by
          have hc : rw0 c a k = 2 := by unfold rw0; rw [if_pos h2]
          show fst0 (rw0 c a) n = 2
          rw [fst0_at HF.out (by rw [hc]; decide) hkn, hc]
        have HC := amount_no (c k) w h2
        have HC' : Hid (Calls Tryd.prog 43 #[.int .i64 (c k)] w fun e w' => e = .returned (.iface 24 (.int .i64 2)) ∧ w' = w) := HC
        clear HC h2 bt bt1 bt0 hok
        go_wp2_with fail
        refine HC'.out.mono ?_
        rintro e w' ⟨rfl, rfl⟩
        go_wp2
        go_ret2
        exact ⟨by rw [HE.out]; rfl, rfl⟩
      · have h20 : 0 ≤ c k := by omega
        have h21 : c k ≤ 1000000 := by omega
        have HC := amount_yes (c k) w h20 h21
        have HC' : Hid (Calls Tryd.prog 43 #[.int .i64 (c k)] w fun e w' => e = .returned .nilIface ∧ w' = w) := HC
        have e0 : IntKind.i64.wrap (tot c k + c k) = tot c (k + 1) := by rw [IntKind.wrap_i64]; simp only [tot]; omega
        by_cases h3 : a (k + 1) < tot c (k + 1)
        · have HE : Hid (fst0 (rw0 c a) n = 1) := by
            have hc : rw0 c a k = 1 := by unfold rw0; rw [if_neg h2, if_pos h3]
            show fst0 (rw0 c a) n = 1
            rw [fst0_at HF.out (by rw [hc]; decide) hkn, hc]
          clear HC h2 bt bt1 bt0 hok h20 h21
          go_wp2_with fail
          refine HC'.out.mono ?_
          rintro e w' ⟨rfl, rfl⟩
          go_wp2
          go_ret2
          exact ⟨by rw [HE.out]; rfl, rfl⟩
        · have HE : Hid (fst0 (rw0 c a) (k + 1) = 0) := fst0_next HF.out (by unfold rw0; rw [if_neg h2, if_neg h3])
          clear HC h2 bt bt1 bt0 hok h20 h21
          go_wp2_with fail
          refine HC'.out.mono ?_
          rintro e w' ⟨rfl, rfl⟩
          go_wp2
          go_round
          case rel => exact ⟨k + 1, by omega, by go_num, rfl, HE⟩
          case measure => simp [intOf]; omega
    · obtain rfl : k = n := by omega
      go_wp2
      go_ret2
      exact ⟨by rw [HF.out]; rfl, rfl⟩

theorem fits_no1 (x y : Option Addr) (cx cy n m : Nat) (g : Nat → Int) (w : World) (hm : m ≤ maxLen) (hy : Row w y m g) (h : ¬ okC m g) :
    Calls Tryd.prog 14 #[.slice x n cx, .slice y m cy] w fun e w' => e = .returned (.tuple #[.bool false, .iface 24 (.int .i64 (curveE m g))]) ∧ w' = w := by
  have HC : Hid (Calls Tryd.prog 33 #[.slice y m cy] w fun e w' => e = .returned (.iface 24 (.int .i64 (curveE m g))) ∧ w' = w) := cvcheck_no y cy m g w hm hy h
  clear hm hy h
  go_enter Tryd.func14, Tryd.ntmps14
  go_wp2_with fail
  refine HC.out.mono ?_
  rintro e w' ⟨rfl, rfl⟩
  go_wp2
  go_ret2
  exact ⟨rfl, rfl⟩
theorem fits_no2 (x y : Option Addr) (cx cy n m : Nat) (g : Nat → Int) (w : World) (hy : Row w y m g) (h : okC m g) (hle : m ≤ n) :
    Calls Tryd.prog 14 #[.slice x n cx, .slice y m cy] w fun e w' => e = .returned (.tuple #[.bool false, .iface 24 (.int .i64 4)]) ∧ w' = w := by
  have HC : Hid (Calls Tryd.prog 33 #[.slice y m cy] w fun e w' => e = .returned .nilIface ∧ w' = w) := cvcheck_ok y cy m g w hy h
  clear hy h
  go_enter Tryd.func14, Tryd.ntmps14
  go_wp2_with fail
  refine HC.out.mono ?_
  rintro e w' ⟨rfl, rfl⟩
  go_wp2
  go_ret2
  exact ⟨rfl, rfl⟩
theorem fitR_not {E : Int} (h : E = 1 ∨ E = 2) : ∃ v, fitR E = .tuple #[.bool false, v] := by
  rcases h with rfl | rfl
  · exact ⟨_, rfl⟩
  · exact ⟨_, rfl⟩
set_option maxHeartbeats 1000000 in
theorem fits_any (x y : Option Addr) (cx cy n m : Nat) (c a : Nat → Int) (w : World) (hx : Row w x n c) (hy : Row w y m a) (h : okC m a) (hlt : n < m) (hcx : n ≤ cx) :
    Calls Tryd.prog 14 #[.slice x n cx, .slice y m cy] w fun e w' => e = .returned (fitR (fitsE n c a)) ∧ w' = w := by
  have b1 := h.len
  have HC : Hid (Calls Tryd.prog 33 #[.slice y m cy] w fun e w' => e = .returned .nilIface ∧ w' = w) := cvcheck_ok y cy m a w hy h
  have HX : Hid (Row w x n c) := hx
  have HY : Hid (Row w y m a) := hy
  have hnl : ¬ m ≤ n := by omega
  clear hy h hx
  go_enter Tryd.func14, Tryd.ntmps14
  go_wp2_with fail
  refine HC.out.mono ?_
  rintro e w' ⟨rfl, rfl⟩
  go_wp2
  go_loop [23] (fun i => ∃ k : Nat, k ≤ n ∧ i = .int .i64 k ∧ Hid (fst0 (fun s => fst0 (rwE c a s) (n - s)) k = 0)) (fun i => n - (intOf i).toNat)
  case atStart => exact ⟨0, Nat.zero_le _, rfl, rfl⟩
  case round =>
    obtain ⟨k, hk, rfl, HF⟩ := hrel
    by_cases hkn : k < n
    · obtain ⟨b, off, rfl⟩ := HX.out.some (by omega)
      have hne : ¬ cx = k := by omega
      have hli : (k : Int) ≤ n := by omega
      have HR := rows_any (some ⟨b, off + k, none⟩) y (cx - k) cy (n - k) m (fun i => c (k + i)) a w' (HX.out.drop k) HY.out (by omega) (by omega)
      have hE : fst0 (rwE c a k) (n - k) = 0 ∨ fst0 (rwE c a k) (n - k) = 1 ∨ fst0 (rwE c a k) (n - k) = 2 := by
        generalize n - k = q
        induction q with
        | zero => exact Or.inl rfl
        | succ q ih =>
          simp only [fst0]
          split
          · unfold rwE; repeat' split
            all_goals simp
          · exact ih
      have hE0 : fst0 (rw0 (fun i => c (k + i)) a) (n - k) = fst0 (rwE c a k) (n - k) := rfl
      rw [hE0] at HR
      rcases hE with hE | hE | hE
      · rw [hE] at HR
        have HR' : Hid (Calls Tryd.prog 34 #[.slice (some ⟨b, off + k, none⟩) (n - k) (cx - k), .slice y m cy] w' fun e w'' => e = .returned (.tuple #[.bool true, .nilIface]) ∧ w'' = w') := HR
        have HE : Hid (fst0 (fun s => fst0 (rwE c a s) (n - s)) (k + 1) = 0) := fst0_next HF.out hE
        clear HR hE hE0
        go_wp2_with fail
        refine HR'.out.mono ?_
        rintro e w1 ⟨rfl, rfl⟩
        go_wp2
        go_round
        case rel => exact ⟨k + 1, by omega, by go_num, HE⟩
        case measure => simp [intOf]; omega
      · rw [hE] at HR
        have HR' : Hid (Calls Tryd.prog 34 #[.slice (some ⟨b, off + k, none⟩) (n - k) (cx - k), .slice y m cy] w' fun e w'' => e = .returned (.tuple #[.bool false, .nilIface]) ∧ w'' = w') := HR
        have HE : Hid (fitsE n c a = 1) := (fst0_at (g := fun s => fst0 (rwE c a s) (n - s)) HF.out (by rw [hE]; decide) hkn).trans hE
        clear HR hE hE0
        go_wp2_with fail
        refine HR'.out.mono ?_
        rintro e w1 ⟨rfl, rfl⟩
        go_wp2
        go_ret2
        exact ⟨by rw [HE.out]; rfl, rfl⟩
      · rw [hE] at HR
        have HR' : Hid (Calls Tryd.prog 34 #[.slice (some ⟨b, off + k, none⟩) (n - k) (cx - k), .slice y m cy] w' fun e w'' => e = .returned (.tuple #[.bool false, .iface 24 (.int .i64 2)]) ∧ w'' = w') := HR
        have HE : Hid (fitsE n c a = 2) := (fst0_at (g := fun s => fst0 (rwE c a s) (n - s)) HF.out (by rw [hE]; decide) hkn).trans hE
        clear HR hE hE0
        go_wp2_with fail
        refine HR'.out.mono ?_
        rintro e w1 ⟨rfl, rfl⟩
        go_wp2
        go_ret2
        exact ⟨by rw [HE.out]; rfl, rfl⟩
    · obtain rfl : k = n := by omega
      go_wp2
      go_ret2
      exact ⟨by rw [show fitsE k c a = 0 from HF.out]; rfl, rfl⟩
end Go.Proofs.YtebahbcmlhdleaaDoor
