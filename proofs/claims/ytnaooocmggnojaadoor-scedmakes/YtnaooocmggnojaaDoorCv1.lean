/-
  curve.checkAmount, Check, reach, excess: what each returns at every argument, and that nothing that was there before is otherwise. Conditions: the numbers lie in memory; of excess: both reach as far as it is asked, and their numbers are within 10^13.
-/
import Derived.Test.YtnaooocmggnojaaDoorCvRow
namespace Go.Proofs.YtnaooocmggnojaaDoor
open Go.RowKit Go.Extern.Stop Go.Stop Go.Extern

theorem ret_two {a b : Int} {v : Value} (h : a = b) : Ending.returned (.tuple #[.int .i64 a, v]) = .returned (.tuple #[.int .i64 b, v]) := by rw [h]
theorem ret_int {a b : Int} (h : a = b) : Ending.returned (.int .i64 a) = .returned (.int .i64 b) := by rw [h]
theorem amount_yes (n : Int) (w : World) (h0 : 0 ≤ n) (h1 : n ≤ 1000000) : Calls Tryd.prog 45 #[.int .i64 n] w fun e w' => e = .returned .nilIface ∧ w' = w := by
  go_enter Tryd.func45, Tryd.ntmps45
  go_wp2
  go_ret
  exact ⟨rfl, rfl⟩
theorem amount_no (n : Int) (w : World) (h : n < 0 ∨ 1000000 < n) : Calls Tryd.prog 45 #[.int .i64 n] w fun e w' => e = .returned (.iface 26 (.int .i64 2)) ∧ w' = w := by
  by_cases h0 : n < 0
  · go_enter Tryd.func45, Tryd.ntmps45
    go_wp2
    go_ret
    exact ⟨rfl, rfl⟩
  · have h1 : 1000000 < n := by omega
    have h2 : 0 ≤ n := by omega
    clear h h0
    go_enter Tryd.func45, Tryd.ntmps45
    go_wp2
    go_ret
    exact ⟨rfl, rfl⟩

theorem cvcheck_long (x : Option Addr) (cap n : Nat) (f : Nat → Int) (w : World) (hm : n ≤ maxLen) (h : n < 1 ∨ 201 < n) :
    Calls Tryd.prog 27 #[.slice x n cap] w fun e w' => e = .returned (errV (curveE n f)) ∧ w' = w := by
  have hE : curveE n f = 4 := by unfold curveE; rw [if_pos h]
  rw [hE]
  clear hE
  unfold maxLen at hm
  by_cases h0 : n < 1
  · go_enter Tryd.func27, Tryd.ntmps27
    go_wp2
    go_ret
    exact ⟨rfl, rfl⟩
  · have h1 : 201 < n := by omega
    clear h
    go_enter Tryd.func27, Tryd.ntmps27
    go_wp2
    go_ret
    exact ⟨rfl, rfl⟩

set_option maxHeartbeats 1000000 in
theorem cvcheck_any (x : Option Addr) (cap n : Nat) (f : Nat → Int) (w : World) (hm : n ≤ maxLen) (hR : Row w x n f) :
    Calls Tryd.prog 27 #[.slice x n cap] w fun e w' => e = .returned (errV (curveE n f)) ∧ w' = w := by
  by_cases h : n < 1 ∨ 201 < n
  · exact cvcheck_long x cap n f w hm h
  have h1 : ¬ n < 1 := by omega
  have h2 : ¬ 201 < n := by omega
  have HE : Hid (curveE n f = fst0 (cE f) n) := by unfold curveE; rw [if_neg h]; exact rfl
  obtain ⟨b, off, rfl⟩ := hR.some (by omega)
  have HR : Hid (Row w (some ⟨b, off, none⟩) n f) := hR
  clear h hm hR
  go_enter Tryd.func27, Tryd.ntmps27
  go_wp2
  go_loop [3, 17] (fun a i => ∃ k : Nat, k ≤ n ∧ i = .int .i64 k ∧ a = .int .i64 (ahd f k) ∧ Hid (fst0 (cE f) k = 0)) (fun _ i => n - (intOf i).toNat)
  case atStart => exact ⟨0, Nat.zero_le _, rfl, rfl, rfl⟩
  case round =>
    obtain ⟨k, hk, rfl, rfl, HF⟩ := hrel
    by_cases hlt : k < n
    · have c := HR.out.at hlt
      have HA : Hid (f k = ahd f (k + 1)) := rfl
      by_cases h3 : f k < 0
      · have HG : Hid (curveE n f = 2) := by
          have hc : cE f k = 2 := by unfold cE; rw [if_pos (Or.inl h3)]
          show curveE n f = _
          rw [HE.out, fst0_at HF.out (by rw [hc]; decide) hlt, hc]
        go_wp2
        go_ret
        exact ⟨by rw [HG.out]; rfl, rfl⟩
      by_cases h4 : 1000000000000 < f k
      · have HG : Hid (curveE n f = 2) := by
          have hc : cE f k = 2 := by unfold cE; rw [if_pos (Or.inr h4)]
          show curveE n f = _
          rw [HE.out, fst0_at HF.out (by rw [hc]; decide) hlt, hc]
        go_wp2
        go_ret
        exact ⟨by rw [HG.out]; rfl, rfl⟩
      by_cases h5 : f k < ahd f k
      · have HG : Hid (curveE n f = 10) := by
          have hc : cE f k = 10 := by unfold cE; rw [if_neg (by omega), if_pos h5]
          show curveE n f = _
          rw [HE.out, fst0_at HF.out (by rw [hc]; decide) hlt, hc]
        go_wp2
        go_ret
        exact ⟨by rw [HG.out]; rfl, rfl⟩
      have HG : Hid (fst0 (cE f) (k + 1) = 0) := fst0_next HF.out (by unfold cE; rw [if_neg (by omega), if_neg h5])
      go_wp2
      go_round
      case rel => exact ⟨k + 1, by omega, by go_num, rfl, HG⟩
      case measure => simp [intOf]; omega
    · obtain rfl : k = n := by omega
      go_wp2
      go_ret
      exact ⟨by rw [HE.out, HF.out]; rfl, rfl⟩
theorem cvcheck_ok (x : Option Addr) (cap n : Nat) (f : Nat → Int) (w : World) (hR : Row w x n f) (h : okC n f) :
    Calls Tryd.prog 27 #[.slice x n cap] w fun e w' => e = .returned .nilIface ∧ w' = w := by
  have := cvcheck_any x cap n f w (by have := h.len; unfold maxLen; omega) hR
  rw [curveE_zero.2 h, errV_zero] at this
  exact this
theorem cvcheck_no (x : Option Addr) (cap n : Nat) (f : Nat → Int) (w : World) (hm : n ≤ maxLen) (hR : Row w x n f) (h : ¬ okC n f) :
    Calls Tryd.prog 27 #[.slice x n cap] w fun e w' => e = .returned (.iface 26 (.int .i64 (curveE n f))) ∧ w' = w := by
  have := cvcheck_any x cap n f w hm hR
  rw [errV_not (fun e => h (curveE_zero.1 e))] at this
  exact this

/-- What both are refused with: 0: nothing. -/
def pairE (n : Nat) (f : Nat → Int) (m : Nat) (g : Nat → Int) : Int := if curveE n f = 0 then curveE m g else curveE n f
theorem pairE_zero {n m : Nat} {f g : Nat → Int} : pairE n f m g = 0 ↔ okC n f ∧ okC m g := by
  unfold pairE
  constructor
  · intro h
    split at h
    · rename_i h0; exact ⟨curveE_zero.1 h0, curveE_zero.1 h⟩
    · rename_i h0; exact absurd h h0
  · rintro ⟨h1, h2⟩
    rw [if_pos (curveE_zero.2 h1)]; exact curveE_zero.2 h2
/-- Numbers within 10^13. -/
def Mild (n : Nat) (f : Nat → Int) : Prop := ∀ i, i < n → -10000000000000 ≤ f i ∧ f i ≤ 10000000000000
theorem okC.mild {n : Nat} {f : Nat → Int} (h : okC n f) : Mild n f := fun i hi => by have := h.low i hi; have := h.top i hi; omega
theorem Mild.take {n m : Nat} {f : Nat → Int} (h : Mild n f) (hm : m ≤ n) : Mild m f := fun i hi => h i (by omega)
end Go.Proofs.YtnaooocmggnojaaDoor
