/-
  sketch.Rate: a mean that follows: what it returns at every argument, its errors too, and that nothing that was there before is otherwise. Conditions: the numbers lie in memory, and a slice is no longer than may be.
-/
import Derived.Test.YtkmbnklfaaopaaaDoorCvRow
namespace Go.Proofs.YtkmbnklfaaopaaaDoor
open Go.RowKit Go.Extern.Stop Go.Stop Go.Extern

/-- One step of a mean. -/
def stepM (h : Nat) (m n : Int) : Int := m + (1000 * n - m) / 2 ^ h
/-- The mean behind k numbers. -/
def meanR (h : Nat) (c : Nat → Int) : Nat → Int
  | 0 => 0
  | k + 1 => stepM h (meanR h c k) (c k)
/-- The greatest of k numbers (0 is one of them). -/
def topR (c : Nat → Int) : Nat → Int
  | 0 => 0
  | k + 1 => max (topR c k) (c k)
theorem two_pow_pos (h : Nat) : (0 : Int) < 2 ^ h := Int.pow_pos (by omega)
theorem stepM_bd {h : Nat} {m n T : Int} (h0 : 0 ≤ m) (h1 : m ≤ 1000 * T) (n0 : 0 ≤ n) (n1 : n ≤ T) : 0 ≤ stepM h m n ∧ stepM h m n ≤ 1000 * T := by
  unfold stepM
  have hp := two_pow_pos h
  generalize (2 : Int) ^ h = p at *
  by_cases hd : 0 ≤ 1000 * n - m
  · have a := Int.ediv_nonneg hd (Int.le_of_lt hp)
    have b := Int.ediv_le_self p hd
    omega
  · have a : 1000 * n - m ≤ (1000 * n - m) / p := by
      rw [Int.le_ediv_iff_mul_le hp]
      have : (1000 * n - m) * (p - 1) ≤ 0 := Int.mul_nonpos_of_nonpos_of_nonneg (by omega) (by omega)
      rw [Int.mul_sub] at this
      omega
    have b : (1000 * n - m) / p ≤ 0 := by
      have : (1000 * n - m) / p < 0 := Int.ediv_neg_of_neg_of_pos (by omega) hp
      omega
    omega
theorem top_nonneg (c : Nat → Int) : ∀ k, 0 ≤ topR c k
  | 0 => by simp [topR]
  | k + 1 => by have := top_nonneg c k; simp only [topR]; omega
/-- What may be told. -/
abbrev okN (v : Int) : Prop := 0 ≤ v ∧ v ≤ 1000000
theorem top_le {c : Nat → Int} : ∀ k, (∀ i, i < k → okN (c i)) → topR c k ≤ 1000000
  | 0, _ => by simp [topR]
  | k + 1, h => by
    have := top_le k (fun i hi => h i (by omega))
    have := (h k (by omega)).2
    simp only [topR]; omega
theorem mean_bd {h : Nat} {c : Nat → Int} : ∀ k, (∀ i, i < k → okN (c i)) → 0 ≤ meanR h c k ∧ meanR h c k ≤ 1000 * topR c k
  | 0, _ => by simp [meanR, topR]
  | k + 1, hh => by
    have a := mean_bd (h := h) k (fun i hi => hh i (by omega))
    have b := hh k (by omega)
    refine stepM_bd a.1 ?_ b.1 ?_
    · simp only [topR]; omega
    · simp only [topR]; omega
/-- The error: 0 for none. -/
def rateE (n : Nat) (c : Nat → Int) (hv : Int) : Int := if hv < 0 ∨ 10 < hv then 2 else if 100 < n then 4 else if ∀ i, i < n → okN (c i) then 0 else 2

theorem cell_new1 (w : World) (v : Value) (t : TypeId) : ∀ j u, [v][j]? = some u → (w.alloc (.cells #[v] t)).cell? ((⟨w.heap.size, 0, none⟩ : Addr).add j) = some u := by
  intro j u h
  cases j with
  | zero => simp at h; subst h; simp [Addr.add]
  | succ j => simp at h

set_option maxRecDepth 20000 in
set_option maxHeartbeats 2000000 in
theorem rate_any (x : Option Addr) (cap n : Nat) (c : Nat → Int) (hv : Int) (w : World) (hx : Row w x n c) (b0 : n ≤ maxLen) :
    Calls Tryd.prog 19 #[.slice x n cap, .int .i64 hv] w fun e w' => ((rateE n c hv = 0 ∧ ∃ y cy, e = .returned (.tuple #[.slice y n cy, .nilIface]) ∧ Row w' y n (fun i => meanR hv.toNat c (i + 1)) ∧ n ≤ 100) ∨ (rateE n c hv ≠ 0 ∧ e = .returned (.tuple #[.slice none 0 0, .iface 24 (.int .i64 (rateE n c hv))]))) ∧ Below w.heap.size w w' := by
  obtain ⟨i0, hi, hz0, hz1, hz2⟩ := info_parts infoInt
  have HX : Hid (Row w x n c) := hx
  clear hx
  unfold maxLen at b0
  by_cases hr : hv < 0 ∨ 10 < hv
  · have HE : Hid (rateE n c hv = 2) := by show rateE n c hv = 2; unfold rateE; rw [if_pos hr]
    rcases hr with hr | hr
    all_goals
      go_enter Tryd.func19, Tryd.ntmps19
      go_wp2
      go_ret2
      exact ⟨Or.inr ⟨by rw [HE.out]; decide, by rw [HE.out]; rfl⟩, Below.refl _ _⟩
  have hr1 : ¬ hv < 0 := by omega
  have hr2 : ¬ 10 < hv := by omega
  clear hr
  by_cases hl : 100 < n
  · have HE : Hid (rateE n c hv = 4) := by show rateE n c hv = 4; unfold rateE; rw [if_neg (by omega), if_pos hl]
    go_enter Tryd.func19, Tryd.ntmps19
    go_wp2
    go_ret2
    exact ⟨Or.inr ⟨by rw [HE.out]; decide, by rw [HE.out]; rfl⟩, Below.refl _ _⟩
  have HE : Hid (rateE n c hv = if ∀ i, i < n → okN (c i) then 0 else 2) := by show rateE n c hv = _; unfold rateE; rw [if_neg (by omega), if_neg hl]
  go_enter Tryd.func19, Tryd.ntmps19
  go_wp2
  go_loopw [6, 7, 23] (fun o s i wr => ∃ k : Nat, k ≤ n ∧ i = .int .i64 k ∧ s = .int .i64 (meanR hv.toNat c k) ∧ wr.ownsRow w.heap.size 3 1 o k (vals (fun i => meanR hv.toNat c (i + 1)) k) ∧ Hid (∀ i, i < k → okN (c i)) ∧ Below w.heap.size w wr) (fun _ _ i _ => n - (intOf i).toNat)
  case atStart =>
    exact ⟨0, Nat.zero_le _, rfl, rfl, ⟨rfl, .inl ⟨rfl, rfl⟩⟩, fun i hi => by omega, Below.refl _ _⟩
  case round =>
    obtain ⟨k, hk, rfl, rfl, hown, HA, hbel⟩ := hrel
    by_cases hlt : k < n
    · obtain ⟨b, off, rfl⟩ := HX.out.some (by omega)
      have c0 := (HX.out.below hbel).at hlt
      have HO : Hid (wr.ownsRow w.heap.size 3 1 u6 k (vals (fun i => meanR hv.toNat c (i + 1)) k)) := hown
      have HB : Hid (Below w.heap.size w wr) := hbel
      clear hown hbel
      by_cases hok : okN (c k)
      · have hA' : ∀ i, i < k + 1 → okN (c i) := fun i hi => by
          by_cases e : i = k
          · subst e; exact hok
          · exact HA.out i (by omega)
        have HA' : Hid (∀ i, i < k + 1 → okN (c i)) := hA'
        have bt := mean_bd (h := hv.toNat) k HA.out
        have bu := top_le k HA.out
        have bt' := mean_bd (h := hv.toNat) (k + 1) hA'
        have bu' := top_le (k + 1) hA'
        have HM : Hid (meanR hv.toNat c (k + 1) = meanR hv.toNat c k + (1000 * c k - meanR hv.toNat c k) / 2 ^ hv.toNat) := rfl
        obtain ⟨k0, k1⟩ := hok
        have q1 : k + 1 ≤ maxLen := by unfold maxLen; omega
        have q2 : (k + 1) * 8 ≤ 140737488355328 := by omega
        have q3 : ∀ o, w.heap.size ≤ (wr.alloc o).heap.size := fun o => by simp; have := HB.out.size; omega
        have e0 : IntKind.i64.wrap (1000 * c k) = 1000 * c k := by rw [IntKind.wrap_i64]; omega
        have e1 : IntKind.i64.wrap (1000 * c k - meanR hv.toNat c k) = 1000 * c k - meanR hv.toNat c k := by rw [IntKind.wrap_i64]; omega
        have e2 : IntKind.i64.wrap (meanR hv.toNat c k + (1000 * c k - meanR hv.toNat c k) / 2 ^ hv.toNat) = meanR hv.toNat c (k + 1) := by rw [← HM.out, IntKind.wrap_i64]; omega
        clear hA' bt bu bt' bu'
        have hk0 : ¬ c k < 0 := by omega
        have hk1 : ¬ 1000000 < c k := by omega
        have hs0 : 0 ≤ hv := by omega
        have hs1 : hv ≤ 64 := by omega
        go_wp2_with (at_builtin; refine wpList_append_own _ rfl _ _ 22 rfl w.heap.size 3 i0 (.int .i64 0) 1 8 Tryd.underlying22 hi hz0 hz1 hz2 rfl (by decide) _ _ _ rfl (HO.out.alloc _) ⟨wr.heap.size, 0, none⟩ 1 1 [.int .i64 (meanR hv.toNat c (k + 1))] rfl rfl (cell_new1 _ _ _) (by simp [Value.oneCell']) q1 q2 (q3 _) ?_; intro v' w4 hown4 hgrow4 _)
        go_roundw
        case rel =>
          have hb4 : Below w.heap.size w w4 := (HB.out.alloc HB.out.size _).grown hgrow4 (by simp; have := HB.out.size; omega) (fun j e => (HO.out.lt j e).1)
          exact ⟨k + 1, by omega, by go_num, rfl, by rw [vals_succ]; exact hown4, HA', hb4⟩
        case measure => simp [intOf]; omega
      · have HE2 : Hid (rateE n c hv = 2) := by
          show rateE n c hv = 2
          rw [HE.out, if_neg (fun h => hok (h k hlt))]
        have hn : c k < 0 ∨ 1000000 < c k := by unfold okN at hok; omega
        clear hok
        rcases hn with hn | hn
        · go_wp2
          go_ret2
          exact ⟨Or.inr ⟨by rw [HE2.out]; decide, by rw [HE2.out]; rfl⟩, HB.out⟩
        · have hn0 : ¬ c k < 0 := by omega
          go_wp2
          go_ret2
          exact ⟨Or.inr ⟨by rw [HE2.out]; decide, by rw [HE2.out]; rfl⟩, HB.out⟩
    · obtain rfl : k = n := by omega
      have HO : Hid (wr.ownsRow w.heap.size 3 1 u6 k (vals (fun i => meanR hv.toNat c (i + 1)) k)) := hown
      have HB : Hid (Below w.heap.size w wr) := hbel
      clear hown hbel
      obtain ⟨y, cy, rfl, _, _, hrow⟩ := row_of_owns HO.out
      have HR : Hid (Row wr y k (fun i => meanR hv.toNat c (i + 1))) := hrow
      clear hrow
      go_wp2
      go_ret2
      exact ⟨Or.inl ⟨by rw [HE.out, if_pos HA.out], y, cy, rfl, HR.out, by omega⟩, HB.out⟩
end Go.Proofs.YtkmbnklfaaopaaaDoor
