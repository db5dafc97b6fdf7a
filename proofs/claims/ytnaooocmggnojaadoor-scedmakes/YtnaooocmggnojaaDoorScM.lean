/-
  Who is promised the soonest goes first, as mathematics: the plan tick by tick, what has gone of each flow, when each cell is through; and that all promises are kept where together they are no more than a cell a tick. Nothing of the program is claimed here by itself.
-/
import Derived.Test.YtnaooocmggnojaaDoorCvMath
namespace Go.Proofs.YtnaooocmggnojaaDoor

/-- The first index at which p holds, or -1. -/
def fixI (p : Nat → Bool) (n : Nat) : Int := if ff p n < n then (ff p n : Int) else -1
/-- Beyond n: nothing. -/
def padF (n : Nat) (f : Nat → Int) (t : Nat) : Int := if t < n then f t else 0
/-- By when the k-th cell (from 0 on) is promised. -/
def prm (c b : Nat → Int) (T k : Nat) : Int := fixI (fun t => decide ((k : Int) + 1 ≤ conv (tot c) b t)) (T + 1)
theorem fixI_range (p : Nat → Bool) (n : Nat) : -1 ≤ fixI p n ∧ fixI p n < n ∨ fixI p n = -1 := by
  unfold fixI
  split
  · left; omega
  · right; rfl
theorem prm_ge (c b : Nat → Int) (T k : Nat) : -1 ≤ prm c b T k ∧ prm c b T k ≤ T := by
  rcases fixI_range (fun t => decide ((k : Int) + 1 ≤ conv (tot c) b t)) (T + 1) with h | h
  · unfold prm; omega
  · unfold prm; omega
theorem prm_due {c b : Nat → Int} {T k t : Nat} (hm : ∀ i j, i ≤ j → j ≤ T → conv (tot c) b i ≤ conv (tot c) b j) (ht : t ≤ T) : (0 ≤ prm c b T k ∧ prm c b T k ≤ t) ↔ (k : Int) + 1 ≤ conv (tot c) b t := by
  unfold prm fixI
  constructor
  · rintro ⟨h0, h1⟩
    split at h0
    · rename_i hlt
      rw [if_pos hlt] at h1
      have := ff_yes _ _ hlt
      simp only [decide_eq_true_eq] at this
      have := hm _ t (by omega : ff (fun t => decide ((k : Int) + 1 ≤ conv (tot c) b t)) (T + 1) ≤ t) ht
      omega
    · omega
  · intro h
    have hle : ff (fun t => decide ((k : Int) + 1 ≤ conv (tot c) b t)) (T + 1) ≤ t := by
      apply Classical.byContradiction
      intro hn
      have := ff_not (fun t => decide ((k : Int) + 1 ≤ conv (tot c) b t)) (T + 1) t (by omega)
      simp only [decide_eq_false_iff_not] at this
      exact this h
    rw [if_pos (by omega)]
    omega

/-! ### Whose cell goes -/
/-- j's first cell is promised sooner than i's. -/
def aheadQ (P : Nat → Nat → Int) (g : Nat → Nat) (i j : Nat) : Bool := decide (0 ≤ P i (g i)) && (decide (P j (g j) < 0) || decide (P i (g i) < P j (g j)))
def waitQ (h : Nat → Int) (g : Nat → Nat) (i : Nat) : Bool := decide ((g i : Int) < h i)
/-- The best of the first k flows, or -1. -/
def bst (P : Nat → Nat → Int) (h : Nat → Int) (g : Nat → Nat) : Nat → Int
  | 0 => -1
  | k + 1 => if (waitQ h g k && (decide (bst P h g k < 0) || aheadQ P g k (bst P h g k).toNat)) = true then (k : Int) else bst P h g k
theorem bst_range (P : Nat → Nat → Int) (h : Nat → Int) (g : Nat → Nat) : ∀ k, bst P h g k = -1 ∨ ∃ j, j < k ∧ bst P h g k = j ∧ waitQ h g j = true := by
  intro k
  induction k with
  | zero => exact Or.inl rfl
  | succ k ih =>
    simp only [bst]
    split
    · rename_i hc
      simp only [Bool.and_eq_true] at hc
      exact Or.inr ⟨k, by omega, rfl, hc.1⟩
    · rcases ih with h | ⟨j, hj, h1, h2⟩
      · exact Or.inl h
      · exact Or.inr ⟨j, by omega, h1, h2⟩
theorem bst_none {P : Nat → Nat → Int} {h : Nat → Int} {g : Nat → Nat} : ∀ k, bst P h g k < 0 → ∀ j, j < k → waitQ h g j = false := by
  intro k
  induction k with
  | zero => intro _ j hj; omega
  | succ k ih =>
    intro hb j hj
    simp only [bst] at hb
    split at hb
    · omega
    · rename_i hc
      by_cases e : j = k
      · subst e
        cases hw : waitQ h g j
        · rfl
        · exfalso; apply hc; rw [hw]; simp [hb]
      · exact ih hb j (by omega)
/-- Of those that wait none is due by t, unless the best one is. -/
theorem bst_due {P : Nat → Nat → Int} {h : Nat → Int} {g : Nat → Nat} {t : Int} : ∀ k j, j < k → waitQ h g j = true → 0 ≤ P j (g j) → P j (g j) ≤ t → ∃ i, i < k ∧ bst P h g k = i ∧ waitQ h g i = true ∧ 0 ≤ P i (g i) ∧ P i (g i) ≤ t := by
  intro k
  induction k with
  | zero => intro j hj; omega
  | succ k ih =>
    intro j hj hw h0 h1
    simp only [bst]
    split
    · rename_i hc
      simp only [Bool.and_eq_true, Bool.or_eq_true, decide_eq_true_eq] at hc
      by_cases e : j = k
      · subst e; exact ⟨j, by omega, rfl, hw, h0, h1⟩
      · obtain ⟨i, hi, hb, _, p0, p1⟩ := ih j (by omega) hw h0 h1
        refine ⟨k, by omega, rfl, hc.1, ?_⟩
        rcases hc.2 with hx | hx
        · omega
        · unfold aheadQ at hx
          rw [hb] at hx
          simp only [Bool.and_eq_true, Bool.or_eq_true, decide_eq_true_eq, Int.toNat_natCast] at hx
          omega
    · rename_i hc
      by_cases e : j = k
      · subst e
        rcases bst_range P h g j with hb | ⟨i, hi, hb, hwi⟩
        · exfalso; apply hc; rw [hw]; simp [hb]
        · refine ⟨i, by omega, hb, hwi, ?_⟩
          rw [hw, hb] at hc
          unfold aheadQ at hc
          simp only [Bool.true_and, Bool.or_eq_true, Bool.and_eq_true, decide_eq_true_eq, Int.toNat_natCast, not_or, not_and] at hc
          have := hc.2 h0
          omega
      · obtain ⟨i, hi, rest⟩ := ih j (by omega) hw h0 h1
        exact ⟨i, by omega, rest⟩
theorem bst_congr {P P' : Nat → Nat → Int} {h h' : Nat → Int} {g g' : Nat → Nat} : ∀ k, (∀ i, i < k → h i = h' i) → (∀ i, i < k → g i = g' i) → (∀ i, i < k → P i (g i) = P' i (g' i)) → bst P h g k = bst P' h' g' k := by
  intro k
  induction k with
  | zero => intro _ _ _; rfl
  | succ k ih =>
    intro hh hg hP
    have e := ih (fun i hi => hh i (by omega)) (fun i hi => hg i (by omega)) (fun i hi => hP i (by omega))
    simp only [bst]
    rw [e]
    rcases bst_range P' h' g' k with hb | ⟨j, hj, hb, _⟩
    · rw [hb]
      simp [waitQ, hh k (by omega), hg k (by omega)]
    · have ek := hP k (by omega)
      have ej := hP j (by omega)
      rw [hg k (by omega)] at ek
      rw [hg j (by omega)] at ej
      rw [hb]
      simp [waitQ, aheadQ, hh k (by omega), hg k (by omega), hg j (by omega), ek, ej]

/-! ### The plan -/
section
variable (P : Nat → Nat → Int) (c : Nat → Nat → Int) (m : Nat)
/-- How many have come of each flow by a tick (at it, too). -/
def hre (t i : Nat) : Int := tot (c i) (t + 1)
/-- How many have gone of each flow ahead of a tick. -/
def gon : Nat → Nat → Nat
  | 0 => fun _ => 0
  | t + 1 => fun i => if bst P (hre c t) (gon t) m = (i : Int) then gon t i + 1 else gon t i
/-- Whose cell goes at a tick. -/
def pik (t : Nat) : Int := bst P (hre c t) (gon P c m t) m
/-- When the k-th cell is through, as far as is known ahead of a tick. -/
def thr : Nat → Nat → Nat → Int
  | 0 => fun _ _ => -1
  | t + 1 => fun i k => if pik P c m t = (i : Int) ∧ k = gon P c m t i then (t : Int) + 1 else thr t i k
end
variable {P : Nat → Nat → Int} {c : Nat → Nat → Int} {m : Nat}
theorem gon_succ (t i : Nat) : gon P c m (t + 1) i = if pik P c m t = (i : Int) then gon P c m t i + 1 else gon P c m t i := rfl
theorem thr_succ (t i k : Nat) : thr P c m (t + 1) i k = if pik P c m t = (i : Int) ∧ k = gon P c m t i then (t : Int) + 1 else thr P c m t i k := rfl
theorem pik_range (t : Nat) : pik P c m t = -1 ∨ ∃ j, j < m ∧ pik P c m t = j ∧ (gon P c m t j : Int) < tot (c j) (t + 1) := by
  rcases bst_range P (hre c t) (gon P c m t) m with h | ⟨j, hj, h1, h2⟩
  · exact Or.inl h
  · exact Or.inr ⟨j, hj, h1, by unfold waitQ hre at h2; simpa using h2⟩
theorem gon_le (hc : ∀ i, i < m → ∀ t, 0 ≤ c i t) : ∀ t i, i < m → (gon P c m t i : Int) ≤ tot (c i) t := by
  intro t
  induction t with
  | zero => intro i _; simp [gon, tot]
  | succ t ih =>
    intro i hi
    rw [gon_succ]
    split
    · rename_i hp
      rcases pik_range (P := P) (c := c) (m := m) t with h | ⟨j, _, h1, h2⟩
      · omega
      · have : j = i := by omega
        subst this
        omega
    · have := ih i hi
      have := hc i hi t
      simp only [tot]
      omega
theorem gon_mono : ∀ s t i, s ≤ t → gon P c m s i ≤ gon P c m t i := by
  intro s t i h
  induction t with
  | zero => have : s = 0 := by omega
            subst this; exact Nat.le_refl _
  | succ t ih =>
    by_cases e : s = t + 1
    · subst e; exact Nat.le_refl _
    · have := ih (by omega)
      rw [gon_succ]
      split <;> omega
theorem thr_late : ∀ t i k, gon P c m t i ≤ k → thr P c m t i k = -1 := by
  intro t
  induction t with
  | zero => intro i k _; rfl
  | succ t ih =>
    intro i k hk
    rw [gon_succ] at hk
    rw [thr_succ]
    split at hk
    · rw [if_neg (by omega)]; exact ih i k (by omega)
    · rename_i hp
      rw [if_neg (fun h => hp h.1)]; exact ih i k hk
theorem thr_at : ∀ t i k, k < gon P c m t i → ∃ s, s < t ∧ thr P c m t i k = (s : Int) + 1 ∧ gon P c m s i = k ∧ pik P c m s = (i : Int) := by
  intro t
  induction t with
  | zero => intro i k hk; simp [gon] at hk
  | succ t ih =>
    intro i k hk
    rw [gon_succ] at hk
    rw [thr_succ]
    by_cases hp : pik P c m t = (i : Int)
    · rw [if_pos hp] at hk
      by_cases e : k = gon P c m t i
      · exact ⟨t, by omega, by rw [if_pos ⟨hp, e⟩], e.symm, hp⟩
      · obtain ⟨s, hs, h1, h2⟩ := ih i k (by omega)
        exact ⟨s, by omega, by rw [if_neg (fun h => e h.2)]; exact h1, h2⟩
    · rw [if_neg hp] at hk
      obtain ⟨s, hs, h1, h2⟩ := ih i k hk
      exact ⟨s, by omega, by rw [if_neg (fun h => hp h.1)]; exact h1, h2⟩
theorem thr_soon {t d i k : Nat} (hd : d ≤ t) (hk : k < gon P c m d i) : 0 ≤ thr P c m t i k ∧ thr P c m t i k ≤ d := by
  obtain ⟨s, hs, h1, h2, h3⟩ := thr_at (P := P) (c := c) (m := m) t i k (by have := gon_mono (P := P) (c := c) (m := m) d t i hd; omega)
  have : s < d := by
    apply Classical.byContradiction
    intro hn
    have := gon_mono (P := P) (c := c) (m := m) d s i (by omega)
    omega
  omega
theorem thr_order {t i k : Nat} (h : 0 ≤ thr P c m t i (k + 1)) : thr P c m t i k < thr P c m t i (k + 1) := by
  have hlt : k + 1 < gon P c m t i := by
    apply Classical.byContradiction
    intro hn
    have := thr_late (P := P) (c := c) (m := m) t i (k + 1) (by omega)
    omega
  obtain ⟨s, hs, h1, h2, _⟩ := thr_at t i (k + 1) hlt
  have := thr_soon (P := P) (c := c) (m := m) (t := t) (d := s) (i := i) (k := k) (by omega) (by omega)
  omega

/-! ### Sums -/
theorem tot_le {f g : Nat → Int} : ∀ n, (∀ j, j < n → f j ≤ g j) → tot f n ≤ tot g n := by
  intro n
  induction n with
  | zero => intro _; exact Int.le_refl _
  | succ n ih =>
    intro h
    have h1 := ih (fun j hj => h j (by omega))
    have h2 := h n (by omega)
    simp only [tot]
    omega
theorem tot_like {f g : Nat → Int} : ∀ n, (∀ j, j < n → f j ≤ g j) → tot g n ≤ tot f n → ∀ j, j < n → g j ≤ f j := by
  intro n
  induction n with
  | zero => intro _ _ j hj; omega
  | succ n ih =>
    intro h ht j hj
    have h1 := tot_le n (fun j hj => h j (by omega))
    have h2 := h n (by omega)
    simp only [tot] at ht
    by_cases e : j = n
    · subst e; omega
    · exact ih (fun j hj => h j (by omega)) (by omega) j (by omega)
theorem tot_sub (f g : Nat → Int) : ∀ n, tot (fun j => f j - g j) n = tot f n - tot g n := by
  intro n
  induction n with
  | zero => simp [tot]
  | succ n ih => simp only [tot]; omega
theorem tot_one {f g : Nat → Int} {i : Nat} : ∀ n, i < n → (∀ j, j ≠ i → g j = f j) → g i = f i + 1 → tot g n = tot f n + 1 := by
  intro n
  induction n with
  | zero => intro h; omega
  | succ n ih =>
    intro hi ho h1
    simp only [tot]
    by_cases e : i = n
    · subst e
      have := tot_congr (c := g) (c' := f) i (fun j hj => ho j (by omega))
      omega
    · have := ih (by omega) ho h1
      have := ho n (fun x => e x.symm)
      omega

/-! ### All promises are kept -/
theorem conv_mono {a b : Nat → Int} {T : Nat} (ha : ∀ i j, i ≤ j → j ≤ T → a i ≤ a j) (hb : ∀ i j, i ≤ j → j ≤ T → b i ≤ b j) : ∀ i j, i ≤ j → j ≤ T → conv a b i ≤ conv a b j := by
  intro i j hij hj
  induction j with
  | zero => have : i = 0 := by omega
            subst this; exact Int.le_refl _
  | succ j ih =>
    by_cases e : i = j + 1
    · subst e; exact Int.le_refl _
    · have h1 := ih (by omega) (by omega)
      have h2 := conv_up (a := a) (b := b) (t := j) (ha j (j + 1) (by omega) hj) (fun i hi => hb i (i + 1) (by omega) (by omega))
      omega
theorem edf {b : Nat → Nat → Int} {T : Nat} (hc : ∀ i, i < m → ∀ t, 0 ≤ c i t) (hb0 : ∀ i, i < m → ∀ t, t ≤ T → 0 ≤ b i t) (hbm : ∀ i, i < m → ∀ s t, s ≤ t → t ≤ T → b i s ≤ b i t)
    (hfit : ∀ t, t ≤ T → tot (fun i => b i t) m ≤ t) (hP : ∀ i, i < m → ∀ k, P i k = prm (c i) (b i) T k) :
    ∀ t, t ≤ T → ∀ i, i < m → conv (tot (c i)) (b i) t ≤ gon P c m t i := by
  intro t ht
  have hcm : ∀ i, i < m → ∀ s t, s ≤ t → t ≤ T → conv (tot (c i)) (b i) s ≤ conv (tot (c i)) (b i) t := fun i hi => conv_mono (fun s t hs _ => tot_mono (c := c i) (n := t) (fun k _ => hc i hi k) t s hs (Nat.le_refl _)) (hbm i hi)
  have key : ∀ u, u ≤ t → tot (fun j => conv (tot (c j)) (b j) t) m - (t - u : Nat) ≤ tot (fun j => min (gon P c m u j : Int) (conv (tot (c j)) (b j) t)) m := by
    intro u
    induction u with
    | zero =>
      intro _
      have h1 : tot (fun j => conv (tot (c j)) (b j) t) m ≤ tot (fun i => b i t) m := tot_le m fun j hj => by
        have := conv_le (tot (c j)) (b j) t 0 (by omega)
        simpa [tot] using this
      have h2 := hfit t ht
      have h3 : (0 : Int) ≤ tot (fun j => min (gon P c m 0 j : Int) (conv (tot (c j)) (b j) t)) m := by
        have := tot_le (f := fun _ => 0) (g := fun j => min (gon P c m 0 j : Int) (conv (tot (c j)) (b j) t)) m (fun j hj => by
          have := conv_low (a := tot (c j)) (b := b j) (t := t) (fun i _ => by have := tot_mono (c := c j) (n := i) (fun k _ => hc j hj k) i 0 (by omega) (Nat.le_refl _); simpa [tot] using this) (fun i hi => hb0 j hj i (by omega))
          simp only [gon]
          omega)
        have h0 : ∀ n, tot (fun _ => (0 : Int)) n = 0 := by
          intro n
          induction n with
          | zero => rfl
          | succ n ih => simp only [tot]; omega
        rw [h0] at this
        exact this
      simp only [Nat.sub_zero]
      omega
    | succ u ih =>
      intro hu
      have ih := ih (by omega)
      by_cases hd : ∃ j, j < m ∧ waitQ (hre c u) (gon P c m u) j = true ∧ 0 ≤ P j (gon P c m u j) ∧ P j (gon P c m u j) ≤ t
      · obtain ⟨j, hj, hw, p0, p1⟩ := hd
        obtain ⟨i, hi, hbi, hwi, q0, q1⟩ := bst_due (t := (t : Int)) m j hj hw p0 p1
        rw [hP i hi] at q0 q1
        have hdue := (prm_due (hcm i hi) ht).1 ⟨q0, q1⟩
        have hpik : pik P c m u = (i : Int) := hbi
        have h1 : tot (fun j => min (gon P c m (u + 1) j : Int) (conv (tot (c j)) (b j) t)) m = tot (fun j => min (gon P c m u j : Int) (conv (tot (c j)) (b j) t)) m + 1 := by
          refine tot_one m hi (fun j hj => ?_) ?_
          · simp only [gon_succ]
            rw [hpik, if_neg (by omega)]
          · simp only [gon_succ]
            rw [hpik, if_pos rfl]
            push_cast
            omega
        omega
      · have h1 : tot (fun j => conv (tot (c j)) (b j) t - b j (t - (u + 1))) m ≤ tot (fun j => min (gon P c m (u + 1) j : Int) (conv (tot (c j)) (b j) t)) m := by
          refine tot_le m fun j hj => ?_
          have h2 := conv_le (tot (c j)) (b j) t (u + 1) hu
          have h3 := hb0 j hj (t - (u + 1)) (by omega)
          have h4 := gon_mono (P := P) (c := c) (m := m) u (u + 1) j (by omega)
          by_cases hw : waitQ (hre c u) (gon P c m u) j = true
          · have h5 : ¬ ((gon P c m u j : Int) + 1 ≤ conv (tot (c j)) (b j) t) := fun h => by
              have := (prm_due (hcm j hj) ht).2 h
              rw [← hP j hj] at this
              exact hd ⟨j, hj, hw, this.1, this.2⟩
            omega
          · unfold waitQ hre at hw
            simp only [decide_eq_true_eq] at hw
            omega
        rw [tot_sub] at h1
        have h2 := hfit (t - (u + 1)) (by omega)
        omega
  have hk := key t (Nat.le_refl _)
  simp only [Nat.sub_self] at hk
  intro i hi
  have := tot_like m (fun j _ => by omega : ∀ j, j < m → min (gon P c m t j : Int) (conv (tot (c j)) (b j) t) ≤ conv (tot (c j)) (b j) t) (by omega) i hi
  omega
end Go.Proofs.YtnaooocmggnojaaDoor
