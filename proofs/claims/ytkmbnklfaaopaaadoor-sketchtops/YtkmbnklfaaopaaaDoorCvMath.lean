/-
  Curves in plain numbers: the least and the greatest of the first numbers, sums by the least (conv), what may come out (bhd), the longest wait (dlyV), what came (tot), the first thing that is wrong (fst0); and what holds of them: one behind the other whichever way, Cruz's bounds. No condition but those that each names.
-/
namespace Go.Proofs.YtkmbnklfaaopaaaDoor

/-- The least of g 0 and the first k. -/
def pm (g : Nat → Int) : Nat → Int
  | 0 => g 0
  | k + 1 => min (pm g k) (g k)
theorem pm_le (g : Nat → Int) : ∀ k i, i < k → pm g k ≤ g i := by
  intro k
  induction k with
  | zero => intro i hi; omega
  | succ k ih =>
    intro i hi
    simp only [pm]
    by_cases h : i < k
    · have := ih i h; omega
    · obtain rfl : i = k := by omega
      omega
theorem pm_ex (g : Nat → Int) : ∀ k, 0 < k → ∃ i, i < k ∧ pm g k = g i := by
  intro k
  induction k with
  | zero => intro h; omega
  | succ k ih =>
    intro _
    simp only [pm]
    by_cases hk : k = 0
    · subst hk; exact ⟨0, by omega, by simp [pm]⟩
    · obtain ⟨i, hi, he⟩ := ih (by omega)
      by_cases h : pm g k ≤ g k
      · exact ⟨i, by omega, by omega⟩
      · exact ⟨k, by omega, by omega⟩
/-- The greatest of 0 and the first k. -/
def px (g : Nat → Int) : Nat → Int
  | 0 => 0
  | k + 1 => max (px g k) (g k)
theorem px_nonneg (g : Nat → Int) : ∀ k, 0 ≤ px g k := by
  intro k
  induction k with
  | zero => simp [px]
  | succ k ih => simp only [px]; omega
theorem le_px (g : Nat → Int) : ∀ k i, i < k → g i ≤ px g k := by
  intro k
  induction k with
  | zero => intro i hi; omega
  | succ k ih =>
    intro i hi
    simp only [px]
    by_cases h : i < k
    · have := ih i h; omega
    · obtain rfl : i = k := by omega
      omega
theorem px_ex (g : Nat → Int) : ∀ k, px g k = 0 ∨ ∃ i, i < k ∧ px g k = g i := by
  intro k
  induction k with
  | zero => exact Or.inl rfl
  | succ k ih =>
    simp only [px]
    by_cases h : g k ≤ px g k
    · rcases ih with h0 | ⟨i, hi, he⟩
      · left; omega
      · right; exact ⟨i, by omega, by omega⟩
    · right; exact ⟨k, by omega, by omega⟩
theorem px_le (g : Nat → Int) (B : Int) (hB : 0 ≤ B) (k : Nat) (h : ∀ i, i < k → g i ≤ B) : px g k ≤ B := by
  rcases px_ex g k with h0 | ⟨i, hi, he⟩
  · omega
  · have := h i hi; omega

/-- One behind the other. -/
def conv (a b : Nat → Int) (t : Nat) : Int := pm (fun s => a s + b (t - s)) (t + 1)
theorem conv_le (a b : Nat → Int) (t s : Nat) (h : s ≤ t) : conv a b t ≤ a s + b (t - s) := pm_le (fun s => a s + b (t - s)) (t + 1) s (by omega)
theorem conv_ex (a b : Nat → Int) (t : Nat) : ∃ s, s ≤ t ∧ conv a b t = a s + b (t - s) := by
  obtain ⟨s, h1, h2⟩ := pm_ex (fun s => a s + b (t - s)) (t + 1) (by omega)
  exact ⟨s, by omega, h2⟩
theorem conv_comm (a b : Nat → Int) (t : Nat) : conv a b t = conv b a t := by
  have key : ∀ a b : Nat → Int, conv a b t ≤ conv b a t := by
    intro a b
    obtain ⟨s, h1, h2⟩ := conv_ex b a t
    have := conv_le a b t (t - s) (by omega)
    rw [show t - (t - s) = s by omega] at this
    omega
  have h1 := key a b
  have h2 := key b a
  omega
theorem conv_assoc (a b c : Nat → Int) (t : Nat) : conv (conv a b) c t = conv a (conv b c) t := by
  have h1 : conv (conv a b) c t ≤ conv a (conv b c) t := by
    obtain ⟨s, h1, h2⟩ := conv_ex a (conv b c) t
    obtain ⟨u, h3, h4⟩ := conv_ex b c (t - s)
    have h5 := conv_le (conv a b) c t (s + u) (by omega)
    have h6 := conv_le a b (s + u) s (by omega)
    rw [show s + u - s = u by omega] at h6
    rw [show t - (s + u) = t - s - u by omega] at h5
    omega
  have h2 : conv a (conv b c) t ≤ conv (conv a b) c t := by
    obtain ⟨s, h1, h2⟩ := conv_ex (conv a b) c t
    obtain ⟨u, h3, h4⟩ := conv_ex a b s
    have h5 := conv_le a (conv b c) t u (by omega)
    have h6 := conv_le b c (t - u) (s - u) (by omega)
    rw [show t - u - (s - u) = t - s by omega] at h6
    omega
  omega
theorem conv_min (a b c : Nat → Int) (t : Nat) : conv a (fun i => min (b i) (c i)) t = min (conv a b t) (conv a c t) := by
  have h1 : conv a (fun i => min (b i) (c i)) t ≤ conv a b t := by
    obtain ⟨s, h1, h2⟩ := conv_ex a b t
    have := conv_le a (fun i => min (b i) (c i)) t s h1
    omega
  have h2 : conv a (fun i => min (b i) (c i)) t ≤ conv a c t := by
    obtain ⟨s, h1, h2⟩ := conv_ex a c t
    have := conv_le a (fun i => min (b i) (c i)) t s h1
    omega
  obtain ⟨s, h3, h4⟩ := conv_ex a (fun i => min (b i) (c i)) t
  have h5 := conv_le a b t s h3
  have h6 := conv_le a c t s h3
  omega
/-- Where the numbers are the same as far as that goes, so is the one behind the other. -/
theorem conv_congr {a a' b b' : Nat → Int} {t : Nat} (ha : ∀ i, i ≤ t → a i = a' i) (hb : ∀ i, i ≤ t → b i = b' i) : conv a b t = conv a' b' t := by
  have key : ∀ a a' b b' : Nat → Int, (∀ i, i ≤ t → a i = a' i) → (∀ i, i ≤ t → b i = b' i) → conv a b t ≤ conv a' b' t := by
    intro a a' b b' ha hb
    obtain ⟨s, h1, h2⟩ := conv_ex a' b' t
    have h3 := conv_le a b t s h1
    rw [ha s h1, hb (t - s) (by omega)] at h3
    omega
  have h1 := key a a' b b' ha hb
  have h2 := key a' a b' b (fun i hi => (ha i hi).symm) (fun i hi => (hb i hi).symm)
  omega

/-- What is wrong first. -/
def fst0 (g : Nat → Int) : Nat → Int
  | 0 => 0
  | k + 1 => if fst0 g k = 0 then g k else fst0 g k
theorem fst0_stay {g : Nat → Int} {k : Nat} (h : fst0 g k ≠ 0) : ∀ n, k ≤ n → fst0 g n = fst0 g k := by
  intro n
  induction n with
  | zero => intro hk; obtain rfl : k = 0 := by omega
            rfl
  | succ n ih =>
    intro hk
    by_cases e : k = n + 1
    · subst e; rfl
    · have := ih (by omega)
      simp only [fst0]
      rw [this, if_neg h]
theorem fst0_zero {g : Nat → Int} : ∀ n, fst0 g n = 0 ↔ ∀ i, i < n → g i = 0 := by
  intro n
  induction n with
  | zero => simp [fst0]
  | succ n ih =>
    simp only [fst0]
    constructor
    · intro h i hi
      by_cases h0 : fst0 g n = 0
      · rw [if_pos h0] at h
        by_cases e : i = n
        · subst e; exact h
        · exact ih.1 h0 i (by omega)
      · rw [if_neg h0] at h; exact absurd h h0
    · intro h
      have h0 := ih.2 fun i hi => h i (by omega)
      rw [if_pos h0]
      exact h n (by omega)
theorem fst0_at {g : Nat → Int} {k n : Nat} (h : fst0 g k = 0) (hg : g k ≠ 0) (hk : k < n) : fst0 g n = g k := by
  have h1 : fst0 g (k + 1) = g k := by simp only [fst0]; rw [if_pos h]
  rw [fst0_stay (k := k + 1) (by rw [h1]; exact hg) n (by omega), h1]
theorem fst0_next {g : Nat → Int} {k : Nat} (h : fst0 g k = 0) (hg : g k = 0) : fst0 g (k + 1) = 0 := by simp only [fst0]; rw [if_pos h, hg]

/-- The number ahead. -/
def ahd (f : Nat → Int) : Nat → Int
  | 0 => 0
  | k + 1 => f k
/-- What is wrong with number i of a curve (0: nothing). -/
def cE (f : Nat → Int) (i : Nat) : Int := if f i < 0 ∨ 1000000000000 < f i then 2 else if f i < ahd f i then 10 else 0
/-- What is wrong with a curve. -/
def curveE (n : Nat) (f : Nat → Int) : Int := if n < 1 ∨ 201 < n then 4 else fst0 (cE f) n
theorem cE_zero {f : Nat → Int} {i : Nat} : cE f i = 0 ↔ 0 ≤ f i ∧ f i ≤ 1000000000000 ∧ ahd f i ≤ f i := by
  unfold cE
  constructor
  · intro h
    split at h
    · simp at h
    · split at h
      · simp at h
      · omega
  · intro h
    rw [if_neg (by omega), if_neg (by omega)]
/-- A curve that may be. -/
structure okC (n : Nat) (f : Nat → Int) : Prop where
  pos : 1 ≤ n
  len : n ≤ 201
  low : ∀ i, i < n → 0 ≤ f i
  top : ∀ i, i < n → f i ≤ 1000000000000
  up : ∀ i, i + 1 < n → f i ≤ f (i + 1)
theorem curveE_zero {n : Nat} {f : Nat → Int} : curveE n f = 0 ↔ okC n f := by
  unfold curveE
  constructor
  · intro h
    split at h
    · simp at h
    · have hz := (fst0_zero n).1 h
      refine ⟨by omega, by omega, fun i hi => (cE_zero.1 (hz i hi)).1, fun i hi => (cE_zero.1 (hz i hi)).2.1, fun i hi => ?_⟩
      exact (cE_zero.1 (hz (i + 1) hi)).2.2
  · intro h
    rw [if_neg (by have := h.pos; have := h.len; omega)]
    refine (fst0_zero n).2 fun i hi => cE_zero.2 ⟨h.low i hi, h.top i hi, ?_⟩
    cases i with
    | zero => exact h.low 0 hi
    | succ i => exact h.up i hi
theorem curveE_val (n : Nat) (f : Nat → Int) : curveE n f = 0 ∨ curveE n f = 2 ∨ curveE n f = 4 ∨ curveE n f = 10 := by
  have key : ∀ k, fst0 (cE f) k = 0 ∨ fst0 (cE f) k = 2 ∨ fst0 (cE f) k = 10 := by
    intro k
    induction k with
    | zero => exact Or.inl rfl
    | succ k ih =>
      simp only [fst0]
      split
      · unfold cE; repeat' split
        all_goals simp
      · exact ih
  unfold curveE
  split
  · simp
  · rcases key n with h | h | h <;> simp [h]
theorem okC.mono {n : Nat} {f : Nat → Int} (h : okC n f) : ∀ j i, i ≤ j → j < n → f i ≤ f j := by
  intro j
  induction j with
  | zero => intro i hi _; obtain rfl : i = 0 := by omega
            omega
  | succ j ih =>
    intro i hi hj
    by_cases e : i = j + 1
    · subst e; omega
    · have h1 := ih i (by omega) (by omega)
      have h2 := h.up j hj
      omega
theorem okC.take {n m : Nat} {f : Nat → Int} (h : okC n f) (h1 : 1 ≤ m) (h2 : m ≤ n) : okC m f :=
  ⟨h1, by have := h.len; omega, fun i hi => h.low i (by omega), fun i hi => h.top i (by omega), fun i hi => h.up i (by omega)⟩

/-- One behind the other never falls. -/
theorem conv_up {a b : Nat → Int} {t : Nat} (ha : a t ≤ a (t + 1)) (hb : ∀ i, i ≤ t → b i ≤ b (i + 1)) : conv a b t ≤ conv a b (t + 1) := by
  obtain ⟨s, h1, h2⟩ := conv_ex a b (t + 1)
  by_cases e : s = t + 1
  · subst e
    have := conv_le a b t t (Nat.le_refl _)
    simp only [Nat.sub_self] at this h2
    omega
  · have h3 := conv_le a b t s (by omega)
    have h4 := hb (t - s) (by omega)
    rw [show t - s + 1 = t + 1 - s by omega] at h4
    omega
theorem conv_low {a b : Nat → Int} {t : Nat} (ha : ∀ i, i ≤ t → 0 ≤ a i) (hb : ∀ i, i ≤ t → 0 ≤ b i) : 0 ≤ conv a b t := by
  obtain ⟨s, h1, h2⟩ := conv_ex a b t
  have := ha s h1
  have := hb (t - s) (by omega)
  omega
theorem conv_top {a b : Nat → Int} {t : Nat} {A B : Int} (ha : a 0 ≤ A) (hb : b t ≤ B) : conv a b t ≤ A + B := by
  have := conv_le a b t 0 (by omega)
  simp only [Nat.sub_zero] at this
  omega
theorem okC_conv {n m : Nat} {a b : Nat → Int} (ha : okC n a) (hb : okC m b) (hs : ∀ t, t < min n m → conv a b t ≤ 1000000000000) : okC (min n m) (conv a b) := by
  have := ha.pos
  have := hb.pos
  have := ha.len
  refine ⟨by omega, by omega, fun i hi => conv_low (fun j hj => ha.low j (by omega)) (fun j hj => hb.low j (by omega)), hs, fun i hi => conv_up (ha.up i (by omega)) (fun j hj => hb.up j (by omega))⟩
theorem okC_least {n m : Nat} {a b : Nat → Int} (ha : okC n a) (hb : okC m b) : okC (min n m) (fun i => min (a i) (b i)) := by
  have := ha.pos
  have := hb.pos
  have := ha.len
  refine ⟨by omega, by omega, fun i hi => ?_, fun i hi => ?_, fun i hi => ?_⟩
  · have := ha.low i (by omega); have := hb.low i (by omega); omega
  · have := ha.top i (by omega); omega
  · have := ha.up i (by omega); have := hb.up i (by omega); omega

/-- What may come out behind a service, of n ticks. -/
def bhd (n : Nat) (a b : Nat → Int) (t : Nat) : Int := px (fun s => a (t + s) - b s) (n - t)
theorem le_bhd {n : Nat} {a b : Nat → Int} {t s : Nat} (h : t + s < n) : a (t + s) - b s ≤ bhd n a b t := le_px (fun s => a (t + s) - b s) (n - t) s (by omega)
theorem okC_bhd {n m : Nat} {a b : Nat → Int} (ha : okC n a) (hb : okC m b) : okC ((min n m + 1) / 2) (bhd (min n m) a b) := by
  have h1 := ha.pos
  have h2 := hb.pos
  have h3 := ha.len
  refine ⟨by omega, by omega, fun i _ => px_nonneg _ _, fun i hi => px_le _ _ (by omega) _ fun s hs => ?_, fun i hi => ?_⟩
  · have := ha.top (i + s) (by omega); have := hb.low s (by omega); omega
  · refine px_le _ _ (px_nonneg _ _) _ fun s hs => ?_
    by_cases e : i + 1 + s < min n m
    · have h4 := le_bhd (a := a) (b := b) e
      have h5 := ha.up (i + s) (by omega)
      rw [show i + s + 1 = i + 1 + s by omega] at h5
      unfold bhd at h4
      omega
    · have h4 := le_bhd (n := min n m) (a := a) (b := b) (t := i + 1) (s := s - 1) (by omega)
      rw [show i + 1 + (s - 1) = i + s by omega] at h4
      have h5 := hb.up (s - 1) (by omega)
      rw [show s - 1 + 1 = s by omega] at h5
      unfold bhd at h4
      omega

/-- The first below n at which p holds; n: none. -/
def ff (p : Nat → Bool) : Nat → Nat
  | 0 => 0
  | n + 1 => if ff p n < n then ff p n else if p n then n else n + 1
theorem ff_le (p : Nat → Bool) : ∀ n, ff p n ≤ n := by
  intro n
  induction n with
  | zero => simp [ff]
  | succ n ih => simp only [ff]; repeat' split
                 all_goals omega
theorem ff_not (p : Nat → Bool) : ∀ n j, j < ff p n → p j = false := by
  intro n
  induction n with
  | zero => intro j hj; simp [ff] at hj
  | succ n ih =>
    intro j hj
    simp only [ff] at hj
    split at hj
    · exact ih j hj
    · have := ff_le p n
      split at hj
      · exact ih j (by omega)
      · rename_i h1 h2
        by_cases e : j = n
        · subst e; simpa using h2
        · exact ih j (by omega)
theorem ff_yes (p : Nat → Bool) : ∀ n, ff p n < n → p (ff p n) = true := by
  intro n
  induction n with
  | zero => intro h; omega
  | succ n ih =>
    intro h
    simp only [ff] at h ⊢
    split
    · exact ih (by assumption)
    · split
      · assumption
      · rw [if_neg (by assumption), if_neg (by assumption)] at h; omega
theorem ff_eq {p : Nat → Bool} {n i : Nat} (h : i < n) (hi : p i = true) (hj : ∀ j, j < i → p j = false) : ff p n = i := by
  have h1 := ff_le p n
  rcases Nat.lt_trichotomy (ff p n) i with h2 | h2 | h2
  · have := ff_yes p n (by omega)
    rw [hj _ h2] at this
    cases this
  · exact h2
  · have := ff_not p n i h2
    rw [hi] at this
    cases this
theorem ff_none {p : Nat → Bool} {n : Nat} (h : ∀ j, j < n → p j = false) : ff p n = n := by
  have h1 := ff_le p n
  by_cases e : ff p n < n
  · have := ff_yes p n e
    rw [h _ e] at this
    cases this
  · omega

/-- How long what comes within t ticks waits at most; so many as b has left: for ever. -/
def dly (a : Nat → Int) (m : Nat) (b : Nat → Int) (t : Nat) : Nat := ff (fun i => decide (a t ≤ b (t + i))) (m - t)
/-- Whether all is served. -/
def dlyOk (n : Nat) (a : Nat → Int) (m : Nat) (b : Nat → Int) : Prop := ∀ t, t < n → dly a m b t < m - t
def dlyV (n : Nat) (a : Nat → Int) (m : Nat) (b : Nat → Int) : Int := px (fun t => (dly a m b t : Int)) n
theorem dly_at {n m : Nat} {a b : Nat → Int} (h : dlyOk n a m b) {t : Nat} (ht : t < n) : t + dly a m b t < m ∧ a t ≤ b (t + dly a m b t) ∧ (dly a m b t : Int) ≤ dlyV n a m b := by
  have h1 := h t ht
  refine ⟨by omega, ?_, le_px (fun t => (dly a m b t : Int)) n t ht⟩
  have := ff_yes _ _ h1
  simp only [decide_eq_true_eq] at this
  exact this
theorem dly_min {m : Nat} {a b : Nat → Int} {t d : Nat} (_ : t + d < m) (hd : a t ≤ b (t + d)) : dly a m b t ≤ d := by
  rcases Nat.lt_or_ge d (dly a m b t) with h1 | h1
  · have := ff_not _ _ d h1
    simp at this
    omega
  · exact h1

/-- All that came ahead of a tick. -/
def tot (c : Nat → Int) : Nat → Int
  | 0 => 0
  | k + 1 => tot c k + c k
theorem tot_mono {c : Nat → Int} {n : Nat} (h : ∀ i, i < n → 0 ≤ c i) : ∀ j i, i ≤ j → j ≤ n → tot c i ≤ tot c j := by
  intro j
  induction j with
  | zero => intro i hi _; obtain rfl : i = 0 := by omega
            omega
  | succ j ih =>
    intro i hi hj
    by_cases e : i = j + 1
    · subst e; omega
    · have h1 := ih i (by omega) (by omega)
      have h2 := h j (by omega)
      simp only [tot]
      omega
theorem tot_bd {c : Nat → Int} {n : Nat} {B : Int} (h : ∀ i, i < n → 0 ≤ c i ∧ c i ≤ B) : ∀ k : Nat, k ≤ n → 0 ≤ tot c k ∧ tot c k ≤ k * B := by
  intro k
  induction k with
  | zero => intro _; simp [tot]
  | succ k ih =>
    intro hk
    have h1 := ih (by omega)
    have h2 := h k (by omega)
    simp only [tot]
    have e : ((k + 1 : Nat) : Int) * B = k * B + B := by rw [Int.natCast_add, Int.add_mul]; simp
    rw [e]
    omega
theorem tot_congr {c c' : Nat → Int} : ∀ k, (∀ i, i < k → c i = c' i) → tot c k = tot c' k := by
  intro k
  induction k with
  | zero => intro _; rfl
  | succ k ih => intro h; simp only [tot]; rw [ih fun i hi => h i (by omega), h k (by omega)]
theorem tot_shift (c : Nat → Int) (s : Nat) : ∀ k, tot (fun i => c (s + i)) k = tot c (s + k) - tot c s := by
  intro k
  induction k with
  | zero => simp [tot]
  | succ k ih => simp only [tot, ih]; show _ = tot c (s + k) + c (s + k) - tot c s; omega

/-- What is wrong with a row from s on, t ticks later: 2: what comes may not be; 1: too much. -/
def rwE (c a : Nat → Int) (s t : Nat) : Int := if c (s + t) < 0 ∨ 1000000 < c (s + t) then 2 else if a (t + 1) < tot (fun i => c (s + i)) (t + 1) then 1 else 0
def fitsE (n : Nat) (c a : Nat → Int) : Int := fst0 (fun s => fst0 (rwE c a s) (n - s)) n
/-- What comes keeps to a curve. -/
def Fit (n : Nat) (c a : Nat → Int) : Prop := (∀ i, i < n → 0 ≤ c i ∧ c i ≤ 1000000) ∧ ∀ s t, s < t → t ≤ n → tot c t - tot c s ≤ a (t - s)
theorem rwE_zero {c a : Nat → Int} {s t : Nat} : rwE c a s t = 0 ↔ (0 ≤ c (s + t) ∧ c (s + t) ≤ 1000000) ∧ tot c (s + t + 1) - tot c s ≤ a (t + 1) := by
  unfold rwE
  rw [tot_shift]
  constructor
  · intro h
    split at h
    · simp at h
    · split at h
      · simp at h
      · refine ⟨by omega, ?_⟩
        rw [show s + t + 1 = s + (t + 1) by omega]
        omega
  · rintro ⟨h1, h2⟩
    rw [show s + t + 1 = s + (t + 1) by omega] at h2
    rw [if_neg (by omega), if_neg (by omega)]
theorem fitsE_zero {n : Nat} {c a : Nat → Int} : fitsE n c a = 0 ↔ Fit n c a := by
  unfold fitsE
  rw [fst0_zero]
  constructor
  · intro h
    refine ⟨fun i hi => ?_, fun s t hs ht => ?_⟩
    · have h1 := (fst0_zero _).1 (h 0 (by omega)) i (by omega)
      have h2 := (rwE_zero.1 h1).1
      rwa [Nat.zero_add] at h2
    · have h1 := (fst0_zero _).1 (h s (by omega)) (t - s - 1) (by omega)
      have h2 := (rwE_zero.1 h1).2
      rw [show s + (t - s - 1) + 1 = t by omega, show t - s - 1 + 1 = t - s by omega] at h2
      exact h2
  · rintro ⟨h1, h2⟩ s hs
    refine (fst0_zero _).2 fun t ht => rwE_zero.2 ⟨h1 _ (by omega), ?_⟩
    have h3 := h2 s (s + t + 1) (by omega) (by omega)
    rwa [show s + t + 1 - s = t + 1 by omega] at h3
theorem fitsE_val (n : Nat) (c a : Nat → Int) : fitsE n c a = 0 ∨ fitsE n c a = 1 ∨ fitsE n c a = 2 := by
  have k1 : ∀ s k, fst0 (rwE c a s) k = 0 ∨ fst0 (rwE c a s) k = 1 ∨ fst0 (rwE c a s) k = 2 := by
    intro s k
    induction k with
    | zero => exact Or.inl rfl
    | succ k ih =>
      simp only [fst0]
      split
      · unfold rwE; repeat' split
        all_goals simp
      · exact ih
  have k2 : ∀ k, fst0 (fun s => fst0 (rwE c a s) (n - s)) k = 0 ∨ fst0 (fun s => fst0 (rwE c a s) (n - s)) k = 1 ∨ fst0 (fun s => fst0 (rwE c a s) (n - s)) k = 2 := by
    intro k
    induction k with
    | zero => exact Or.inl rfl
    | succ k ih =>
      simp only [fst0]
      split
      · exact k1 _ _
      · exact ih
  exact k2 n

/-! Cruz -/
/-- What keeps to a curve, and nothing more. -/
theorem Fit.snoc_zero {n : Nat} {c a : Nat → Int} {N : Nat} (h : Fit n c a) (ha : okC N a) (hN : n + 1 < N) (h0 : c n = 0) : Fit (n + 1) c a := by
  refine ⟨fun i hi => ?_, fun s t hs ht => ?_⟩
  · by_cases e : i = n
    · subst e; omega
    · exact h.1 i (by omega)
  · by_cases e : t = n + 1
    · subst e
      simp only [tot, h0]
      by_cases e2 : s = n
      · subst e2
        have := ha.low (s + 1 - s) (by omega)
        omega
      · have h1 := h.2 s n (by omega) (Nat.le_refl _)
        have h2 := ha.mono (n + 1 - s) (n - s) (by omega) (by omega)
        omega
    · exact h.2 s t hs (by omega)
theorem Fit.take {n m : Nat} {c a : Nat → Int} (h : Fit n c a) (hm : m ≤ n) : Fit m c a := ⟨fun i hi => h.1 i (by omega), fun s t hs ht => h.2 s t hs (by omega)⟩
theorem Fit.congr {n : Nat} {c c' a : Nat → Int} (h : Fit n c a) (he : ∀ i, i < n → c i = c' i) : Fit n c' a := by
  refine ⟨fun i hi => by rw [← he i hi]; exact h.1 i hi, fun s t hs ht => ?_⟩
  rw [← tot_congr t fun i hi => he i (by omega), ← tot_congr s fun i hi => he i (by omega)]
  exact h.2 s t hs ht
theorem cruz_served {x b : Nat → Int} (hb : b 0 = 0) (t : Nat) : conv (tot x) b t ≤ tot x t := by
  have := conv_le (tot x) b t t (Nat.le_refl _)
  rw [Nat.sub_self, hb] at this
  omega
theorem cruz_backlog {n N M : Nat} {x a b : Nat → Int} (h : Fit n x a) (hb0 : b 0 = 0) (hn : n < N) (hm : n < M) {t : Nat} (ht : t ≤ n) : tot x t - conv (tot x) b t ≤ px (fun t => a t - b t) (min N M) := by
  obtain ⟨s, h1, h2⟩ := conv_ex (tot x) b t
  have h3 := le_px (fun t => a t - b t) (min N M) (t - s) (by omega)
  by_cases e : s = t
  · subst e
    rw [Nat.sub_self, hb0] at h2
    have := px_nonneg (fun t => a t - b t) (min N M)
    omega
  · have := h.2 s t (by omega) ht
    omega
theorem cruz_out {n N M : Nat} {x a b : Nat → Int} (h : Fit n x a) (ha0 : a 0 = 0) (hb0 : b 0 = 0) (hn : n < N) (hm : n < M) {s t : Nat} (hs : s ≤ t) (ht : t ≤ n) : conv (tot x) b t - conv (tot x) b s ≤ bhd (min N M) a b (t - s) := by
  obtain ⟨u, h1, h2⟩ := conv_ex (tot x) b s
  have h3 := cruz_served (x := x) hb0 t
  have h4 := le_bhd (n := min N M) (a := a) (b := b) (t := t - s) (s := s - u) (by omega)
  rw [show t - s + (s - u) = t - u by omega] at h4
  by_cases e : u = t
  · subst e
    have e2 : s = u := by omega
    subst e2
    rw [Nat.sub_self, ha0, hb0] at h4
    rw [Nat.sub_self, hb0] at h2
    rw [Nat.sub_self]
    omega
  · have := h.2 u t (by omega) ht
    omega
theorem cruz_wait {n N M : Nat} {x a b : Nat → Int} (h : Fit n x a) (hb : okC M b) (hn : n < N) (hm : n < M) (hd : dlyOk N a M b) {t d : Nat} (hw : dlyV N a M b ≤ d) (ht : t + d ≤ n) : tot x t ≤ conv (tot x) b (t + d) := by
  obtain ⟨s, h1, h2⟩ := conv_ex (tot x) b (t + d)
  by_cases e : t ≤ s
  · have h3 := tot_mono (fun i hi => (h.1 i hi).1) s t e (by omega)
    have h4 := hb.low (t + d - s) (by omega)
    omega
  · have h3 := h.2 s t (by omega) (by omega)
    obtain ⟨k1, k2, k3⟩ := dly_at hd (t := t - s) (by omega)
    have h4 := hb.mono (t + d - s) (t - s + dly a M b (t - s)) (by omega) (by omega)
    omega
/-- Pay for a burst once. -/
theorem once {N M K n : Nat} {a b c : Nat → Int} (hb : okC M b) (hc : okC K c) (hx : dlyOk N a M b) (hy : dlyOk ((min N M + 1) / 2) (bhd (min N M) a b) K c) (hn : n ≤ N) (hn2 : n ≤ (min N M + 1) / 2) (hz : dlyOk n a (min M K) (conv b c)) :
    dlyV n a (min M K) (conv b c) ≤ dlyV N a M b + dlyV ((min N M + 1) / 2) (bhd (min N M) a b) K c := by
  obtain ⟨x, hxe⟩ : ∃ x : Nat, dlyV N a M b = x := ⟨(dlyV N a M b).toNat, by have := px_nonneg (fun t => (dly a M b t : Int)) N; unfold dlyV; omega⟩
  obtain ⟨y, hye⟩ : ∃ y : Nat, dlyV ((min N M + 1) / 2) (bhd (min N M) a b) K c = y := ⟨(dlyV ((min N M + 1) / 2) (bhd (min N M) a b) K c).toNat, by have := px_nonneg (fun t => (dly (bhd (min N M) a b) K c t : Int)) ((min N M + 1) / 2); unfold dlyV; omega⟩
  rw [hxe, hye]
  refine px_le _ _ (by omega) _ fun t ht => ?_
  have hzt := hz t ht
  by_cases hlt : t + (x + y) < min M K
  · have key : a t ≤ conv b c (t + (x + y)) := by
      obtain ⟨s, h1, h2⟩ := conv_ex b c (t + (x + y))
      obtain ⟨p1, p2, p3⟩ := dly_at hx (t := t) (by omega)
      rw [hxe] at p3
      by_cases e1 : t + x ≤ s
      · have h3 := hb.mono s (t + dly a M b t) (by omega) (by omega)
        have h4 := hc.low (t + (x + y) - s) (by omega)
        omega
      · by_cases e2 : s ≤ t
        · have h3 := le_bhd (n := min N M) (a := a) (b := b) (t := t - s) (s := s) (by omega)
          rw [show t - s + s = t by omega] at h3
          obtain ⟨q1, q2, q3⟩ := dly_at hy (t := t - s) (by omega)
          rw [hye] at q3
          have h4 := hc.mono (t + (x + y) - s) (t - s + dly (bhd (min N M) a b) K c (t - s)) (by omega) (by omega)
          omega
        · have h3 := le_bhd (n := min N M) (a := a) (b := b) (t := 0) (s := t) (by omega)
          rw [show 0 + t = t by omega] at h3
          obtain ⟨q1, q2, q3⟩ := dly_at hy (t := 0) (by omega)
          rw [hye] at q3
          have h4 := hc.mono (t + (x + y) - s) (0 + dly (bhd (min N M) a b) K c 0) (by omega) (by omega)
          have h5 := hb.mono s t (by omega) (by omega)
          omega
    have := dly_min (m := min M K) (a := a) (b := conv b c) (t := t) (d := x + y) hlt key
    omega
  · omega
/-- What goes between ticks. -/
def gone (f : Nat → Int) (n : Nat) (t : Nat) : Int := if t + 1 < n then f (t + 1) - f t else 0
theorem tot_gone {f : Nat → Int} {n : Nat} (h0 : f 0 = 0) : ∀ k, k < n → tot (gone f n) k = f k := by
  intro k
  induction k with
  | zero => intro _; simp [tot, h0]
  | succ k ih =>
    intro hk
    simp only [tot]
    rw [ih (by omega), gone, if_pos hk]
    omega
/-- Served twice is served by both. -/
theorem twice {n : Nat} {x b c : Nat → Int} (hb0 : b 0 = 0) {t : Nat} (ht : t < n) : conv (tot (gone (conv (tot x) b) n)) c t = conv (tot x) (conv b c) t := by
  have h0 : conv (tot x) b 0 = 0 := by simp [conv, pm, tot, hb0]
  rw [← conv_assoc]
  exact conv_congr (fun i hi => tot_gone h0 i (by omega)) (fun _ _ => rfl)
end Go.Proofs.YtkmbnklfaaopaaaDoor
