/-
  The plan as the document's own answer makes it, cell by cell, as mathematics: cells in the order of their flows; the first one of a flow that waits; the best of these; and that it is the plan of ScM. Nothing of the program is claimed here by itself.
-/
import Derived.Test.YtnaooocmggnojaaDoorScM
namespace Go.Proofs.YtnaooocmggnojaaDoor

/-- M cells: flow fi, number ki within it. -/
structure CelOk (m M : Nat) (K : Nat → Nat) (fi ki : Nat → Nat) : Prop where
  lt : ∀ q, q < M → fi q < m ∧ ki q < K (fi q)
  ord : ∀ q r, q < r → r < M → fi q < fi r ∨ (fi q = fi r ∧ ki q < ki r)
  all : ∀ i, i < m → ∀ k, k < K i → ∃ q, q < M ∧ fi q = i ∧ ki q = k
/-- A cell is the first one of its flow that waits. -/
def fstB (P c : Nat → Nat → Int) (m t : Nat) (fi ki : Nat → Nat) (q : Nat) : Bool := decide (ki q = gon P c m t (fi q)) && decide ((ki q : Int) < tot (c (fi q)) (t + 1))
variable {P c : Nat → Nat → Int} {m M T t : Nat} {K fi ki : Nat → Nat}
theorem fst_iff (h : CelOk m M K fi ki) {q : Nat} (hq : q < M) :
    (((ki q : Int) < tot (c (fi q)) (t + 1) ∧ thr P c m t (fi q) (ki q) < 0) ∧ ∀ r, r < q → fi r = fi q → 0 ≤ thr P c m t (fi r) (ki r)) ↔ fstB P c m t fi ki q = true := by
  have hlt := h.lt q hq
  unfold fstB
  simp only [Bool.and_eq_true, decide_eq_true_eq]
  constructor
  · rintro ⟨⟨h1, h2⟩, h3⟩
    refine ⟨?_, h1⟩
    have hge : gon P c m t (fi q) ≤ ki q := by
      apply Classical.byContradiction
      intro hn
      obtain ⟨s, _, h4, _⟩ := thr_at (P := P) (c := c) (m := m) t (fi q) (ki q) (by omega)
      omega
    apply Classical.byContradiction
    intro hne
    obtain ⟨r, hr, e1, e2⟩ := h.all (fi q) hlt.1 (gon P c m t (fi q)) (by omega)
    have hrq : r < q := by
      apply Classical.byContradiction
      intro hn
      by_cases e : r = q
      · subst e; omega
      · rcases h.ord q r (by omega) hr with h5 | h5 <;> omega
    have h5 := h3 r hrq e1
    rw [e1, e2, thr_late (P := P) (c := c) (m := m) t (fi q) _ (Nat.le_refl _)] at h5
    omega
  · rintro ⟨h1, h2⟩
    refine ⟨⟨h2, ?_⟩, fun r hr e => ?_⟩
    · rw [h1, thr_late (P := P) (c := c) (m := m) t (fi q) _ (Nat.le_refl _)]; omega
    · have h5 := h.ord r q hr hq
      have h6 : ki r < gon P c m t (fi r) := by rw [e, ← h1]; omega
      obtain ⟨s, _, h4, _⟩ := thr_at (P := P) (c := c) (m := m) t (fi r) (ki r) h6
      omega
/-- How soon a flow's first cell is promised (none: behind all). -/
def keyF (P : Nat → Nat → Int) (T : Nat) (i k : Nat) : Int := if P i k < 0 then (T : Int) + 1 else P i k
theorem ahead_key {g : Nat → Nat} (hP : ∀ i k, P i k ≤ T) (i j : Nat) : aheadQ P g i j = decide (keyF P T i (g i) < keyF P T j (g j)) := by
  have h1 := hP i (g i)
  have h2 := hP j (g j)
  unfold aheadQ keyF
  by_cases a : P i (g i) < 0
  · rw [if_pos a, decide_eq_false (by omega), Bool.false_and]
    split <;> (symm; apply decide_eq_false; omega)
  · rw [if_neg a, decide_eq_true (by omega : 0 ≤ P i (g i)), Bool.true_and]
    by_cases b : P j (g j) < 0
    · rw [if_pos b, decide_eq_true b, Bool.true_or]; symm; apply decide_eq_true; omega
    · rw [if_neg b, decide_eq_false b, Bool.false_or]
theorem bst_char {h : Nat → Int} {g : Nat → Nat} (hP : ∀ i k, P i k ≤ T) : ∀ k, (bst P h g k = -1 ∧ ∀ j, j < k → waitQ h g j = false) ∨ ∃ i, i < k ∧ bst P h g k = i ∧ waitQ h g i = true ∧ ∀ j, j < k → waitQ h g j = true → keyF P T i (g i) < keyF P T j (g j) ∨ (keyF P T i (g i) = keyF P T j (g j) ∧ i ≤ j) := by
  intro k
  induction k with
  | zero => exact Or.inl ⟨rfl, fun j hj => by omega⟩
  | succ k ih =>
    simp only [bst]
    rcases ih with ⟨e, hn⟩ | ⟨i, hi, e, hw, hb⟩
    · rw [e]
      cases hk : waitQ h g k with
      | true =>
        right
        refine ⟨k, by omega, by simp, hk, fun j hj hwj => ?_⟩
        by_cases ej : j = k
        · subst ej; exact Or.inr ⟨rfl, Nat.le_refl _⟩
        · rw [hn j (by omega)] at hwj; cases hwj
      | false =>
        left
        refine ⟨by simp, fun j hj => ?_⟩
        by_cases ej : j = k
        · subst ej; exact hk
        · exact hn j (by omega)
    · rw [e]
      right
      cases hk : waitQ h g k with
      | true =>
        rw [Int.toNat_natCast, ahead_key hP, decide_eq_false (show ¬ ((i : Int) < 0) by omega)]
        by_cases hlt : keyF P T k (g k) < keyF P T i (g i)
        · refine ⟨k, by omega, by simp [hlt], hk, fun j hj hwj => ?_⟩
          by_cases ej : j = k
          · subst ej; exact Or.inr ⟨rfl, Nat.le_refl _⟩
          · rcases hb j (by omega) hwj with h1 | h1 <;> (left; omega)
        · refine ⟨i, by omega, by simp [hlt], hw, fun j hj hwj => ?_⟩
          by_cases ej : j = k
          · subst ej
            by_cases h2 : keyF P T i (g i) = keyF P T j (g j)
            · exact Or.inr ⟨h2, by omega⟩
            · left; omega
          · exact hb j (by omega) hwj
      | false =>
        refine ⟨i, by omega, by simp, hw, fun j hj hwj => ?_⟩
        by_cases ej : j = k
        · subst ej; rw [hk] at hwj; cases hwj
        · exact hb j (by omega) hwj
/-- The best of the first q cells, or -1. -/
def scq (P c : Nat → Nat → Int) (m T t : Nat) (fi ki : Nat → Nat) : Nat → Int
  | 0 => -1
  | q + 1 => if (fstB P c m t fi ki q && (decide (scq P c m T t fi ki q < 0) || decide (keyF P T (fi q) (ki q) < keyF P T (fi (scq P c m T t fi ki q).toNat) (ki (scq P c m T t fi ki q).toNat)))) = true then (q : Int) else scq P c m T t fi ki q
theorem scq_char : ∀ q, (scq P c m T t fi ki q = -1 ∧ ∀ r, r < q → fstB P c m t fi ki r = false) ∨ ∃ r, r < q ∧ scq P c m T t fi ki q = r ∧ fstB P c m t fi ki r = true ∧ ∀ s, s < q → fstB P c m t fi ki s = true → keyF P T (fi r) (ki r) < keyF P T (fi s) (ki s) ∨ (keyF P T (fi r) (ki r) = keyF P T (fi s) (ki s) ∧ r ≤ s) := by
  intro q
  induction q with
  | zero => exact Or.inl ⟨rfl, fun j hj => by omega⟩
  | succ q ih =>
    simp only [scq]
    rcases ih with ⟨e, hn⟩ | ⟨i, hi, e, hw, hb⟩
    · rw [e]
      cases hk : fstB P c m t fi ki q with
      | true =>
        right
        refine ⟨q, by omega, by simp, hk, fun j hj hwj => ?_⟩
        by_cases ej : j = q
        · subst ej; exact Or.inr ⟨rfl, Nat.le_refl _⟩
        · rw [hn j (by omega)] at hwj; cases hwj
      | false =>
        left
        refine ⟨by simp, fun j hj => ?_⟩
        by_cases ej : j = q
        · subst ej; exact hk
        · exact hn j (by omega)
    · rw [e]
      right
      cases hk : fstB P c m t fi ki q with
      | true =>
        rw [Int.toNat_natCast, decide_eq_false (show ¬ ((i : Int) < 0) by omega)]
        by_cases hlt : keyF P T (fi q) (ki q) < keyF P T (fi i) (ki i)
        · refine ⟨q, by omega, by simp [hlt], hk, fun j hj hwj => ?_⟩
          by_cases ej : j = q
          · subst ej; exact Or.inr ⟨rfl, Nat.le_refl _⟩
          · rcases hb j (by omega) hwj with h1 | h1 <;> (left; omega)
        · refine ⟨i, by omega, by simp [hlt], hw, fun j hj hwj => ?_⟩
          by_cases ej : j = q
          · subst ej
            by_cases h2 : keyF P T (fi i) (ki i) = keyF P T (fi j) (ki j)
            · exact Or.inr ⟨h2, by omega⟩
            · left; omega
          · exact hb j (by omega) hwj
      | false =>
        refine ⟨i, by omega, by simp, hw, fun j hj hwj => ?_⟩
        by_cases ej : j = q
        · subst ej; rw [hk] at hwj; cases hwj
        · exact hb j (by omega) hwj
/-- It is whose cell goes. -/
theorem scq_pik (h : CelOk m M K fi ki) (hP : ∀ i k, P i k ≤ T) (hK : ∀ i, i < m → tot (c i) (t + 1) ≤ K i) :
    (scq P c m T t fi ki M = -1 ∧ pik P c m t = -1) ∨ ∃ q, q < M ∧ scq P c m T t fi ki M = q ∧ pik P c m t = fi q ∧ ki q = gon P c m t (fi q) := by
  have hex : ∀ i, i < m → waitQ (hre c t) (gon P c m t) i = true → ∃ q, q < M ∧ fi q = i ∧ ki q = gon P c m t i ∧ fstB P c m t fi ki q = true := fun i hi hw => by
    unfold waitQ hre at hw
    simp only [decide_eq_true_eq] at hw
    have := hK i hi
    obtain ⟨q, hq, e1, e2⟩ := h.all i hi (gon P c m t i) (by omega)
    refine ⟨q, hq, e1, e2, ?_⟩
    unfold fstB
    rw [e1, e2]
    simp only [Bool.and_eq_true, decide_eq_true_eq]
    exact ⟨trivial, hw⟩
  have hfw : ∀ q, fstB P c m t fi ki q = true → ki q = gon P c m t (fi q) ∧ waitQ (hre c t) (gon P c m t) (fi q) = true := fun q hf => by
    unfold fstB at hf
    simp only [Bool.and_eq_true, decide_eq_true_eq] at hf
    refine ⟨hf.1, ?_⟩
    unfold waitQ hre
    rw [← hf.1]
    simpa using hf.2
  rcases scq_char (P := P) (c := c) (m := m) (T := T) (t := t) (fi := fi) (ki := ki) M with ⟨e, hn⟩ | ⟨q, hq, e, hf, hb⟩
  · left
    refine ⟨e, ?_⟩
    rcases bst_char (h := hre c t) (g := gon P c m t) hP m with ⟨e', _⟩ | ⟨i, hi, _, hw, _⟩
    · exact e'
    · obtain ⟨q, hq, _, _, hf⟩ := hex i hi hw
      rw [hn q hq] at hf; cases hf
  · right
    obtain ⟨k1, k2⟩ := hfw q hf
    refine ⟨q, hq, e, ?_, k1⟩
    rcases bst_char (h := hre c t) (g := gon P c m t) hP m with ⟨_, hn⟩ | ⟨i, hi, e', hw, hbi⟩
    · rw [hn (fi q) (h.lt q hq).1] at k2; cases k2
    · obtain ⟨r, hr, r1, r2, rf⟩ := hex i hi hw
      have h1 := hb r hr rf
      have h2 := hbi (fi q) (h.lt q hq).1 k2
      rw [r1, r2, k1] at h1
      have hpk : pik P c m t = i := e'
      rw [hpk]
      have h3 : q = r ∨ q < r ∨ r < q := by omega
      rcases h3 with h3 | h3 | h3
      · rw [h3, r1]
      · have := h.ord q r h3 hr; rw [r1] at this; omega
      · have := h.ord r q h3 hq; rw [r1] at this; omega
/-- How many of a flow are among the first q cells. -/
def cnq (fi : Nat → Nat) : Nat → Nat → Nat
  | 0 => fun _ => 0
  | q + 1 => fun i => if fi q = i then cnq fi q i + 1 else cnq fi q i
theorem cnq_inv (h : CelOk m M K fi ki) : ∀ q, q ≤ M → (∀ i k, k < cnq fi q i → ∃ r, r < q ∧ fi r = i ∧ ki r = k) ∧ (∀ r, r < q → ki r < cnq fi q (fi r)) ∧ (q < M → ki q = cnq fi q (fi q)) := by
  intro q
  have key : ∀ q, q < M → (∀ i k, k < cnq fi q i → ∃ r, r < q ∧ fi r = i ∧ ki r = k) → (∀ r, r < q → ki r < cnq fi q (fi r)) → ki q = cnq fi q (fi q) := by
    intro q hq h1 h2
    have hlt := h.lt q hq
    have a1 : cnq fi q (fi q) ≤ ki q := by
      apply Classical.byContradiction
      intro hn
      obtain ⟨r, hr, e1, e2⟩ := h1 (fi q) (ki q) (by omega)
      have := h.ord r q hr hq
      omega
    apply Classical.byContradiction
    intro hne
    obtain ⟨r, hr, e1, e2⟩ := h.all (fi q) hlt.1 (cnq fi q (fi q)) (by omega)
    by_cases hrq : r < q
    · have := h2 r hrq; rw [e1] at this; omega
    · by_cases e : r = q
      · subst e; omega
      · have := h.ord q r (by omega) hr; omega
  induction q with
  | zero =>
    intro _
    have h1 : ∀ i k, k < cnq fi 0 i → ∃ r, r < 0 ∧ fi r = i ∧ ki r = k := fun i k hk => by simp [cnq] at hk
    have h2 : ∀ r, r < 0 → ki r < cnq fi 0 (fi r) := fun r hr => by omega
    exact ⟨h1, h2, fun hq => key 0 hq h1 h2⟩
  | succ q ih =>
    intro hq
    obtain ⟨h1, h2, h3⟩ := ih (by omega)
    have h3 := h3 (by omega)
    have h1' : ∀ i k, k < cnq fi (q + 1) i → ∃ r, r < q + 1 ∧ fi r = i ∧ ki r = k := fun i k hk => by
      simp only [cnq] at hk
      split at hk
      · rename_i e
        by_cases ek : k = cnq fi q i
        · exact ⟨q, by omega, e, by rw [h3, e, ek]⟩
        · obtain ⟨r, hr, rest⟩ := h1 i k (by omega)
          exact ⟨r, by omega, rest⟩
      · obtain ⟨r, hr, rest⟩ := h1 i k hk
        exact ⟨r, by omega, rest⟩
    have h2' : ∀ r, r < q + 1 → ki r < cnq fi (q + 1) (fi r) := fun r hr => by
      simp only [cnq]
      by_cases e : r = q
      · subst e; rw [if_pos rfl]; omega
      · have := h2 r (by omega)
        split <;> omega
    exact ⟨h1', h2', fun hq => key (q + 1) hq h1' h2'⟩
theorem cnq_all (h : CelOk m M K fi ki) {i : Nat} (hi : i < m) : cnq fi M i = K i := by
  obtain ⟨h1, h2, _⟩ := cnq_inv h M (Nat.le_refl _)
  have a1 : K i ≤ cnq fi M i := by
    apply Classical.byContradiction
    intro hn
    obtain ⟨q, hq, e1, e2⟩ := h.all i hi (cnq fi M i) (by omega)
    have := h2 q hq
    rw [e1] at this
    omega
  apply Classical.byContradiction
  intro hn
  obtain ⟨r, hr, e1, e2⟩ := h1 i (K i) (by omega)
  have := (h.lt r hr).2
  rw [e1] at this
  omega
/-! ### How the cells are made -/
def updN (f : Nat → Nat) (a b : Nat) : Nat → Nat := fun x => if x = a then b else f x
theorem updN_same (f : Nat → Nat) (a b : Nat) : updN f a b a = b := by simp [updN]
theorem updN_ne {f : Nat → Nat} {a b x : Nat} (h : x ≠ a) : updN f a b x = f x := by simp [updN, h]
/-- One cell more, of the last flow. -/
theorem CelOk.snoc {i k : Nat} (h : CelOk (i + 1) M (updN K i k) fi ki) : CelOk (i + 1) (M + 1) (updN K i (k + 1)) (updN fi M i) (updN ki M k) := by
  have hk : ∀ q, q < M → ki q < updN K i (k + 1) (fi q) := fun q hq => by
    have := (h.lt q hq).2
    by_cases e : fi q = i
    · rw [e, updN_same] at this; rw [e, updN_same]; omega
    · rw [updN_ne e] at this; rw [updN_ne e]; exact this
  refine ⟨fun q hq => ?_, fun q r hqr hr => ?_, fun j hj l hl => ?_⟩
  · by_cases e : q = M
    · subst e; rw [updN_same, updN_same, updN_same]; omega
    · rw [updN_ne e, updN_ne e]; exact ⟨(h.lt q (by omega)).1, hk q (by omega)⟩
  · by_cases e : r = M
    · subst e
      rw [updN_same, updN_same, updN_ne (by omega), updN_ne (by omega)]
      have h1 := h.lt q hqr
      by_cases e2 : fi q = i
      · have := h1.2; rw [e2, updN_same] at this; exact Or.inr ⟨e2, this⟩
      · left; omega
    · rw [updN_ne e, updN_ne e, updN_ne (by omega), updN_ne (by omega)]
      exact h.ord q r hqr (by omega)
  · by_cases e : j = i ∧ l = k
    · obtain ⟨rfl, rfl⟩ := e
      exact ⟨M, by omega, updN_same _ _ _, updN_same _ _ _⟩
    · have hl' : l < updN K i k j := by
        by_cases e2 : j = i
        · subst e2; rw [updN_same] at hl ⊢; omega
        · rw [updN_ne e2] at hl ⊢; exact hl
      obtain ⟨q, hq, e1, e2⟩ := h.all j hj l hl'
      exact ⟨q, by omega, by rw [updN_ne (by omega)]; exact e1, by rw [updN_ne (by omega)]; exact e2⟩
/-- A flow more, of which nothing is there yet. -/
theorem CelOk.next {i : Nat} (h : CelOk i M K fi ki) : CelOk (i + 1) M (updN K i 0) fi ki := by
  refine ⟨fun q hq => ?_, h.ord, fun j hj l hl => ?_⟩
  · have := h.lt q hq
    rw [updN_ne (by omega)]
    exact ⟨by omega, this.2⟩
  · by_cases e : j = i
    · subst e; rw [updN_same] at hl; omega
    · rw [updN_ne e] at hl
      exact h.all j (by omega) l hl
theorem CelOk.done {i : Nat} (h : CelOk (i + 1) M (updN K i (K i)) fi ki) : CelOk (i + 1) M K fi ki := by
  have e : updN K i (K i) = K := by funext x; unfold updN; split <;> simp_all
  rw [e] at h; exact h
/-- When a cell comes. -/
theorem came_iff {c : Nat → Int} (hc : ∀ t, 0 ≤ c t) {t k : Nat} (h1 : tot c t ≤ k) (h2 : (k : Int) < tot c (t + 1)) (s : Nat) : t ≤ s ↔ (k : Int) < tot c (s + 1) := by
  have hm : ∀ i j, i ≤ j → tot c i ≤ tot c j := fun i j hij => tot_mono (c := c) (n := j) (fun x _ => hc x) j i hij (Nat.le_refl _)
  constructor
  · intro h; have := hm (t + 1) (s + 1) (by omega); omega
  · intro h
    apply Classical.byContradiction
    intro hn
    have := hm (s + 1) t (by omega)
    omega
/-- The first index from j on at which p holds, or -1, sought from the end. -/
def dnI (p : Nat → Bool) (n : Nat) : Nat → Int
  | 0 => -1
  | d + 1 => if p (n - (d + 1)) = true then ((n - (d + 1) : Nat) : Int) else dnI p n d
theorem dnI_char (p : Nat → Bool) (n : Nat) : ∀ d, d ≤ n → (dnI p n d = -1 ∧ ∀ i, n - d ≤ i → i < n → p i = false) ∨ ∃ j, n - d ≤ j ∧ j < n ∧ dnI p n d = j ∧ p j = true ∧ ∀ i, n - d ≤ i → i < j → p i = false := by
  intro d
  induction d with
  | zero => intro _; exact Or.inl ⟨rfl, fun i h1 h2 => by omega⟩
  | succ d ih =>
    intro hd
    simp only [dnI]
    split
    · rename_i hp
      exact Or.inr ⟨n - (d + 1), Nat.le_refl _, by omega, rfl, hp, fun i h1 h2 => by omega⟩
    · rename_i hp
      have hp' : p (n - (d + 1)) = false := by simpa using hp
      rcases ih (by omega) with ⟨e, h1⟩ | ⟨j, h1, h2, e, h3, h4⟩
      · refine Or.inl ⟨e, fun i h2 h3 => ?_⟩
        by_cases ei : i = n - (d + 1)
        · rw [ei]; exact hp'
        · exact h1 i (by omega) h3
      · refine Or.inr ⟨j, by omega, h2, e, h3, fun i h5 h6 => ?_⟩
        by_cases ei : i = n - (d + 1)
        · rw [ei]; exact hp'
        · exact h4 i (by omega) h6
theorem dnI_all (p : Nat → Bool) (n : Nat) : dnI p n n = fixI p n := by
  unfold fixI
  rcases dnI_char p n n (Nat.le_refl _) with ⟨e, h1⟩ | ⟨j, _, h2, e, h3, h4⟩
  · rw [e, ff_none (fun i hi => h1 i (by omega) hi), if_neg (by omega)]
  · rw [e, ff_eq h2 h3 (fun i hi => h4 i (by omega) hi), if_pos h2]
end Go.Proofs.YtnaooocmggnojaaDoor
