/-
  What conforms to a bucket, one tick's together, keeps to the curve of its burst and rate, in plain numbers. Conditions: packets that may be, in order; a bucket that may be.
-/
import Derived.Test.YtebahbcmlhdleaaDoorBkMath
import Derived.Test.YtebahbcmlhdleaaDoorCvMath
namespace Go.Proofs.YtebahbcmlhdleaaDoor

/-- The bytes of each tick, of those of the first k packets that conformed. -/
def tk (n t R : Int) (xs : List It) : Nat → Nat → Int
  | 0, _ => 0
  | k + 1, u => match xs[k]? with
    | none => tk n t R xs k u
    | some x => if bok n t R xs k = true ∧ u = x.a.toNat then tk n t R xs k u + x.l else tk n t R xs k u
theorem tk_yes {n t R : Int} {xs : List It} {k : Nat} {x : It} (hx : xs[k]? = some x) (hb : bok n t R xs k = true) (u : Nat) : tk n t R xs (k + 1) u = if u = x.a.toNat then tk n t R xs k u + x.l else tk n t R xs k u := by
  simp only [tk, hx, hb, true_and]
theorem tk_no {n t R : Int} {xs : List It} {k : Nat} {x : It} (hx : xs[k]? = some x) (hb : bok n t R xs k = false) (u : Nat) : tk n t R xs (k + 1) u = tk n t R xs k u := by
  simp [tk, hx, hb]
theorem tot_upd (T : Nat → Int) (a : Nat) (l : Int) : ∀ m, tot (fun u => if u = a then T u + l else T u) m = tot T m + (if a < m then l else 0) := by
  intro m
  induction m with
  | zero => simp [tot]
  | succ m ih =>
    simp only [tot, ih]
    by_cases e : m = a
    · subst e; rw [if_neg (by omega), if_pos rfl, if_pos (by omega)]; omega
    · rw [if_neg e]
      by_cases h : a < m
      · rw [if_pos h, if_pos (by omega)]; omega
      · rw [if_neg h, if_neg (by omega)]; omega
/-- Nothing behind the latest time; never below 0; few enough. -/
theorem tk_bd {n t R : Int} {xs : List It} (hF : Fine xs) : ∀ k, k ≤ xs.length → ∀ u, 0 ≤ tk n t R xs k u ∧ tk n t R xs k u ≤ 10000 * k := by
  intro k
  induction k with
  | zero => intro _ u; simp [tk]
  | succ k ih =>
    intro hk u
    obtain ⟨x, hx⟩ : ∃ x, xs[k]? = some x := ⟨_, List.getElem?_eq_getElem (by omega)⟩
    have h1 := ih (by omega) u
    have h2 := (hF k x hx).1
    cases hb : bok n t R xs k with
    | true => rw [tk_yes hx hb]; split <;> omega
    | false => rw [tk_no hx hb]; omega
theorem tk_late {n t R : Int} {xs : List It} (hF : Fine xs) : ∀ k, k ≤ xs.length → ∀ u : Nat, (bst n t R xs k).2 < (u : Int) → tk n t R xs k u = 0 := by
  intro k
  induction k with
  | zero => intro _ u _; rfl
  | succ k ih =>
    intro hk u hu
    obtain ⟨x, hx⟩ : ∃ x, xs[k]? = some x := ⟨_, List.getElem?_eq_getElem (by omega)⟩
    have h2 := (hF k x hx).1
    have h3 := (bst_lat (n := n) (t := t) (R := R) hF k (by omega)).2 x hx
    rw [bst_succ hx] at hu
    have h8 : (if x.a ≤ (bst n t R xs k).2 then (bst n t R xs k).2 else x.a) = x.a := by split <;> omega
    simp only [h8] at hu
    have h1 := ih (by omega) u (by omega)
    cases hb : bok n t R xs k with
    | true => rw [tk_yes hx hb, if_neg (by omega)]; exact h1
    | false => rw [tk_no hx hb]; exact h1
theorem tot_late {T : Nat → Int} {a : Nat} (h : ∀ u, a < u → T u = 0) : ∀ m, a + 1 ≤ m → tot T m = tot T (a + 1) := by
  intro m
  induction m with
  | zero => intro h; omega
  | succ m ih =>
    intro hm
    by_cases e : a = m
    · subst e; rfl
    · have := ih (by omega)
      have h0 := h m (by omega)
      simp only [tot] at this ⊢
      omega
/-- Of what is in the bucket, and what has come from s on. -/
theorem tk_lev {n t R : Int} {xs : List It} (hF : Fine xs) (hn : 1 ≤ n) (ht : 1 ≤ t) (hR : 0 ≤ R) : ∀ k, k ≤ xs.length →
    (∀ s : Nat, (s : Int) ≤ (bst n t R xs k).2 → (tot (tk n t R xs k) ((bst n t R xs k).2.toNat + 1) - tot (tk n t R xs k) s) * t + (bst n t R xs k).1 ≤ R * t + ((bst n t R xs k).2 - s) * n) ∧
    ∀ s m : Nat, s < m → (tot (tk n t R xs k) m - tot (tk n t R xs k) s) * t ≤ R * t + ((m : Int) - 1 - s) * n := by
  intro k
  induction k with
  | zero =>
    intro _
    have hz : ∀ m, tot (tk n t R xs 0) m = 0 := by intro m; induction m with
      | zero => rfl
      | succ m ih => simp only [tot, ih]; rfl
    refine ⟨fun s hs => ?_, fun s m hsm => ?_⟩
    · have hs0 : s = 0 := by simp only [bst] at hs; omega
      subst hs0
      rw [hz, hz]; simp [bst]
    · rw [hz, hz]
      have h1 : 0 ≤ R * t := Int.mul_nonneg hR (by omega)
      have h2 : 0 ≤ ((m : Int) - 1 - s) * n := Int.mul_nonneg (by omega) (by omega)
      simp; omega
  | succ k ih =>
    intro hk
    obtain ⟨x, hx⟩ : ∃ x, xs[k]? = some x := ⟨_, List.getElem?_eq_getElem (by omega)⟩
    obtain ⟨hI, hV⟩ := ih (by omega)
    have h2 := (hF k x hx).1
    have h3 := (bst_lat (n := n) (t := t) (R := R) hF k (by omega)).2 x hx
    have h3' := (bst_lat (n := n) (t := t) (R := R) hF k (by omega)).1
    have hL := bst_lev (n := n) (t := t) (R := R) hF hn ht hR k (by omega)
    have h8 : (if x.a ≤ (bst n t R xs k).2 then (bst n t R xs k).2 else x.a) = x.a := by split <;> omega
    have h7 := pas_eq (n := n) h3 hL.2
    have hlate := tk_late (n := n) (t := t) (R := R) hF k (by omega)
    have hT0 := tot_late (T := tk n t R xs k) (a := (bst n t R xs k).2.toNat) fun u hu => hlate u (by omega)
    have hbk := bok_at (n := n) (t := t) (R := R) hx
    have h4 : 0 ≤ x.l * t := Int.mul_nonneg (by omega) (by omega)
    have h6 : 0 ≤ R * t := Int.mul_nonneg hR (by omega)
    have h5 : (bst n t R xs k).2 * n ≤ x.a * n := Int.mul_le_mul_of_nonneg_right h3 (by omega)
    have hpb := pas_bounds hF hn ht hR hx
    rw [bst_succ hx]
    rw [h8]
    -- what has come from s on, ahead of this packet, and what is in the bucket when it comes
    have key : ∀ s : Nat, (s : Int) ≤ x.a → (tot (tk n t R xs k) (x.a.toNat + 1) - tot (tk n t R xs k) s) * t + pas n t R (bst n t R xs k).1 (bst n t R xs k).2 x.a ≤ R * t + (x.a - s) * n := by
      intro s hs
      have e1 := hT0 (x.a.toNat + 1) (by omega)
      by_cases hsl : (s : Int) ≤ (bst n t R xs k).2
      · have h9 := hI s hsl
        rw [e1]
        rw [Int.sub_mul] at h9 ⊢
        rw [Int.sub_mul (x.a)]
        rw [Int.sub_mul ((bst n t R xs k).2)] at h9
        omega
      · have e2 := hT0 s (by omega)
        rw [e1, e2]
        have h9 : 0 ≤ (x.a - s) * n := Int.mul_nonneg (by omega) (by omega)
        simp only [Int.sub_self, Int.zero_mul]
        omega
    cases hb : bok n t R xs k with
    | true =>
      have hle : x.l * t ≤ pas n t R (bst n t R xs k).1 (bst n t R xs k).2 x.a := by rw [hb] at hbk; simpa using hbk.symm
      have hTT : ∀ m, tot (tk n t R xs (k + 1)) m = tot (tk n t R xs k) m + (if x.a.toNat < m then x.l else 0) := by
        intro m
        rw [← tot_upd (tk n t R xs k) x.a.toNat x.l m]
        exact tot_congr m fun i _ => tk_yes hx hb i
      have hI' : ∀ s : Nat, (s : Int) ≤ x.a → (tot (tk n t R xs (k + 1)) (x.a.toNat + 1) - tot (tk n t R xs (k + 1)) s) * t + (pas n t R (bst n t R xs k).1 (bst n t R xs k).2 x.a - x.l * t) ≤ R * t + (x.a - s) * n := by
        intro s hs
        have h9 := key s hs
        rw [hTT, hTT, if_pos (by omega), if_neg (by omega)]
        rw [Int.sub_mul] at h9 ⊢
        rw [Int.add_mul]
        simp only [Int.add_zero]
        omega
      rw [if_pos hle]
      refine ⟨fun s hs => hI' s hs, fun s m hsm => ?_⟩
      by_cases ham : x.a.toNat < m
      · by_cases hsa : (s : Int) ≤ x.a
        · have h9 := hI' s hsa
          have e1 : tot (tk n t R xs (k + 1)) m = tot (tk n t R xs (k + 1)) (x.a.toNat + 1) := by
            rw [hTT, hTT, if_pos ham, if_pos (by omega), hT0 m (by omega), hT0 (x.a.toNat + 1) (by omega)]
          rw [e1]
          have h10 : (x.a - s) * n ≤ ((m : Int) - 1 - s) * n := Int.mul_le_mul_of_nonneg_right (by omega) (by omega)
          omega
        · have h9 := hV s m hsm
          rw [hTT, hTT, if_pos ham, if_pos (by omega)]
          rw [show tot (tk n t R xs k) m + x.l - (tot (tk n t R xs k) s + x.l) = tot (tk n t R xs k) m - tot (tk n t R xs k) s by omega]
          exact h9
      · have h9 := hV s m hsm
        rw [hTT, hTT, if_neg ham, if_neg (by omega)]
        simpa using h9
    | false =>
      have hnle : ¬ x.l * t ≤ pas n t R (bst n t R xs k).1 (bst n t R xs k).2 x.a := by rw [hb] at hbk; simpa using hbk.symm
      have hTT : ∀ m, tot (tk n t R xs (k + 1)) m = tot (tk n t R xs k) m := fun m => tot_congr m fun i _ => tk_no hx hb i
      rw [if_neg hnle]
      refine ⟨fun s hs => ?_, fun s m hsm => ?_⟩
      · rw [hTT, hTT]; exact key s hs
      · rw [hTT, hTT]; exact hV s m hsm
/-- The curve of a burst and a rate. -/
def bur (n t R : Int) (u : Nat) : Int := if u = 0 then 0 else R + u * n / t
theorem bur_pos {n t R : Int} {u : Nat} (h : 0 < u) : bur n t R u = R + u * n / t := if_neg (by omega)
theorem bur_bd {n t : Int} (hn : 1 ≤ n ∧ n ≤ 1000000) (ht : 1 ≤ t) (u : Nat) (hu : u ≤ 200) : 0 ≤ u * n ∧ u * n ≤ 200000000 ∧ 0 ≤ u * n / t ∧ u * n / t ≤ 200000000 := by
  have h1 : 0 ≤ (u : Int) * n := Int.mul_nonneg (by omega) (by omega)
  have h2 : (u : Int) * n ≤ 200 * 1000000 := Int.mul_le_mul (by omega) hn.2 (by omega) (by omega)
  have h3 : 0 ≤ (u : Int) * n / t := Int.ediv_nonneg h1 (by omega)
  have h4 : (u : Int) * n / t ≤ u * n := Int.ediv_le_self _ h1
  omega
theorem okC_bur {n t R : Int} (hn : 1 ≤ n ∧ n ≤ 1000000) (ht : 1 ≤ t) (hR : 0 ≤ R ∧ R ≤ 1000000) (N : Nat) (h1 : 1 ≤ N) (h2 : N ≤ 201) : okC N (bur n t R) := by
  refine ⟨h1, h2, fun i hi => ?_, fun i hi => ?_, fun i hi => ?_⟩
  · unfold bur; split
    · omega
    · have := bur_bd hn ht i (by omega); omega
  · unfold bur; split
    · omega
    · have := bur_bd hn ht i (by omega); omega
  · rw [bur_pos (u := i + 1) (by omega)]
    have h3 := bur_bd hn ht (i + 1) (by omega)
    unfold bur; split
    · omega
    · have h4 : (i : Int) * n / t ≤ ((i + 1 : Nat) : Int) * n / t := Int.ediv_le_ediv (by omega) (Int.mul_le_mul_of_nonneg_right (by omega) (by omega))
      omega
/-- What conforms, tick by tick, keeps to its curve. -/
theorem fit_bur {n t R : Int} {xs : List It} (hF : Fine xs) (hn : 1 ≤ n) (ht : 1 ≤ t) (hR : 0 ≤ R) (h100 : xs.length ≤ 100) (M : Nat) : Fit M (tk n t R xs xs.length) (bur n t R) := by
  refine ⟨fun i _ => ?_, fun s m hsm _ => ?_⟩
  · have := tk_bd (n := n) (t := t) (R := R) hF xs.length (Nat.le_refl _) i
    omega
  · have h1 := (tk_lev hF hn ht hR xs.length (Nat.le_refl _)).2 s m hsm
    rw [bur_pos (by omega)]
    have h2 : ((m : Int) - 1 - s) * n ≤ ((m - s : Nat) : Int) * n := Int.mul_le_mul_of_nonneg_right (by omega) (by omega)
    have h3 : (tot (tk n t R xs xs.length) m - tot (tk n t R xs xs.length) s - R) * t ≤ ((m - s : Nat) : Int) * n := by
      rw [Int.sub_mul]; omega
    have h4 := (Int.le_ediv_iff_mul_le (by omega : 0 < t)).2 h3
    omega
end Go.Proofs.YtebahbcmlhdleaaDoor
