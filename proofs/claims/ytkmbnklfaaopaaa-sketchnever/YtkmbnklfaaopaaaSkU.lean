/-
  Misra and Gries as mathematics: what counters tell, and how far it is from how often keys stand there. No condition but those named.
-/
import Derived.Test.YtkmbnklfaaopaaaSkT
namespace Go.Proofs.Ytkmbnklfaaopaaa
open Go.RowKit Go.Extern.Stop Go.Stop Go.Extern Go.Maps

/-- How often x stands among the first k keys. -/
def cnt (f : Nat → Int) (x : Int) : Nat → Int
  | 0 => 0
  | k + 1 => cnt f x k + if f k = x then 1 else 0
theorem cnt_nonneg (f : Nat → Int) (x : Int) : ∀ k, 0 ≤ cnt f x k
  | 0 => Int.le_refl _
  | k + 1 => by have := cnt_nonneg f x k; simp only [cnt]; split <;> omega
theorem cnt_le (f : Nat → Int) (x : Int) : ∀ k, cnt f x k ≤ k
  | 0 => Int.le_refl _
  | k + 1 => by have := cnt_le f x k; simp only [cnt]; split <;> omega
theorem vl_add (L : List (Int × Int)) (k x : Int) : vl (addL L k) x = vl L x + if k = x then 1 else 0 := by
  unfold addL
  rw [vl_put]
  by_cases e : x = k
  · subst e; simp
  · rw [if_neg e, if_neg (fun h => e h.symm)]; omega
theorem vl_ex (f : Nat → Int) (x : Int) : ∀ k, vl (exN f k) x = cnt f x k
  | 0 => rfl
  | k + 1 => by
    show vl (addL (exN f k) (f k)) x = _
    rw [vl_add, vl_ex f x k]
    rfl
/-- All that is told. -/
def sumP : List (Int × Int) → Int
  | [] => 0
  | p :: L => p.2 + sumP L
theorem sumP_perm {L M : List (Int × Int)} (h : L.Perm M) : sumP L = sumP M := by
  induction h with
  | nil => rfl
  | cons x _ ih => simp only [sumP, ih]
  | swap x y l => simp only [sumP]; omega
  | trans _ _ h1 h2 => rw [h1, h2]
theorem sumP_none {k : Int} : ∀ {L : List (Int × Int)}, (∀ p ∈ L, p.1 ≠ k) → sumP (L.filter fun p => p.1 != k) = sumP L
  | [], _ => rfl
  | p :: L, h => by
    rw [List.filter_cons_of_pos (by simpa using h p (by simp))]
    simp only [sumP]
    rw [sumP_none (fun q hq => h q (by simp [hq]))]
theorem sumP_filter {k : Int} : ∀ {L : List (Int × Int)}, Ap L → sumP (L.filter fun p => p.1 != k) = sumP L - vl L k
  | [], _ => rfl
  | p :: L, h => by
    obtain ⟨h1, h2⟩ := List.pairwise_cons.1 h
    by_cases e : p.1 = k
    · have e1 : vl (p :: L) k = p.2 := by unfold vl; rw [List.find?_cons_of_pos (by simpa using e)]
      rw [List.filter_cons_of_neg (by simpa using e), e1]
      simp only [sumP]
      rw [sumP_none (fun q hq => fun e2 => h1 q hq (e.trans e2.symm))]
      omega
    · have e1 : vl (p :: L) k = vl L k := by unfold vl; rw [List.find?_cons_of_neg (by simpa using e)]
      rw [List.filter_cons_of_pos (by simpa using e), e1]
      simp only [sumP]
      rw [sumP_filter h2]
      omega
theorem sumP_add {L : List (Int × Int)} (h : Ap L) (k : Int) : sumP (addL L k) = sumP L + 1 := by
  show vl L k + 1 + sumP (L.filter fun p => p.1 != k) = _
  rw [sumP_filter h]
  omega
theorem sumP_ex (f : Nat → Int) : ∀ k, sumP (exN f k) = k
  | 0 => rfl
  | k + 1 => by
    show sumP (addL (exN f k) (f k)) = _
    rw [sumP_add (exN_ok f k).ap, sumP_ex f k]
    omega
theorem sumP_low : ∀ {L : List (Int × Int)}, (∀ p ∈ L, 1 ≤ p.2) → sumP (lowL (fun _ => false) L) = sumP L - L.length
  | [], _ => rfl
  | p :: L, h => by
    have ih := sumP_low (L := L) (fun q hq => h q (by simp [hq]))
    have hp := h p (by simp)
    have e : lowL (fun _ => false) (p :: L) = (match lowF (fun _ => false) p with | some q => q :: lowL (fun _ => false) L | none => lowL (fun _ => false) L) := by
      show (p :: L).filterMap _ = _
      rw [List.filterMap_cons]
      cases lowF (fun _ => false) p <;> rfl
    rw [e]
    unfold lowF
    simp only [Bool.false_eq_true, if_false]
    by_cases h1 : p.2 ≤ 1
    · simp only [h1, if_true, ih, sumP, List.length_cons]; omega
    · simp only [h1, if_false, ih, sumP, List.length_cons]; omega
theorem vl_low {L : List (Int × Int)} (ha : Ap L) (hv : ∀ p ∈ L, 1 ≤ p.2) (x : Int) : vl (lowL (fun _ => false) L) x = if 1 ≤ vl L x then vl L x - 1 else 0 := by
  rcases vl_cases L x with ⟨v, hm, e⟩ | ⟨hn, e⟩
  · have h1 : 1 ≤ v := hv _ hm
    rw [e, if_pos h1]
    by_cases h2 : v = 1
    · rw [vl_none]
      · omega
      · intro p hp e2
        rcases mem_low.1 hp with ⟨_, h3⟩ | ⟨_, h3, h4⟩
        · cases h3
        · have := ha.eq h3 hm e2
          simp only [Prod.mk.injEq] at this
          omega
    · exact vl_mem (ha.low _) (mem_low.2 (Or.inr ⟨rfl, by show (x, v - 1 + 1) ∈ L; rw [Int.sub_add_cancel]; exact hm, by show 1 ≤ v - 1; omega⟩))
  · rw [e, if_neg (by omega)]
    refine vl_none fun p hp e2 => ?_
    rcases mem_low.1 hp with ⟨_, h3⟩ | ⟨_, h3, _⟩
    · cases h3
    · exact hn _ h3 e2
/-- Misra and Gries. -/
structure MgS (c : Int) (f : Nat → Int) (L : List (Int × Int)) (k : Nat) (d : Int) : Prop where
  d0 : 0 ≤ d
  sum : sumP L + d * (c + 1) = k
  len : (L.length : Int) ≤ c
  le : ∀ x, vl L x ≤ cnt f x k
  ge : ∀ x, cnt f x k ≤ vl L x + d
theorem sumP_nonneg : ∀ {L : List (Int × Int)}, (∀ p ∈ L, 1 ≤ p.2) → 0 ≤ sumP L
  | [], _ => Int.le_refl _
  | p :: L, h => by
    have := sumP_nonneg (L := L) (fun q hq => h q (by simp [hq]))
    have := h p (by simp)
    simp only [sumP]; omega
theorem mg_any (c : Int) (f : Nat → Int) (hc : 1 ≤ c) : ∀ k, ∃ d, MgS c f (topN c f k) k d
  | 0 => ⟨0, ⟨Int.le_refl _, by simp [topN, sumP], by simp [topN]; omega, fun x => Int.le_refl _, fun x => Int.le_refl _⟩⟩
  | k + 1 => by
    obtain ⟨d, h⟩ := mg_any c f hc k
    have hk := topN_ok c f k
    show ∃ d, MgS c f (topS c (topN c f k) (f k)) (k + 1) d
    unfold topS
    split
    · rename_i hp
      refine ⟨d, h.d0, ?_, ?_, fun x => ?_, fun x => ?_⟩
      · rw [sumP_add hk.ap]; have := h.sum; omega
      · rcases hp with hp | hp
        · rcases vl_cases (topN c f k) (f k) with ⟨v, hm, _⟩ | ⟨_, e⟩
          · have := len_put_mem hm (vl (topN c f k) (f k) + 1)
            have := h.len
            unfold addL; omega
          · omega
        · have := len_put_le (f k) (vl (topN c f k) (f k) + 1) (topN c f k)
          unfold addL; omega
      · rw [vl_add]; have := h.le x; simp only [cnt]; omega
      · rw [vl_add]; have := h.ge x; simp only [cnt]; omega
    · rename_i hp
      have hv : ∀ p ∈ topN c f k, 1 ≤ p.2 := fun p hp => (hk.val p hp).1
      refine ⟨d + 1, by have := h.d0; omega, ?_, ?_, fun x => ?_, fun x => ?_⟩
      · rw [sumP_low hv, Int.add_mul, Int.one_mul]
        have := h.sum
        have := h.len
        omega
      · have := len_low_le (fun _ => false) (topN c f k); have := h.len; omega
      · rw [vl_low hk.ap hv]
        have := h.le x
        have := cnt_nonneg f x k
        simp only [cnt]
        split <;> split <;> omega
      · rw [vl_low hk.ap hv]
        have h1 := h.ge x
        have h0 := hk.vl x
        simp only [cnt]
        by_cases e : f k = x
        · have : ¬ 0 < vl (topN c f k) x := fun h2 => hp (Or.inl (by rw [e]; exact h2))
          rw [if_pos e, if_neg (by omega)]
          omega
        · rw [if_neg e]
          split <;> omega
/-- What the law asks of one key. -/
theorem mg_end {c : Int} {f : Nat → Int} {n : Nat} (hc : 1 ≤ c) (x : Int) : vl (topN c f n) x ≤ cnt f x n ∧ (cnt f x n - vl (topN c f n) x) * (c + 1) ≤ n := by
  obtain ⟨d, h⟩ := mg_any c f hc n
  refine ⟨h.le x, ?_⟩
  have h1 := h.ge x
  have h2 := h.sum
  have h3 := sumP_nonneg (fun p hp => ((topN_ok c f n).val p hp).1)
  have h4 : (cnt f x n - vl (topN c f n) x) * (c + 1) ≤ d * (c + 1) := Int.mul_le_mul_of_nonneg_right (by omega) (by omega)
  omega
theorem mg_len {c : Int} {f : Nat → Int} {n : Nat} (hc : 1 ≤ c) : ((topN c f n).length : Int) ≤ c := by
  obtain ⟨d, h⟩ := mg_any c f hc n
  exact h.len
theorem vl_perm {L M : List (Int × Int)} (ha : Ap L) (hp : M.Perm L) (x : Int) : vl M x = vl L x := by
  rcases vl_cases L x with ⟨v, hm, e⟩ | ⟨hn, e⟩
  · rw [e]; exact vl_mem (ha.perm hp.symm) (hp.symm.subset hm)
  · rw [e]; exact vl_none fun p h => hn p (hp.subset h)
end Go.Proofs.Ytkmbnklfaaopaaa
