/-
  The program's bands and the reference's: they agree where each band does. Conditions: one band at least, eight at most.
-/
import Derived.Test.YtpjhiioecigfhaaDoorSe
import Derived.Test.YtpjhiioecigfhaaDoorBr
import Derived.Test.YtpjhiioecigfhaaDoorPd
namespace Go.Proofs.YtpjhiioecigfhaaDoor
open Go.RowKit Go.Extern.Stop Go.Stop Go.Extern

/-- Each band agrees. -/
structure Each (Q : Nat → QM) (P : Nat → RM) (N : Nat) (Rel : ∀ i, (Q i).σ → (P i).σ → Prop) : Prop where
  ag : ∀ i, i < N → Agree (Q i) (P i) (Rel i)
  sm : Small Q N
  rs : RSmall P N
theorem rel_upd {Q : Nat → QM} {P : Nat → RM} {N : Nat} {Rel : ∀ i, (Q i).σ → (P i).σ → Prop} {s : ∀ i, (Q i).σ} {r : ∀ i, (P i).σ} (h : ∀ i, i < N → Rel i (s i) (r i)) {j : Nat} {a : (Q j).σ} {b : (P j).σ} (hab : Rel j a b) : ∀ i, i < N → Rel i (upd s j a i) (rupd r j b i) := by
  intro i hi
  by_cases e : i = j
  · subst e
    rw [upd_same, rupd_same]
    exact hab
  · rw [upd_ne _ _ e, rupd_ne _ _ e]
    exact h i hi
theorem take_agree {Q : Nat → QM} {P : Nat → RM} {N : Nat} {Rel : ∀ i, (Q i).σ → (P i).σ → Prop} (hE : Each Q P N Rel) {t now : Int} {n : Nat} (h0 : 0 ≤ t) (h1 : t ≤ now) (h2 : now ≤ 1000000) (hn : n ≤ 1000) : ∀ (m i : Nat) (s : ∀ i, (Q i).σ) (r : ∀ i, (P i).σ) (acc : List Hd), m + i = N → (∀ j, j < N → Rel j (s j) (r j)) → (∀ j, i ≤ j → j < N → (Q j).inv t n (s j) ∧ (P j).inv t n (r j)) →
    (takeB now m i s acc).2 = (rtakeB now m i r acc).2 ∧ ∀ j, j < N → Rel j ((takeB now m i s acc).1 j) ((rtakeB now m i r acc).1 j) := by
  intro m
  induction m with
  | zero =>
    intro i s r acc _ hR _
    exact ⟨rfl, hR⟩
  | succ m ih =>
    intro i s r acc hm hR hI
    have hi : i < N := by omega
    obtain ⟨e1, e2⟩ := (hE.ag i hi).take now (hR i hi) (hI i (Nat.le_refl _) hi).1 (hI i (Nat.le_refl _) hi).2 h0 h1 h2 hn
    have hR' := rel_upd hR e2
    have hI' : ∀ j, i + 1 ≤ j → j < N → (Q j).inv t n (upd s i ((Q i).take (s i) now).1 j) ∧ (P j).inv t n (rupd r i ((P i).take (r i) now).1 j) := by
      intro j hj hjN
      rw [upd_ne _ _ (by omega), rupd_ne _ _ (by omega)]
      exact hI j (by omega) hjN
    simp only [takeB, rtakeB, e1]
    split
    · exact ⟨rfl, hR'⟩
    · exact ih (i + 1) _ _ _ (by omega) hR' hI'
theorem when_agree {Q : Nat → QM} {P : Nat → RM} {N : Nat} {Rel : ∀ i, (Q i).σ → (P i).σ → Prop} (hE : Each Q P N Rel) {t now : Int} {n : Nat} (h0 : 0 ≤ t) (h1 : t ≤ now) (h2 : now ≤ 1000000) (hn : n ≤ 1000) (s : ∀ i, (Q i).σ) (r : ∀ i, (P i).σ) (hR : ∀ j, j < N → Rel j (s j) (r j)) (hI : ∀ j, j < N → (Q j).inv t n (s j)) (hJ : ∀ j, j < N → (P j).inv t n (r j)) : ∀ k, k ≤ N →
    (whenTo s now k).2.2 = (rwhenTo r now k).2.2 ∧ ((rwhenTo r now k).2.2 = true → (whenTo s now k).2.1 = (rwhenTo r now k).2.1) := by
  intro k
  induction k with
  | zero => intro _; exact ⟨rfl, fun _ => rfl⟩
  | succ k ih =>
    intro hk
    obtain ⟨i1, i2⟩ := ih (by omega)
    obtain ⟨e1, e2, _⟩ := (hE.ag k (by omega)).when now (hR k (by omega)) (hI k (by omega)) (hJ k (by omega)) h0 h1 h2 hn
    simp only [whenTo, rwhenTo]
    rw [whenTo_ge s now k (Nat.le_refl _), rwhenTo_ge r now k (Nat.le_refl _)]
    obtain ⟨⟨a1, a2, a3⟩, ha⟩ : ∃ T, whenTo s now k = T := ⟨_, rfl⟩
    obtain ⟨⟨b1, b2, b3⟩, hb⟩ : ∃ T, rwhenTo r now k = T := ⟨_, rfl⟩
    obtain ⟨⟨c1, c2, c3⟩, hc⟩ : ∃ T, (Q k).when (s k) now = T := ⟨_, rfl⟩
    obtain ⟨⟨d1, d2, d3⟩, hd⟩ : ∃ T, (P k).when (r k) now = T := ⟨_, rfl⟩
    rw [ha, hb] at i1 i2
    rw [hc, hd] at e1 e2
    rw [ha, hb, hc, hd]
    simp only at i1 i2 e1 e2 ⊢
    subst i1 e1
    refine ⟨rfl, fun hor => ?_⟩
    cases c3 with
    | false =>
      cases a3 with
      | false => simp at hor
      | true => simpa using i2 rfl
    | true =>
      have hcd := e2 rfl
      subst hcd
      cases a3 with
      | false => simp
      | true =>
        have hab := i2 rfl
        subst hab
        rfl
theorem sumL_app (a b : List Hd) : sumL (a ++ b) = sumL a + sumL b := by
  induction a with
  | nil => simp [sumL]
  | cons x a ih =>
    simp only [List.cons_append, sumL, ih]
    omega
theorem len_agree {Q : Nat → QM} {P : Nat → RM} {N : Nat} {Rel : ∀ i, (Q i).σ → (P i).σ → Prop} (hE : Each Q P N Rel) {t : Int} {n : Nat} (hn : n ≤ 1001) (s : ∀ i, (Q i).σ) (r : ∀ i, (P i).σ) (hR : ∀ j, j < N → Rel j (s j) (r j)) (hI : ∀ j, j < N → (Q j).inv t n (s j)) : ∀ k, k ≤ N →
    sumTo (fun i => (Q i).len (s i)) k = ((rallTo r k).length : Int) ∧ sumTo (fun i => (Q i).bytes (s i)) k = sumL (rallTo r k) := by
  intro k
  induction k with
  | zero => intro _; exact ⟨rfl, rfl⟩
  | succ k ih =>
    intro hk
    obtain ⟨i1, i2⟩ := ih (by omega)
    obtain ⟨e1, e2⟩ := (hE.ag k (by omega)).len (hR k (by omega)) (hI k (by omega)) hn
    simp only [sumTo, rallTo]
    rw [i1, i2, e1, e2, sumL_app, List.length_append, Int.natCast_add]
    exact ⟨rfl, rfl⟩
theorem bands_agree {Q : Nat → QM} {P : Nat → RM} {N : Nat} {Rel : ∀ i, (Q i).σ → (P i).σ → Prop} (hE : Each Q P N Rel) (B ob oo oc B' ob' oo' oc' : Nat) : Agree (BandsM Q N B ob oo oc) (RBandsM P N B' ob' oo' oc') (fun (s : ∀ i, (Q i).σ) (r : ∀ i, (P i).σ) => ∀ i, i < N → Rel i (s i) (r i)) where
  put := by
    intro (s : ∀ i, (Q i).σ) (r : ∀ i, (P i).σ) t n now x h hI hJ ht0 ht1 ht2 hok hxa hxn hn
    have hj := bandOf_lt hE.sm.one x
    obtain ⟨e1, e2⟩ := (hE.ag _ hj).put now x (h _ hj) (hI _ hj) (hJ _ hj) ht0 ht1 ht2 hok hxa hxn hn
    exact ⟨e1, rel_upd h e2⟩
  take := by
    intro (s : ∀ i, (Q i).σ) (r : ∀ i, (P i).σ) t n now h hI hJ ht0 ht1 ht2 hn
    exact take_agree hE ht0 ht1 ht2 hn N 0 s r [] (by omega) h (fun j _ hj => ⟨hI j hj, hJ j hj⟩)
  when := by
    intro (s : ∀ i, (Q i).σ) (r : ∀ i, (P i).σ) t n now h hI hJ ht0 ht1 ht2 hn
    obtain ⟨e1, e2⟩ := when_agree hE ht0 ht1 ht2 hn s r h hI hJ N (Nat.le_refl _)
    refine ⟨e1, e2, fun i hi => ?_⟩
    show Rel i ((whenTo s now N).1 i) ((rwhenTo r now N).1 i)
    rw [whenTo_lt s now N hi, rwhenTo_lt r now N hi]
    exact ((hE.ag i hi).when now (h i hi) (hI i hi) (hJ i hi) ht0 ht1 ht2 hn).2.2
  len := by
    intro (s : ∀ i, (Q i).σ) (r : ∀ i, (P i).σ) t n h hI hn
    exact len_agree hE hn s r h hI N (Nat.le_refl _)
end Go.Proofs.YtpjhiioecigfhaaDoor
