/-
  Bands neither lose nor make a packet; and bands of Fifos are strict. Mathematics alone: nothing of the program is claimed here.
-/
import Derived.Test.YtkinimolcfgpmaaBs
import Derived.Test.YtkinimolcfgpmaaKk
namespace Go.Proofs.Ytkinimolcfgpmaa

/-- What waits in all bands. -/
def contB {Q : Nat → QM} (c : ∀ i, (Q i).σ → List Hd) (N : Nat) (s : ∀ i, (Q i).σ) : List Hd := (List.range N).flatMap (fun i => c i (s i))
theorem flat_split {f : Nat → List Hd} {N j : Nat} (hj : j < N) : ((List.range N).flatMap f).Perm (f j ++ ((List.range N).erase j).flatMap f) := by
  have h := List.perm_cons_erase (List.mem_range.2 hj)
  exact (h.flatMap_right f).trans (by rw [List.flatMap_cons])
theorem flat_same {f g : Nat → List Hd} {N j : Nat} (h : ∀ i, i ≠ j → f i = g i) : ((List.range N).erase j).flatMap f = ((List.range N).erase j).flatMap g := by
  rw [List.flatMap_def, List.flatMap_def]
  congr 1
  refine List.map_congr_left fun i hi => h i (fun e => ?_)
  subst e
  exact (List.nodup_range.not_mem_erase) hi
theorem takeB_yes {Q : Nat → QM} {now : Int} {m i : Nat} {s : ∀ i, (Q i).σ} {acc : List Hd} (h : ((Q i).take (s i) now).2.2.2 = true) : takeB now (m + 1) i s acc = (upd s i ((Q i).take (s i) now).1, acc ++ ((Q i).take (s i) now).2.1, ((Q i).take (s i) now).2.2.1, true) := by
  simp only [takeB]
  rw [if_pos h]
theorem takeB_no {Q : Nat → QM} {now : Int} {m i : Nat} {s : ∀ i, (Q i).σ} {acc : List Hd} (h : ((Q i).take (s i) now).2.2.2 = false) : takeB now (m + 1) i s acc = takeB now m (i + 1) (upd s i ((Q i).take (s i) now).1) (acc ++ ((Q i).take (s i) now).2.1) := by
  simp only [takeB]
  rw [if_neg (by rw [h]; decide)]
theorem contB_upd {Q : Nat → QM} (c : ∀ i, (Q i).σ → List Hd) {N j : Nat} (s : ∀ i, (Q i).σ) (x : (Q j).σ) (hj : j < N) : ∃ R, (contB c N s).Perm (c j (s j) ++ R) ∧ (contB c N (upd s j x)).Perm (c j x ++ R) := by
  refine ⟨((List.range N).erase j).flatMap (fun i => c i (s i)), flat_split hj, ?_⟩
  have h := flat_split (f := fun i => c i (upd s j x i)) hj
  rw [flat_same (g := fun i => c i (s i)) (fun i hi => by rw [upd_ne _ _ hi]), upd_same] at h
  exact h
theorem takeB_keeps {Q : Nat → QM} (c : ∀ i, (Q i).σ → List Hd) {N : Nat} (hK : ∀ i, i < N → (Q i).Keeps (c i)) (now : Int) : ∀ (m i : Nat) (s : ∀ i, (Q i).σ) (acc : List Hd), m + i = N →
    (acc ++ contB c N s).Perm ((takeB now m i s acc).2.1 ++ (if (takeB now m i s acc).2.2.2 then [(takeB now m i s acc).2.2.1] else []) ++ contB c N (takeB now m i s acc).1) := by
  intro m
  induction m with
  | zero => intro i s acc _; simp [takeB]
  | succ m ih =>
    intro i s acc hm
    have hi : i < N := by omega
    have hk := (hK i hi).take (s i) now
    obtain ⟨R, h1, h2⟩ := contB_upd c s ((Q i).take (s i) now).1 hi
    cases hok : ((Q i).take (s i) now).2.2.2 with
    | true =>
      rw [takeB_yes hok]
      rw [hok] at hk
      simp only [if_true] at hk ⊢
      have h3 : (acc ++ contB c N s).Perm (acc ++ ((((Q i).take (s i) now).2.1 ++ [((Q i).take (s i) now).2.2.1] ++ c i ((Q i).take (s i) now).1) ++ R)) := List.Perm.append_left acc (h1.trans (hk.append_right R))
      have h4 : (acc ++ ((Q i).take (s i) now).2.1 ++ [((Q i).take (s i) now).2.2.1] ++ contB c N (upd s i ((Q i).take (s i) now).1)).Perm (acc ++ ((Q i).take (s i) now).2.1 ++ [((Q i).take (s i) now).2.2.1] ++ (c i ((Q i).take (s i) now).1 ++ R)) := List.Perm.append_left _ h2
      refine h3.trans (List.Perm.trans ?_ h4.symm)
      simp
    | false =>
      rw [takeB_no hok]
      rw [hok] at hk
      simp only [Bool.false_eq_true, if_false, List.append_nil] at hk
      have h3 : (acc ++ contB c N s).Perm (acc ++ ((((Q i).take (s i) now).2.1 ++ c i ((Q i).take (s i) now).1) ++ R)) := List.Perm.append_left acc (h1.trans (hk.append_right R))
      have h4 : (acc ++ ((Q i).take (s i) now).2.1 ++ contB c N (upd s i ((Q i).take (s i) now).1)).Perm (acc ++ ((Q i).take (s i) now).2.1 ++ (c i ((Q i).take (s i) now).1 ++ R)) := List.Perm.append_left _ h2
      have h5 : (acc ++ contB c N s).Perm (acc ++ ((Q i).take (s i) now).2.1 ++ contB c N (upd s i ((Q i).take (s i) now).1)) := by
        refine h3.trans (List.Perm.trans ?_ h4.symm)
        simp
      exact h5.trans (ih (i + 1) _ _ (by omega))
theorem sumTo_len {Q : Nat → QM} (c : ∀ i, (Q i).σ → List Hd) (s : ∀ i, (Q i).σ) : ∀ N, (∀ i, i < N → (Q i).len (s i) = (c i (s i)).length) → sumTo (fun i => (Q i).len (s i)) N = (contB c N s).length := by
  intro N
  induction N with
  | zero => intro _; rfl
  | succ N ih =>
    intro h
    simp only [sumTo, contB, List.range_succ, List.flatMap_append, List.length_append]
    rw [ih (fun i hi => h i (by omega)), h N (by omega)]
    simp [contB]
theorem sumTo_bytes {Q : Nat → QM} (c : ∀ i, (Q i).σ → List Hd) (s : ∀ i, (Q i).σ) : ∀ N, (∀ i, i < N → (Q i).bytes (s i) = sumL (c i (s i))) → sumTo (fun i => (Q i).bytes (s i)) N = sumL (contB c N s) := by
  intro N
  induction N with
  | zero => intro _; rfl
  | succ N ih =>
    intro h
    simp only [sumTo, contB, List.range_succ, List.flatMap_append, sumL_append]
    rw [ih (fun i hi => h i (by omega)), h N (by omega)]
    simp [contB]
theorem whenTo_keeps {Q : Nat → QM} (c : ∀ i, (Q i).σ → List Hd) {N : Nat} (hK : ∀ i, i < N → (Q i).Keeps (c i)) (s : ∀ i, (Q i).σ) (now : Int) : ∀ k, k ≤ N → (contB c N s).Perm (contB c N (whenTo s now k).1) := by
  intro k
  induction k with
  | zero => intro _; exact List.Perm.refl _
  | succ k ih =>
    intro hk
    have h0 := ih (by omega)
    have hw := (hK k (by omega)).when ((whenTo s now k).1 k) now
    obtain ⟨R, h1, h2⟩ := contB_upd c (whenTo s now k).1 ((Q k).when ((whenTo s now k).1 k) now).1 (j := k) (N := N) (by omega)
    simp only [whenTo]
    exact h0.trans (h1.trans ((hw.append_right R).trans h2.symm))
theorem bands_keeps {Q : Nat → QM} {N B ob oo oc : Nat} (c : ∀ i, (Q i).σ → List Hd) (hK : ∀ i, i < N → (Q i).Keeps (c i)) (hN : 1 ≤ N) : (BandsM Q N B ob oo oc).Keeps (contB c N) where
  put := by
    intro (s : ∀ i, (Q i).σ) now x
    have hj := bandOf_lt hN x
    have hp := (hK _ hj).put (s (bandOf N x)) now x
    obtain ⟨R, h1, h2⟩ := contB_upd c s ((Q (bandOf N x)).put (s (bandOf N x)) now x).1 hj
    show (contB c N s ++ [x]).Perm (((Q (bandOf N x)).put (s (bandOf N x)) now x).2 ++ contB c N (upd s (bandOf N x) ((Q (bandOf N x)).put (s (bandOf N x)) now x).1))
    generalize (Q (bandOf N x)).put (s (bandOf N x)) now x = T at *
    have h3 : (contB c N s ++ [x]).Perm ((c (bandOf N x) (s (bandOf N x)) ++ [x]) ++ R) := (h1.append_right [x]).trans (by rw [List.append_assoc, List.append_assoc]; exact List.Perm.append_left _ List.perm_append_comm)
    refine h3.trans ((hp.append_right R).trans ?_)
    rw [List.append_assoc]
    exact List.Perm.append_left _ h2.symm
  take := by
    intro (s : ∀ i, (Q i).σ) now
    have := takeB_keeps c hK now N 0 s [] (by omega)
    rw [List.nil_append] at this
    exact this
  when := fun s now => whenTo_keeps c hK s now N (Nat.le_refl _)
  len := fun s => sumTo_len c s N (fun i hi => (hK i hi).len (s i))
  bytes := fun s => sumTo_bytes c s N (fun i hi => (hK i hi).bytes (s i))

/-! ### Bands of Fifos -/
def FQ (bs : Nat → Nat) (i : Nat) : QM := FifoM (bs i) 20 1000000 false
theorem FQ_small (bs : Nat → Nat) {N : Nat} (h1 : 1 ≤ N) (h8 : N ≤ 8) : Small (FQ bs) N where
  fine := fun i _ => fifoM_fine _ _ _ _ (by decide) (by decide) (by decide)
  mono := by
    intro i _ t t' n n' s h _ hn
    exact ⟨Nat.le_trans h.1 hn, h.2⟩
  len := by
    intro i _ t n s h hn
    have hf := fit_of (n := n) h (by omega)
    have h2 := Fit.sum hf.2
    have h3 := h.1
    have e1 : (FQ bs i).len s = (List.length (α := Hd) s : Int) := rfl
    have e2 : (FQ bs i).bytes s = sumL s := rfl
    rw [e1, e2]
    omega
  few := by
    intro i _ t n s now _ _
    exact Nat.zero_le _
  one := h1
  eight := h8
/-- A Fifo's turn: what is put, and what is taken. -/
theorem FQ_put (bs : Nat → Nat) (i : Nat) (L : List Hd) (now : Int) (x : Hd) : ((FQ bs i).put L now x = (L, [x]) ∨ (FQ bs i).put L now x = (L ++ [x], [])) := by
  show ((putF 20 1000000 false L x).2, (putF 20 1000000 false L x).1) = (L, [x]) ∨ ((putF 20 1000000 false L x).2, (putF 20 1000000 false L x).1) = (L ++ [x], [])
  cases h : (decide (20 ≤ (L.length : Int)) || decide (1000000 - sumL L < x.l)) with
  | true => rw [putF_full h]; exact Or.inl rfl
  | false => rw [putF_room h]; exact Or.inr rfl
theorem FQ_take (bs : Nat → Nat) (i : Nat) (L : List Hd) (now : Int) : (FQ bs i).take L now = (L.tail, [], hdOr L, !L.isEmpty) := rfl
/-- All bands from i on are asked: one gives, or none has any. -/
theorem takeB_fifo (bs : Nat → Nat) (now : Int) : ∀ (m i : Nat) (s : ∀ i, (FQ bs i).σ) (acc : List Hd),
    (∃ s', takeB now m i s acc = (s', acc, hd0, false) ∧ (∀ j, s' j = s j) ∧ ∀ j, i ≤ j → j < i + m → s j = ([] : List Hd)) ∨
    (∃ s' k x L, takeB now m i s acc = (s', acc, x, true) ∧ i ≤ k ∧ k < i + m ∧ (∀ j, i ≤ j → j < k → s j = ([] : List Hd)) ∧ s k = (x :: L : List Hd) ∧ s' k = (L : List Hd) ∧ ∀ j, j ≠ k → s' j = s j) := by
  intro m
  induction m with
  | zero => intro i s acc; exact Or.inl ⟨s, rfl, fun _ => rfl, fun j h1 h2 => by omega⟩
  | succ m ih =>
    intro i s acc
    have ht := FQ_take bs i (s i) now
    obtain ⟨Li, hLi⟩ : ∃ Li : List Hd, s i = Li := ⟨s i, rfl⟩
    cases Li with
    | nil =>
      have hok : ((FQ bs i).take (s i) now).2.2.2 = false := by rw [hLi]; rfl
      have h1 : ((FQ bs i).take (s i) now).1 = s i := by rw [hLi]; rfl
      have h2 : ((FQ bs i).take (s i) now).2.1 = [] := by rw [hLi]; rfl
      have hu : ∀ j, upd s i ((FQ bs i).take (s i) now).1 j = s j := by
        intro j
        by_cases e : j = i
        · subst e; rw [upd_same, h1]
        · rw [upd_ne _ _ e]
      rw [takeB_no hok, h2, List.append_nil]
      rcases ih (i + 1) (upd s i ((FQ bs i).take (s i) now).1) acc with ⟨s', e1, e2, e3⟩ | ⟨s', k, x, L, e1, e2, e3, e4, e5, e6, e7⟩
      · refine Or.inl ⟨s', e1, fun j => (e2 j).trans (hu j), fun j hj1 hj2 => ?_⟩
        by_cases e : j = i
        · subst e; exact hLi
        · rw [← hu j]; exact e3 j (by omega) (by omega)
      · refine Or.inr ⟨s', k, x, L, e1, by omega, by omega, fun j hj1 hj2 => ?_, (hu k) ▸ e5, e6, fun j hj => (e7 j hj).trans (hu j)⟩
        by_cases e : j = i
        · subst e; exact hLi
        · rw [← hu j]; exact e4 j (by omega) (by omega)
    | cons x L =>
      have hok : ((FQ bs i).take (s i) now).2.2.2 = true := by rw [hLi]; rfl
      have h1 : ((FQ bs i).take (s i) now).1 = (L : List Hd) := by rw [hLi]; rfl
      have h2 : ((FQ bs i).take (s i) now).2.1 = [] := by rw [hLi]; rfl
      have h3 : ((FQ bs i).take (s i) now).2.2.1 = x := by rw [hLi]; rfl
      rw [takeB_yes hok, h2, h3, List.append_nil]
      exact Or.inr ⟨_, i, x, L, rfl, Nat.le_refl _, by omega, fun j h1 h2 => by omega, hLi, by rw [upd_same]; exact h1, fun j hj => upd_ne _ _ hj⟩
theorem whenTo_fifo (bs : Nat → Nat) (now : Int) (s : ∀ i, (FQ bs i).σ) (k j : Nat) : (whenTo s now k).1 j = s j := by
  by_cases h : j < k
  · rw [whenTo_lt s now k h]; rfl
  · exact whenTo_ge s now k (by omega)
end Go.Proofs.Ytkinimolcfgpmaa
