/-
  Bands of queues neither lose nor make a packet where each of the queues doesn't. Mathematics of the model alone.
  Bands of queues of which none loses or makes a packet, some losses told late: nor do they. Mathematics of the model alone.
  package plant: queues of any kind in parentheses, in memory; the errors of a parenthesis that lacks. Conditions: what each of them is, is known.
  package plant: the word of rounds. Nothing is claimed here.
-/
import Derived.Test.YtfakjedolecdcaaGreatDoorU18
import Derived.Test.YtfakjedolecdcaaGreatDoorKm
import Derived.Test.YtfakjedolecdcaaGreatDoorU15
import Derived.Test.YtfakjedolecdcaaGreatDoorU19
import Derived.Test.YtfakjedolecdcaaGreatDoorProg
namespace Go.Proofs.YtfakjedolecdcaaGreatDoor

/-- What waits in all bands. -/
def contB {Q : Nat → QM} (c : ∀ i, (Q i).σ → List Hd) (N : Nat) (s : ∀ i, (Q i).σ) : List Hd := (List.range N).flatMap (fun i => c i (s i))
theorem flat_split {f : Nat → List Hd} {N j : Nat} (hj : j < N) : ((List.range N).flatMap f).Perm (f j ++ ((List.range N).erase j).flatMap f) := by
  have h := List.perm_cons_erase (List.mem_range.2 hj)
  exact (h.flatMap_right f).trans (by rw [List.flatMap_cons])
theorem flat_same {f g : Nat → List Hd} {N j : Nat} (h : ∀ i, i ≠ j → f i = g i) : ((List.range N).erase j).flatMap f = ((List.range N).erase j).flatMap g := by
  rw [List.flatMap_def, List.flatMap_def]
  congr 1
  refine List.map_congr_left fun i hi => h i (fun e => ?_)
  subst e
  exact (List.nodup_range.not_mem_erase) hi
theorem takeB_yes {Q : Nat → QM} {now : Int} {m i : Nat} {s : ∀ i, (Q i).σ} {acc : List Hd} (h : ((Q i).take (s i) now).2.2.2 = true) : takeB now (m + 1) i s acc = (upd s i ((Q i).take (s i) now).1, acc ++ ((Q i).take (s i) now).2.1, ((Q i).take (s i) now).2.2.1, true) := by
  simp only [takeB]
  rw [if_pos h]
theorem takeB_no {Q : Nat → QM} {now : Int} {m i : Nat} {s : ∀ i, (Q i).σ} {acc : List Hd} (h : ((Q i).take (s i) now).2.2.2 = false) : takeB now (m + 1) i s acc = takeB now m (i + 1) (upd s i ((Q i).take (s i) now).1) (acc ++ ((Q i).take (s i) now).2.1) := by
  simp only [takeB]
  rw [if_neg (by rw [h]; decide)]
theorem contB_upd {Q : Nat → QM} (c : ∀ i, (Q i).σ → List Hd) {N j : Nat} (s : ∀ i, (Q i).σ) (x : (Q j).σ) (hj : j < N) : ∃ R, (contB c N s).Perm (c j (s j) ++ R) ∧ (contB c N (upd s j x)).Perm (c j x ++ R) := by
  refine ⟨((List.range N).erase j).flatMap (fun i => c i (s i)), flat_split hj, ?_⟩
  have h := flat_split (f := fun i => c i (upd s j x i)) hj
  rw [flat_same (g := fun i => c i (s i)) (fun i hi => by rw [upd_ne _ _ hi]), upd_same] at h
  exact h
theorem takeB_keeps {Q : Nat → QM} (c : ∀ i, (Q i).σ → List Hd) {N : Nat} (hK : ∀ i, i < N → (Q i).Keeps (c i)) (now : Int) : ∀ (m i : Nat) (s : ∀ i, (Q i).σ) (acc : List Hd), m + i = N →
    (acc ++ contB c N s).Perm ((takeB now m i s acc).2.1 ++ (if (takeB now m i s acc).2.2.2 then [(takeB now m i s acc).2.2.1] else []) ++ contB c N (takeB now m i s acc).1) := by
  intro m
  induction m with
  | zero => intro i s acc _; simp [takeB]
  | succ m ih =>
    intro i s acc hm
    have hi : i < N := by omega
    have hk := (hK i hi).take (s i) now
    obtain ⟨R, h1, h2⟩ := contB_upd c s ((Q i).take (s i) now).1 hi
    cases hok : ((Q i).take (s i) now).2.2.2 with
    | true =>
      rw [takeB_yes hok]
      rw [hok] at hk
      simp only [if_true] at hk ⊢
      have h3 : (acc ++ contB c N s).Perm (acc ++ ((((Q i).take (s i) now).2.1 ++ [((Q i).take (s i) now).2.2.1] ++ c i ((Q i).take (s i) now).1) ++ R)) := List.Perm.append_left acc (h1.trans (hk.append_right R))
      have h4 : (acc ++ ((Q i).take (s i) now).2.1 ++ [((Q i).take (s i) now).2.2.1] ++ contB c N (upd s i ((Q i).take (s i) now).1)).Perm (acc ++ ((Q i).take (s i) now).2.1 ++ [((Q i).take (s i) now).2.2.1] ++ (c i ((Q i).take (s i) now).1 ++ R)) := List.Perm.append_left _ h2
      refine h3.trans (List.Perm.trans ?_ h4.symm)
      simp
    | false =>
      rw [takeB_no hok]
      rw [hok] at hk
      simp only [Bool.false_eq_true, if_false, List.append_nil] at hk
      have h3 : (acc ++ contB c N s).Perm (acc ++ ((((Q i).take (s i) now).2.1 ++ c i ((Q i).take (s i) now).1) ++ R)) := List.Perm.append_left acc (h1.trans (hk.append_right R))
      have h4 : (acc ++ ((Q i).take (s i) now).2.1 ++ contB c N (upd s i ((Q i).take (s i) now).1)).Perm (acc ++ ((Q i).take (s i) now).2.1 ++ (c i ((Q i).take (s i) now).1 ++ R)) := List.Perm.append_left _ h2
      have h5 : (acc ++ contB c N s).Perm (acc ++ ((Q i).take (s i) now).2.1 ++ contB c N (upd s i ((Q i).take (s i) now).1)) := by
        refine h3.trans (List.Perm.trans ?_ h4.symm)
        simp
      exact h5.trans (ih (i + 1) _ _ (by omega))
theorem sumTo_len {Q : Nat → QM} (c : ∀ i, (Q i).σ → List Hd) (s : ∀ i, (Q i).σ) : ∀ N, (∀ i, i < N → (Q i).len (s i) = (c i (s i)).length) → sumTo (fun i => (Q i).len (s i)) N = (contB c N s).length := by
  intro N
  induction N with
  | zero => intro _; rfl
  | succ N ih =>
    intro h
    simp only [sumTo, contB, List.range_succ, List.flatMap_append, List.length_append]
    rw [ih (fun i hi => h i (by omega)), h N (by omega)]
    simp [contB]
theorem sumTo_bytes {Q : Nat → QM} (c : ∀ i, (Q i).σ → List Hd) (s : ∀ i, (Q i).σ) : ∀ N, (∀ i, i < N → (Q i).bytes (s i) = sumL (c i (s i))) → sumTo (fun i => (Q i).bytes (s i)) N = sumL (contB c N s) := by
  intro N
  induction N with
  | zero => intro _; rfl
  | succ N ih =>
    intro h
    simp only [sumTo, contB, List.range_succ, List.flatMap_append, sumL_append]
    rw [ih (fun i hi => h i (by omega)), h N (by omega)]
    simp [contB]
theorem whenTo_keeps {Q : Nat → QM} (c : ∀ i, (Q i).σ → List Hd) {N : Nat} (hK : ∀ i, i < N → (Q i).Keeps (c i)) (s : ∀ i, (Q i).σ) (now : Int) : ∀ k, k ≤ N → (contB c N s).Perm (contB c N (whenTo s now k).1) := by
  intro k
  induction k with
  | zero => intro _; exact List.Perm.refl _
  | succ k ih =>
    intro hk
    have h0 := ih (by omega)
    have hw := (hK k (by omega)).when ((whenTo s now k).1 k) now
    obtain ⟨R, h1, h2⟩ := contB_upd c (whenTo s now k).1 ((Q k).when ((whenTo s now k).1 k) now).1 (j := k) (N := N) (by omega)
    simp only [whenTo]
    exact h0.trans (h1.trans ((hw.append_right R).trans h2.symm))
theorem bands_keeps {Q : Nat → QM} {N B ob oo oc : Nat} (c : ∀ i, (Q i).σ → List Hd) (hK : ∀ i, i < N → (Q i).Keeps (c i)) (hN : 1 ≤ N) : (BandsM Q N B ob oo oc).Keeps (contB c N) where
  put := by
    intro (s : ∀ i, (Q i).σ) now x
    have hj := bandOf_lt hN x
    have hp := (hK _ hj).put (s (bandOf N x)) now x
    obtain ⟨R, h1, h2⟩ := contB_upd c s ((Q (bandOf N x)).put (s (bandOf N x)) now x).1 hj
    show (contB c N s ++ [x]).Perm (((Q (bandOf N x)).put (s (bandOf N x)) now x).2 ++ contB c N (upd s (bandOf N x) ((Q (bandOf N x)).put (s (bandOf N x)) now x).1))
    generalize (Q (bandOf N x)).put (s (bandOf N x)) now x = T at *
    have h3 : (contB c N s ++ [x]).Perm ((c (bandOf N x) (s (bandOf N x)) ++ [x]) ++ R) := (h1.append_right [x]).trans (by rw [List.append_assoc, List.append_assoc]; exact List.Perm.append_left _ List.perm_append_comm)
    refine h3.trans ((hp.append_right R).trans ?_)
    rw [List.append_assoc]
    exact List.Perm.append_left _ h2.symm
  take := by
    intro (s : ∀ i, (Q i).σ) now
    have := takeB_keeps c hK now N 0 s [] (by omega)
    rw [List.nil_append] at this
    exact this
  when := fun s now => whenTo_keeps c hK s now N (Nat.le_refl _)
  len := fun s => sumTo_len c s N (fun i hi => (hK i hi).len (s i))
  bytes := fun s => sumTo_bytes c s N (fun i hi => (hK i hi).bytes (s i))
end Go.Proofs.YtfakjedolecdcaaGreatDoor
namespace Go.Proofs.YtfakjedolecdcaaGreatDoor
variable {E : Prop}

/-- What is held in all bands. -/
def contL {Q : Nat → QM} (c : ∀ i, (Q i).σ → List (Int × Int)) (N : Nat) (s : ∀ i, (Q i).σ) : List (Int × Int) := (List.range N).flatMap (fun i => c i (s i))
theorem flatP_split {f : Nat → List (Int × Int)} {N j : Nat} (hj : j < N) : ((List.range N).flatMap f).Perm (f j ++ ((List.range N).erase j).flatMap f) := by
  have h := List.perm_cons_erase (List.mem_range.2 hj)
  exact (h.flatMap_right f).trans (by rw [List.flatMap_cons])
theorem flatP_same {f g : Nat → List (Int × Int)} {N j : Nat} (h : ∀ i, i ≠ j → f i = g i) : ((List.range N).erase j).flatMap f = ((List.range N).erase j).flatMap g := by
  rw [List.flatMap_def, List.flatMap_def]
  congr 1
  refine List.map_congr_left fun i hi => h i (fun e => ?_)
  subst e
  exact (List.nodup_range.not_mem_erase) hi
theorem contL_upd {Q : Nat → QM} (c : ∀ i, (Q i).σ → List (Int × Int)) {N j : Nat} (s : ∀ i, (Q i).σ) (x : (Q j).σ) (hj : j < N) : ∃ R, (contL c N s).Perm (c j (s j) ++ R) ∧ (contL c N (upd s j x)).Perm (c j x ++ R) := by
  refine ⟨((List.range N).erase j).flatMap (fun i => c i (s i)), flatP_split hj, ?_⟩
  have h := flatP_split (f := fun i => c i (upd s j x i)) hj
  rw [flatP_same (g := fun i => c i (s i)) (fun i hi => by rw [upd_ne _ _ hi]), upd_same] at h
  exact h
theorem takeB_late {Q : Nat → QM} (c : ∀ i, (Q i).σ → List (Int × Int)) {N : Nat} (hK : ∀ i, i < N → (Q i).Late E (c i)) {t now : Int} {n : Nat} (h0 : 0 ≤ t) (h1 : t ≤ now) (h2 : now ≤ 20000000) (hn : n ≤ 1000) : ∀ (m i : Nat) (s : ∀ i, (Q i).σ) (acc : List Hd), m + i = N → (∀ j, i ≤ j → j < N → (Q j).inv t n (s j)) →
    (acc.map nl ++ contL c N s).Perm ((takeB now m i s acc).2.1.map nl ++ ((if (takeB now m i s acc).2.2.2 then [nl (takeB now m i s acc).2.2.1] else []) ++ contL c N (takeB now m i s acc).1)) := by
  intro m
  induction m with
  | zero => intro i s acc _ _; simp [takeB]
  | succ m ih =>
    intro i s acc hm hI
    have hi : i < N := by omega
    have hk := (hK i hi).take now (hI i (Nat.le_refl _) hi) h0 h1 h2 hn
    obtain ⟨R, h1', h2'⟩ := contL_upd c s ((Q i).take (s i) now).1 hi
    cases hok : ((Q i).take (s i) now).2.2.2 with
    | true =>
      rw [takeB_yes hok]
      rw [hok] at hk
      simp only [if_true] at hk ⊢
      rw [List.map_append]
      have h3 : (acc.map nl ++ contL c N s).Perm (acc.map nl ++ ((((Q i).take (s i) now).2.1.map nl ++ ([nl ((Q i).take (s i) now).2.2.1] ++ c i ((Q i).take (s i) now).1)) ++ R)) := List.Perm.append_left _ (h1'.trans (hk.append_right R))
      have h4 : (acc.map nl ++ ((Q i).take (s i) now).2.1.map nl ++ ([nl ((Q i).take (s i) now).2.2.1] ++ contL c N (upd s i ((Q i).take (s i) now).1))).Perm (acc.map nl ++ ((Q i).take (s i) now).2.1.map nl ++ ([nl ((Q i).take (s i) now).2.2.1] ++ (c i ((Q i).take (s i) now).1 ++ R))) := List.Perm.append_left _ (List.Perm.append_left _ h2')
      refine h3.trans (List.Perm.trans ?_ h4.symm)
      simp
    | false =>
      rw [takeB_no hok]
      rw [hok] at hk
      simp only [Bool.false_eq_true, if_false, List.nil_append] at hk
      have h3 : (acc.map nl ++ contL c N s).Perm (acc.map nl ++ ((((Q i).take (s i) now).2.1.map nl ++ c i ((Q i).take (s i) now).1) ++ R)) := List.Perm.append_left _ (h1'.trans (hk.append_right R))
      have h4 : (acc.map nl ++ ((Q i).take (s i) now).2.1.map nl ++ contL c N (upd s i ((Q i).take (s i) now).1)).Perm (acc.map nl ++ ((Q i).take (s i) now).2.1.map nl ++ (c i ((Q i).take (s i) now).1 ++ R)) := List.Perm.append_left _ h2'
      have h5 : (acc.map nl ++ contL c N s).Perm ((acc ++ ((Q i).take (s i) now).2.1).map nl ++ contL c N (upd s i ((Q i).take (s i) now).1)) := by
        rw [List.map_append]
        refine h3.trans (List.Perm.trans ?_ h4.symm)
        simp
      refine h5.trans (ih (i + 1) _ _ (by omega) (fun j hj hjN => ?_))
      rw [upd_ne _ _ (by omega)]
      exact hI j (by omega) hjN
theorem sumTo_lenL {Q : Nat → QM} (c : ∀ i, (Q i).σ → List (Int × Int)) (s : ∀ i, (Q i).σ) : ∀ N, (∀ i, i < N → (Q i).len (s i) ≤ (c i (s i)).length) → sumTo (fun i => (Q i).len (s i)) N ≤ (contL c N s).length := by
  intro N
  induction N with
  | zero => intro _; exact Int.le_refl _
  | succ N ih =>
    intro h
    have h1 := ih (fun i hi => h i (by omega))
    have h2 := h N (by omega)
    have e : (contL c (N + 1) s).length = (contL c N s).length + (c N (s N)).length := by
      simp only [contL, List.range_succ, List.flatMap_append, List.length_append, List.flatMap_cons, List.flatMap_nil, List.append_nil]
    rw [e]
    simp only [sumTo]
    omega
theorem sumTo_fullL {Q : Nat → QM} (c : ∀ i, (Q i).σ → List (Int × Int)) (s : ∀ i, (Q i).σ) : ∀ N, (∀ i, i < N → (Q i).len (s i) = (c i (s i)).length) → sumTo (fun i => (Q i).len (s i)) N = (contL c N s).length := by
  intro N
  induction N with
  | zero => intro _; rfl
  | succ N ih =>
    intro h
    have h1 := ih (fun i hi => h i (by omega))
    have h2 := h N (by omega)
    have e : (contL c (N + 1) s).length = (contL c N s).length + (c N (s N)).length := by
      simp only [contL, List.range_succ, List.flatMap_append, List.length_append, List.flatMap_cons, List.flatMap_nil, List.append_nil]
    rw [e]
    simp only [sumTo]
    omega
theorem sumTo_bytesL {Q : Nat → QM} (c : ∀ i, (Q i).σ → List (Int × Int)) (s : ∀ i, (Q i).σ) : ∀ N, (∀ i, i < N → (Q i).bytes (s i) ≤ sumP (c i (s i))) → sumTo (fun i => (Q i).bytes (s i)) N ≤ sumP (contL c N s) := by
  intro N
  induction N with
  | zero => intro _; exact Int.le_refl _
  | succ N ih =>
    intro h
    have h1 := ih (fun i hi => h i (by omega))
    have h2 := h N (by omega)
    have e : sumP (contL c (N + 1) s) = sumP (contL c N s) + sumP (c N (s N)) := by
      simp only [contL, List.range_succ, List.flatMap_append, sumP_append, List.flatMap_cons, List.flatMap_nil, List.append_nil]
    rw [e]
    simp only [sumTo]
    omega
theorem whenTo_far {Q : Nat → QM} (s : ∀ i, (Q i).σ) (now : Int) : ∀ k j, k ≤ j → (whenTo s now k).1 j = s j := by
  intro k
  induction k with
  | zero => intro j _; rfl
  | succ k ih =>
    intro j hj
    simp only [whenTo]
    rw [upd_ne _ _ (by omega)]
    exact ih j (by omega)
theorem whenTo_late {Q : Nat → QM} (c : ∀ i, (Q i).σ → List (Int × Int)) {N : Nat} (hK : ∀ i, i < N → (Q i).Late E (c i)) (s : ∀ i, (Q i).σ) {t now : Int} {n : Nat} (h0 : 0 ≤ t) (h1 : t ≤ now) (h2 : now ≤ 20000000) (hn : n ≤ 1000) (hI : ∀ i, i < N → (Q i).inv t n (s i)) : ∀ k, k ≤ N → (contL c N s).Perm (contL c N (whenTo s now k).1) := by
  intro k
  induction k with
  | zero => intro _; exact List.Perm.refl _
  | succ k ih =>
    intro hk
    have h0' := ih (by omega)
    have hIk : (Q k).inv t n ((whenTo s now k).1 k) := by rw [whenTo_far s now k k (Nat.le_refl _)]; exact hI k (by omega)
    have hw := (hK k (by omega)).when now hIk h0 h1 h2 hn
    obtain ⟨R, h1', h2'⟩ := contL_upd c (whenTo s now k).1 ((Q k).when ((whenTo s now k).1 k) now).1 (j := k) (N := N) (by omega)
    simp only [whenTo]
    exact h0'.trans (h1'.trans ((hw.append_right R).trans h2'.symm))
theorem bands_late {Q : Nat → QM} {N B ob oo oc : Nat} (c : ∀ i, (Q i).σ → List (Int × Int)) (hK : ∀ i, i < N → (Q i).Late E (c i)) (hN : 1 ≤ N) : (BandsM Q N B ob oo oc).Late E (contL c N) where
  put := by
    intro (s : ∀ i, (Q i).σ) t n now x hI h0 h1 h2 hok hxa hxn hn
    have hj := bandOf_lt hN x
    have hp := (hK _ hj).put now x (hI _ hj) h0 h1 h2 hok hxa hxn hn
    obtain ⟨R, h1', h2'⟩ := contL_upd c s ((Q (bandOf N x)).put (s (bandOf N x)) now x).1 hj
    show (contL c N s ++ [nl x]).Perm (((Q (bandOf N x)).put (s (bandOf N x)) now x).2.map nl ++ contL c N (upd s (bandOf N x) ((Q (bandOf N x)).put (s (bandOf N x)) now x).1))
    generalize (Q (bandOf N x)).put (s (bandOf N x)) now x = T at *
    have h3 : (contL c N s ++ [nl x]).Perm ((c (bandOf N x) (s (bandOf N x)) ++ [nl x]) ++ R) := (h1'.append_right [nl x]).trans (by rw [List.append_assoc, List.append_assoc]; exact List.Perm.append_left _ List.perm_append_comm)
    refine h3.trans ((hp.append_right R).trans ?_)
    rw [List.append_assoc]
    exact List.Perm.append_left _ h2'.symm
  take := by
    intro (s : ∀ i, (Q i).σ) t n now hI h0 h1 h2 hn
    exact takeB_late c hK h0 h1 h2 hn N 0 s [] (by omega) (fun j _ hj => hI j hj)
  when := fun {s t n} now hI h0 h1 h2 hn => whenTo_late c hK s h0 h1 h2 hn hI N (Nat.le_refl _)
  len := fun {s t n} hI => sumTo_lenL c s N (fun i hi => (hK i hi).len (hI i hi))
  bytes := fun {s t n} hI => sumTo_bytesL c s N (fun i hi => (hK i hi).bytes (hI i hi))
  full := fun e {s t n} hI => sumTo_fullL c s N (fun i hi => (hK i hi).full e (hI i hi))
/-- What so many queues each have. -/
def sumK (k : Nat → Nat) : Nat → Nat
  | 0 => 0
  | N + 1 => sumK k N + k N
theorem sumK_ge {k : Nat → Nat} : ∀ {N i : Nat}, i < N → k i ≤ sumK k N := by
  intro N
  induction N with
  | zero => intro i h; omega
  | succ N ih =>
    intro i h
    by_cases e : i = N
    · subst e; show k i ≤ sumK k i + k i; omega
    · have := ih (i := i) (by omega)
      show k i ≤ sumK k N + k N
      omega
theorem sumTo_bd {f : Nat → Int} {k : Nat → Nat} {C : Int} : ∀ {N : Nat}, (∀ i, i < N → 0 ≤ f i ∧ f i ≤ C * k i) → 0 ≤ sumTo f N ∧ sumTo f N ≤ C * sumK k N := by
  intro N
  induction N with
  | zero => intro _; simp [sumTo, sumK]
  | succ N ih =>
    intro h
    have h1 := ih (fun i hi => h i (by omega))
    have h2 := h N (by omega)
    have e : C * ((sumK k (N + 1) : Nat) : Int) = C * (sumK k N : Int) + C * (k N : Int) := by
      show C * ((sumK k N + k N : Nat) : Int) = _
      rw [Int.natCast_add, Int.mul_add]
    rw [e]
    simp only [sumTo]
    omega
theorem takeB_few {Q : Nat → QM} {N : Nat} {k : Nat → Nat} (hT : ∀ i, i < N → (Q i).Tame (k i)) {t now : Int} {n : Nat} (hn : n ≤ 1000) : ∀ (m i : Nat) (s : ∀ i, (Q i).σ) (acc : List Hd), m + i = N → (∀ j, i ≤ j → j < N → (Q j).inv t n (s j)) → acc.length ≤ 5000 * sumK k i →
    (takeB now m i s acc).2.1.length ≤ 5000 * sumK k N := by
  intro m
  induction m with
  | zero =>
    intro i s acc hm _ ha
    obtain rfl : i = N := by omega
    exact ha
  | succ m ih =>
    intro i s acc hm hI ha
    have hi : i < N := by omega
    have hf := (hT i hi).few now (hI i (Nat.le_refl _) hi) hn
    have hs : sumK k (i + 1) = sumK k i + k i := rfl
    have hmo : ∀ j, i + 1 ≤ j → sumK k (i + 1) ≤ sumK k j := by
      intro j hj
      induction j with
      | zero => omega
      | succ j ihj =>
        by_cases e : i = j
        · subst e; exact Nat.le_refl _
        · have := ihj (by omega)
          show _ ≤ sumK k j + k j
          omega
    cases hok : ((Q i).take (s i) now).2.2.2 with
    | true =>
      rw [takeB_yes hok]
      show (acc ++ ((Q i).take (s i) now).2.1).length ≤ _
      have := hmo N (by omega)
      rw [List.length_append]
      omega
    | false =>
      rw [takeB_no hok]
      refine ih (i + 1) _ _ (by omega) (fun j hj hjN => ?_) ?_
      · rw [upd_ne _ _ (by omega)]
        exact hI j (by omega) hjN
      · rw [List.length_append]
        omega
theorem bands_tame {Q : Nat → QM} {N B ob oo oc : Nat} {k : Nat → Nat} (hT : ∀ i, i < N → (Q i).Tame (k i)) : (BandsM Q N B ob oo oc).Tame (sumK k N) where
  mono := fun {t t' n n' s} h h1 h2 i hi => (hT i hi).mono (h i hi) h1 h2
  len := fun {t n s} h hn => ⟨sumTo_bd (fun i hi => ((hT i hi).len (h i hi) hn).1), sumTo_bd (fun i hi => ((hT i hi).len (h i hi) hn).2)⟩
  few := fun {t n s} now h hn => takeB_few hT hn N 0 s [] (by omega) (fun j _ hj => h j hj) (Nat.zero_le _)
theorem bands_small {Q : Nat → QM} {N : Nat} {k : Nat → Nat} (hf : ∀ i, i < N → (Q i).Fine) (hT : ∀ i, i < N → (Q i).Tame (k i)) (hk : sumK k N ≤ 20) (h1 : 1 ≤ N) (h8 : N ≤ 8) : Small Q N where
  fine := hf
  mono := fun i hi {t t' n n' s} h a b => (hT i hi).mono h a b
  len := fun i hi {t n s} h hn => by
    have := (hT i hi).len h hn
    have := sumK_ge (k := k) hi
    omega
  few := fun i hi {t n s} now h hn => by
    have := (hT i hi).few now h hn
    have := sumK_ge (k := k) hi
    omega
  one := h1
  eight := h8
end Go.Proofs.YtfakjedolecdcaaGreatDoor
namespace Go.Proofs.YtfakjedolecdcaaGreatDoor
open Go.RowKit Go.Extern.Stop Go.Stop Go.Extern
variable {E : Prop}

/-- A queue of some kind, and what is known of it. -/
structure AQ where
  M : QM
  cont : M.σ → List (Int × Int)
  k : Nat
  s0 : M.σ
  F : Nat → Prop
structure AQ.Ok (q : AQ) (E : Prop) : Prop where
  fine : q.M.Fine
  late : q.M.Late E q.cont
  tame : q.M.Tame q.k
  inv : q.M.inv 0 0 q.s0
  emp : q.cont q.s0 = []
  one : 1 ≤ q.k
def noAQ : AQ := ⟨FifoM 0 0 0 false, fun (L : List Hd) => L.map nl, 0, ([] : List Hd), fun _ => False⟩
def aqC (q : AQ) : Value := .iface q.M.ty q.M.rv
def aqQ (qs : List AQ) (i : Nat) : QM := (qs.getD i noAQ).M
def aqK (qs : List AQ) : Nat := sumK (fun i => (qs.getD i noAQ).k) qs.length
theorem getD_aq {qs : List AQ} {i : Nat} (h : i < qs.length) : qs[i]? = some (qs.getD i noAQ) := by
  rw [List.getD_eq_getElem?_getD, List.getElem?_eq_getElem h]; rfl
theorem getD_mem {qs : List AQ} {i : Nat} (h : i < qs.length) : qs.getD i noAQ ∈ qs := List.mem_of_getElem? (getD_aq h)
theorem sumK_congr {f g : Nat → Nat} : ∀ {N : Nat}, (∀ i, i < N → f i = g i) → sumK f N = sumK g N := by
  intro N
  induction N with
  | zero => intro _; rfl
  | succ N ih =>
    intro h
    show sumK f N + f N = sumK g N + g N
    rw [ih (fun i hi => h i (by omega)), h N (by omega)]
theorem aqK_snoc (qs : List AQ) (q : AQ) : aqK (qs ++ [q]) = aqK qs + q.k := by
  unfold aqK
  rw [List.length_append]
  show sumK (fun i => ((qs ++ [q]).getD i noAQ).k) qs.length + ((qs ++ [q]).getD qs.length noAQ).k = _
  congr 1
  · refine sumK_congr fun i hi => ?_
    show ((qs ++ [q]).getD i noAQ).k = (qs.getD i noAQ).k
    rw [List.getD_eq_getElem?_getD, List.getElem?_append_left hi, ← List.getD_eq_getElem?_getD]
  · rw [List.getD_eq_getElem?_getD, List.getElem?_append_right (Nat.le_refl _)]
    simp
theorem aqK_ge {qs : List AQ} (h : ∀ q ∈ qs, 1 ≤ q.k) : qs.length ≤ aqK qs := by
  unfold aqK
  have : ∀ N, N ≤ qs.length → N ≤ sumK (fun i => (qs.getD i noAQ).k) N := by
    intro N
    induction N with
    | zero => intro _; exact Nat.zero_le _
    | succ N ih =>
      intro hN
      have h1 := ih (by omega)
      have h2 := h _ (getD_mem (qs := qs) (i := N) (by omega))
      show N + 1 ≤ sumK _ N + (qs.getD N noAQ).k
      omega
  exact this _ (Nat.le_refl _)
theorem QM.Tame.le {M : QM} {k k' : Nat} (h : M.Tame k) (hk : k ≤ k') : M.Tame k' where
  mono := h.mono
  len := fun hi hn => by have := h.len hi hn; omega
  few := fun now hi hn => by have := h.few now hi hn; omega
/-- So many are read. -/
structure GqR (E : Prop) (w : World) (b : Nat) (qs : List AQ) (vv : Value) (wr : World) : Prop where
  row : Seg wr 26 1 vv qs.length (qs.map aqC)
  ok : ∀ q ∈ qs, q.Ok E
  here : ∀ q ∈ qs, q.M.At wr q.F q.s0
  new : ∀ q ∈ qs, ∀ k, q.F k → w.heap.size ≤ k ∧ vv.ownBlock ≠ some k
  dis : ∀ (i i' : Nat) (q q' : AQ) (k : Nat), qs[i]? = some q → qs[i']? = some q' → q.F k → q'.F k → i = i'
  own : ∀ g, vv.ownBlock = some g → w.heap.size ≤ g
  ot : Ot (fun k => k = b) w wr
section
variable {w wr w1 w3 : World} {b : Nat} {qs : List AQ} {vv : Value}
theorem GqR.ots (h : GqR E w b qs vv wr) (hb : b < w.heap.size) (ho : Ot (fun k => k = b) wr w1) : GqR E w b qs vv w1 :=
  ⟨h.row.oth ho (fun g hg e => by have := h.own g hg; omega), h.ok, fun q hq => (h.ok q hq).fine.kept (h.here q hq) (fun k hk => ho.block k ((h.ok q hq).fine.low (h.here q hq) k hk) (fun e => by have := (h.new q hq k hk).1; omega)), h.new, h.dis, h.own, h.ot.trans ho⟩
theorem GqR.step (h : GqR E w b qs vv wr) (hb : b < w.heap.size) {g goff gcap : Nat} {q : AQ} {o : Obj} (hq : q.Ok E) (hat : q.M.At w1 q.F q.s0) (hF : ∀ k, q.F k → wr.heap.size ≤ k) (ho : Ot (fun k => k = b) wr w1)
    (hsg : Seg w3 26 1 (.slice (some ⟨g, goff, none⟩) (qs.length + 1) gcap) (qs.length + 1) (qs.map aqC ++ [aqC q])) (hg : (w1.alloc o).grownBy w3 vv.ownBlock) (ha : vv.ownBlock = some g ∨ (w1.alloc o).heap.size ≤ g) :
    GqR E w b (qs ++ [q]) (.slice (some ⟨g, goff, none⟩) (qs.length + 1) gcap) w3 := by
  have h1 := h.ots hb ho
  have hsz : w1.heap.size + 1 ≤ w3.heap.size := by have := hg.size; simpa using this
  have hws := h.ot.size
  have hws1 := ho.size
  have hvl : ∀ k, vv.ownBlock = some k → k < wr.heap.size := fun k e => h.row.lt e
  have kept : ∀ k, k < w1.heap.size → vv.ownBlock ≠ some k → w3.heap[k]? = w1.heap[k]? := fun k hk hv => (hg.block k (by simp; omega) (fun e => hv e.symm)).trans (Below.heap_alloc _ _ _ hk)
  have hgo : ∀ p ∈ qs, ∀ k, p.F k → g ≠ k := fun p hp k hk e => by
    rcases ha with ha | ha
    · exact (h.new p hp k hk).2 (e ▸ ha)
    · have := (h.ok p hp).fine.low (h1.here p hp) k hk; simp at ha; omega
  have hgq : ∀ k, q.F k → g ≠ k := fun k hk e => by
    have h2 := hF k hk
    have h3 := hq.fine.low hat k hk
    rcases ha with ha | ha
    · have := hvl g ha; omega
    · simp at ha; omega
  refine ⟨?_, ?_, ?_, ?_, ?_, ?_, (h1.ot.alloc _).grown hg (fun k hk => Or.inr (h.own k hk))⟩
  · rw [List.length_append, List.map_append]; exact hsg
  · intro p hp
    rcases List.mem_append.1 hp with hp | hp
    · exact h.ok p hp
    · rw [List.mem_singleton.1 hp]; exact hq
  · intro p hp
    rcases List.mem_append.1 hp with hp | hp
    · exact (h.ok p hp).fine.kept (h1.here p hp) (fun k hk => kept k ((h.ok p hp).fine.low (h1.here p hp) k hk) (h1.new p hp k hk).2)
    · rw [List.mem_singleton.1 hp]
      exact hq.fine.kept hat (fun k hk => kept k (hq.fine.low hat k hk) (fun e => by have := hvl k e; have := hF k hk; omega))
  · intro p hp k hk
    simp only [Value.ownBlock, ne_eq, Option.some.injEq]
    rcases List.mem_append.1 hp with hp | hp
    · exact ⟨(h.new p hp k hk).1, hgo p hp k hk⟩
    · rw [List.mem_singleton.1 hp] at hk
      exact ⟨by have := hF k hk; omega, hgq k hk⟩
  · have hnew : ∀ (i : Nat) (p : AQ), qs[i]? = some p → ∀ k, p.F k → ¬ q.F k := fun i p hp k hk hk' => by
      have h2 := (h.ok p (List.mem_of_getElem? hp)).fine.low (h.here p (List.mem_of_getElem? hp)) k hk
      have h3 := hF k hk'
      omega
    intro i i' p p' k hp hp' hk hk'
    by_cases hi : i < qs.length
    · rw [List.getElem?_append_left hi] at hp
      by_cases hi' : i' < qs.length
      · rw [List.getElem?_append_left hi'] at hp'
        exact h.dis i i' p p' k hp hp' hk hk'
      · rw [List.getElem?_append_right (by omega)] at hp'
        have e : p' = q := by
          have := List.mem_of_getElem? hp'
          exact List.mem_singleton.1 this
        subst e
        exact absurd hk' (hnew i p hp k hk)
    · rw [List.getElem?_append_right (by omega)] at hp
      have e : p = q := by
        have := List.mem_of_getElem? hp
        exact List.mem_singleton.1 this
      subst e
      by_cases hi' : i' < qs.length
      · rw [List.getElem?_append_left hi'] at hp'
        exact absurd hk (hnew i' p' hp' k hk')
      · rw [List.getElem?_append_right (by omega)] at hp'
        have h4 := (List.getElem?_eq_some_iff.1 hp).1
        have h5 := (List.getElem?_eq_some_iff.1 hp').1
        simp at h4 h5
        omega
  · intro k hk
    simp only [Value.ownBlock, Option.some.injEq] at hk
    subst hk
    rcases ha with ha | ha
    · exact h.own _ ha
    · simp at ha; omega
end
theorem GqR.bat {w w1 w2 : World} {b : Nat} {qs : List AQ} {N B g goff gcap : Nat} {vv : Value} (h : GqR E w b qs vv w1) (hN : qs.length = N) (hb : Below w1.heap.size w1 w2) (hblk : w2.heap[B]? = some (.cells #[.slice (some ⟨g, goff, none⟩) N gcap] 176 (0, 0))) (hrow : QRowAt w2 g goff N (fun i => ((aqQ qs i).ty, (aqQ qs i).rv))) (hg : w1.heap.size ≤ g) (hgB : g < B) :
    BAt (aqQ qs) N B g goff gcap w2 (fun i => (qs.getD i noAQ).F) (fun i => (qs.getD i noAQ).s0) := by
  refine ⟨hblk, hrow, by have := lt_of_block hblk; omega, fun i hi => ?_, fun i j k hi hj e1 e2 => h.dis i j _ _ k (getD_aq (by omega)) (getD_aq (by omega)) e1 e2, fun i hi => ?_⟩
  · have hm := getD_mem (qs := qs) (i := i) (by omega)
    exact (h.ok _ hm).fine.kept (h.here _ hm) (fun k hk => hb.block k ((h.ok _ hm).fine.low (h.here _ hm) k hk))
  · have hm := getD_mem (qs := qs) (i := i) (by omega)
    have hl := (h.ok _ hm).fine.low (h.here _ hm)
    exact ⟨fun hk => by have := hl _ hk; omega, fun hk => by have := hl _ hk; omega⟩
/-- Its cells as NewBands wants them. -/
theorem GqR.rowAt {w w1 : World} {b : Nat} {qs : List AQ} {g goff n gcap : Nat} (h : GqR E w b qs (.slice (some ⟨g, goff, none⟩) n gcap) w1) : QRowAt w1 g goff qs.length (fun i => ((aqQ qs i).ty, (aqQ qs i).rv)) := by
  rcases h.row.form with ⟨h1, _, _⟩ | ⟨b', off', cap', h1, _, _, _, h5⟩
  · simp at h1
  · simp only [Value.slice.injEq, Option.some.injEq, Addr.mk.injEq] at h1
    obtain ⟨⟨rfl, rfl, _⟩, _, _⟩ := h1
    intro i hi
    refine h5 i _ ?_
    rw [List.getElem?_map, getD_aq hi]
    rfl
theorem opens_gen {b n : Nat} {rest : List Value} {v : Value} {L : List (List UInt8 × Nat)} (w : World) (h : RdAt w b 65 n rest v L) :
    Calls Tryz.prog 66 #[.pointer (some ⟨b, 0, none⟩)] w fun e w' => ∃ ev, e = .returned ev ∧ RdL w w' b n rest v L L.tail ∧ (ev = .nilIface ∨ ∃ B, ev = errV B) := by
  obtain ⟨o, hx⟩ : ∃ o, L.headD (endS n) = o := ⟨_, rfl⟩
  have HNX : Hid (Calls Tryz.prog 20 #[.pointer (some ⟨b, 0, none⟩)] w fun e w' => e = .returned (.agg #[.string ⟨o.1.toArray⟩, .int .i64 o.2]) ∧ RdL w w' b n rest v L L.tail) := by
    refine (sgnext_any w h).mono ?_
    rw [hx]
    rintro e w' ⟨rfl, v2, h1, h2, h3⟩
    exact ⟨rfl, v2, h1, h2, fun y hy => List.mem_of_mem_tail hy, h3⟩
  clear h hx
  cases ho : (o.1 == [40]) with
  | true =>
    go_enter Tryz.func66, Tryz.ntmps66
    go_wp2_with (go_at_call 20; refine HNX.out.mono ?_; rintro e w1 ⟨rfl, hr1⟩)
    go_ret
    obtain ⟨v2, h1, h2, h3, h4⟩ := hr1
    exact ⟨_, rfl, ⟨v2, h1.below (below_alloc_ (Below.refl _ _) _), h2, h3, h4.alloc _⟩, Or.inl rfl⟩
  | false =>
    go_enter Tryz.func66, Tryz.ntmps66
    go_wp2_with (first | (go_at_call 20; refine HNX.out.mono ?_; rintro e w1 ⟨rfl, hr1⟩) | (go_at_call 22; refine (wrongS_any _ _ _ _).mono ?_; rintro e w2 ⟨B, rfl, hb2⟩))
    go_ret
    obtain ⟨v2, h1, h2, h3, h4⟩ := hr1
    exact ⟨_, rfl, ⟨v2, (h1.below (below_alloc_ (Below.refl _ _) _)).below hb2, h2, h3, (h4.alloc _).trans (Ot.of_below hb2)⟩, Or.inr ⟨B, rfl⟩⟩
end Go.Proofs.YtfakjedolecdcaaGreatDoor
namespace Go.Proofs.YtfakjedolecdcaaGreatDoor
def roundsB : List UInt8 := [114, 111, 117, 110, 100, 115]
end Go.Proofs.YtfakjedolecdcaaGreatDoor
