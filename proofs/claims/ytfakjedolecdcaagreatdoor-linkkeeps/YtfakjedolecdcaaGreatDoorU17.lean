/-
  Bands of queues neither lose nor make a packet where each of the queues doesn't. Mathematics of the model alone.
  Bands of queues of which none loses or makes a packet, some losses told late: nor do they. Mathematics of the model alone.
  Numbers that lie in memory. Nothing is claimed here by itself.
  bucket.When: the first time at which so many bytes are in it, or never; Take beyond MaxTime: nothing is done. Conditions: a bucket that may be, a level within its room, times up to MaxTime (When).
-/
import Derived.Test.YtfakjedolecdcaaGreatDoorU16
import Derived.Test.YtfakjedolecdcaaGreatDoorU8
import Derived.Test.YtfakjedolecdcaaGreatDoorU14
import Derived.Test.YtfakjedolecdcaaGreatDoorU7
import Derived.Test.YtfakjedolecdcaaGreatDoorU10
namespace Go.Proofs.YtfakjedolecdcaaGreatDoor

/-- What waits in all bands. -/
def contB {Q : Nat → QM} (c : ∀ i, (Q i).σ → List Hd) (N : Nat) (s : ∀ i, (Q i).σ) : List Hd := (List.range N).flatMap (fun i => c i (s i))
theorem flat_split {f : Nat → List Hd} {N j : Nat} (hj : j < N) : ((List.range N).flatMap f).Perm (f j ++ ((List.range N).erase j).flatMap f) := by
  have h := List.perm_cons_erase (List.mem_range.2 hj)
  exact (h.flatMap_right f).trans (by rw [List.flatMap_cons])
theorem flat_same {f g : Nat → List Hd} {N j : Nat} (h : ∀ i, i ≠ j → f i = g i) : ((List.range N).erase j).flatMap f = ((List.range N).erase j).flatMap g := by
  rw [List.flatMap_def, List.flatMap_def]
  congr 1
  refine List.map_congr_left fun i hi => h i (fun e => ?_)
  subst e
  exact (List.nodup_range.not_mem_erase) hi
theorem takeB_yes {Q : Nat → QM} {now : Int} {m i : Nat} {s : ∀ i, (Q i).σ} {acc : List Hd} (h : ((Q i).take (s i) now).2.2.2 = true) : takeB now (m + 1) i s acc = (upd s i ((Q i).take (s i) now).1, acc ++ ((Q i).take (s i) now).2.1, ((Q i).take (s i) now).2.2.1, true) := by
  simp only [takeB]
  rw [if_pos h]
theorem takeB_no {Q : Nat → QM} {now : Int} {m i : Nat} {s : ∀ i, (Q i).σ} {acc : List Hd} (h : ((Q i).take (s i) now).2.2.2 = false) : takeB now (m + 1) i s acc = takeB now m (i + 1) (upd s i ((Q i).take (s i) now).1) (acc ++ ((Q i).take (s i) now).2.1) := by
  simp only [takeB]
  rw [if_neg (by rw [h]; decide)]
theorem contB_upd {Q : Nat → QM} (c : ∀ i, (Q i).σ → List Hd) {N j : Nat} (s : ∀ i, (Q i).σ) (x : (Q j).σ) (hj : j < N) : ∃ R, (contB c N s).Perm (c j (s j) ++ R) ∧ (contB c N (upd s j x)).Perm (c j x ++ R) := by
  refine ⟨((List.range N).erase j).flatMap (fun i => c i (s i)), flat_split hj, ?_⟩
  have h := flat_split (f := fun i => c i (upd s j x i)) hj
  rw [flat_same (g := fun i => c i (s i)) (fun i hi => by rw [upd_ne _ _ hi]), upd_same] at h
  exact h
theorem takeB_keeps {Q : Nat → QM} (c : ∀ i, (Q i).σ → List Hd) {N : Nat} (hK : ∀ i, i < N → (Q i).Keeps (c i)) (now : Int) : ∀ (m i : Nat) (s : ∀ i, (Q i).σ) (acc : List Hd), m + i = N →
    (acc ++ contB c N s).Perm ((takeB now m i s acc).2.1 ++ (if (takeB now m i s acc).2.2.2 then [(takeB now m i s acc).2.2.1] else []) ++ contB c N (takeB now m i s acc).1) := by
  intro m
  induction m with
  | zero => intro i s acc _; simp [takeB]
  | succ m ih =>
    intro i s acc hm
    have hi : i < N := by omega
    have hk := (hK i hi).take (s i) now
    obtain ⟨R, h1, h2⟩ := contB_upd c s ((Q i).take (s i) now).1 hi
    cases hok : ((Q i).take (s i) now).2.2.2 with
    | true =>
      rw [takeB_yes hok]
      rw [hok] at hk
      simp only [if_true] at hk ⊢
      have h3 : (acc ++ contB c N s).Perm (acc ++ ((((Q i).take (s i) now).2.1 ++ [((Q i).take (s i) now).2.2.1] ++ c i ((Q i).take (s i) now).1) ++ R)) := List.Perm.append_left acc (h1.trans (hk.append_right R))
      have h4 : (acc ++ ((Q i).take (s i) now).2.1 ++ [((Q i).take (s i) now).2.2.1] ++ contB c N (upd s i ((Q i).take (s i) now).1)).Perm (acc ++ ((Q i).take (s i) now).2.1 ++ [((Q i).take (s i) now).2.2.1] ++ (c i ((Q i).take (s i) now).1 ++ R)) := List.Perm.append_left _ h2
      refine h3.trans (List.Perm.trans ?_ h4.symm)
      simp
    | false =>
      rw [takeB_no hok]
      rw [hok] at hk
      simp only [Bool.false_eq_true, if_false, List.append_nil] at hk
      have h3 : (acc ++ contB c N s).Perm (acc ++ ((((Q i).take (s i) now).2.1 ++ c i ((Q i).take (s i) now).1) ++ R)) := List.Perm.append_left acc (h1.trans (hk.append_right R))
      have h4 : (acc ++ ((Q i).take (s i) now).2.1 ++ contB c N (upd s i ((Q i).take (s i) now).1)).Perm (acc ++ ((Q i).take (s i) now).2.1 ++ (c i ((Q i).take (s i) now).1 ++ R)) := List.Perm.append_left _ h2
      have h5 : (acc ++ contB c N s).Perm (acc ++ ((Q i).take (s i) now).2.1 ++ contB c N (upd s i ((Q i).take (s i) now).1)) := by
        refine h3.trans (List.Perm.trans ?_ h4.symm)
        simp
      exact h5.trans (ih (i + 1) _ _ (by omega))
theorem sumTo_len {Q : Nat → QM} (c : ∀ i, (Q i).σ → List Hd) (s : ∀ i, (Q i).σ) : ∀ N, (∀ i, i < N → (Q i).len (s i) = (c i (s i)).length) → sumTo (fun i => (Q i).len (s i)) N = (contB c N s).length := by
  intro N
  induction N with
  | zero => intro _; rfl
  | succ N ih =>
    intro h
    simp only [sumTo, contB, List.range_succ, List.flatMap_append, List.length_append]
    rw [ih (fun i hi => h i (by omega)), h N (by omega)]
    simp [contB]
theorem sumTo_bytes {Q : Nat → QM} (c : ∀ i, (Q i).σ → List Hd) (s : ∀ i, (Q i).σ) : ∀ N, (∀ i, i < N → (Q i).bytes (s i) = sumL (c i (s i))) → sumTo (fun i => (Q i).bytes (s i)) N = sumL (contB c N s) := by
  intro N
  induction N with
  | zero => intro _; rfl
  | succ N ih =>
    intro h
    simp only [sumTo, contB, List.range_succ, List.flatMap_append, sumL_append]
    rw [ih (fun i hi => h i (by omega)), h N (by omega)]
    simp [contB]
theorem whenTo_keeps {Q : Nat → QM} (c : ∀ i, (Q i).σ → List Hd) {N : Nat} (hK : ∀ i, i < N → (Q i).Keeps (c i)) (s : ∀ i, (Q i).σ) (now : Int) : ∀ k, k ≤ N → (contB c N s).Perm (contB c N (whenTo s now k).1) := by
  intro k
  induction k with
  | zero => intro _; exact List.Perm.refl _
  | succ k ih =>
    intro hk
    have h0 := ih (by omega)
    have hw := (hK k (by omega)).when ((whenTo s now k).1 k) now
    obtain ⟨R, h1, h2⟩ := contB_upd c (whenTo s now k).1 ((Q k).when ((whenTo s now k).1 k) now).1 (j := k) (N := N) (by omega)
    simp only [whenTo]
    exact h0.trans (h1.trans ((hw.append_right R).trans h2.symm))
theorem bands_keeps {Q : Nat → QM} {N B ob oo oc : Nat} (c : ∀ i, (Q i).σ → List Hd) (hK : ∀ i, i < N → (Q i).Keeps (c i)) (hN : 1 ≤ N) : (BandsM Q N B ob oo oc).Keeps (contB c N) where
  put := by
    intro (s : ∀ i, (Q i).σ) now x
    have hj := bandOf_lt hN x
    have hp := (hK _ hj).put (s (bandOf N x)) now x
    obtain ⟨R, h1, h2⟩ := contB_upd c s ((Q (bandOf N x)).put (s (bandOf N x)) now x).1 hj
    show (contB c N s ++ [x]).Perm (((Q (bandOf N x)).put (s (bandOf N x)) now x).2 ++ contB c N (upd s (bandOf N x) ((Q (bandOf N x)).put (s (bandOf N x)) now x).1))
    generalize (Q (bandOf N x)).put (s (bandOf N x)) now x = T at *
    have h3 : (contB c N s ++ [x]).Perm ((c (bandOf N x) (s (bandOf N x)) ++ [x]) ++ R) := (h1.append_right [x]).trans (by rw [List.append_assoc, List.append_assoc]; exact List.Perm.append_left _ List.perm_append_comm)
    refine h3.trans ((hp.append_right R).trans ?_)
    rw [List.append_assoc]
    exact List.Perm.append_left _ h2.symm
  take := by
    intro (s : ∀ i, (Q i).σ) now
    have := takeB_keeps c hK now N 0 s [] (by omega)
    rw [List.nil_append] at this
    exact this
  when := fun s now => whenTo_keeps c hK s now N (Nat.le_refl _)
  len := fun s => sumTo_len c s N (fun i hi => (hK i hi).len (s i))
  bytes := fun s => sumTo_bytes c s N (fun i hi => (hK i hi).bytes (s i))
end Go.Proofs.YtfakjedolecdcaaGreatDoor
namespace Go.Proofs.YtfakjedolecdcaaGreatDoor
variable {E : Prop}

/-- What is held in all bands. -/
def contL {Q : Nat → QM} (c : ∀ i, (Q i).σ → List (Int × Int)) (N : Nat) (s : ∀ i, (Q i).σ) : List (Int × Int) := (List.range N).flatMap (fun i => c i (s i))
theorem flatP_split {f : Nat → List (Int × Int)} {N j : Nat} (hj : j < N) : ((List.range N).flatMap f).Perm (f j ++ ((List.range N).erase j).flatMap f) := by
  have h := List.perm_cons_erase (List.mem_range.2 hj)
  exact (h.flatMap_right f).trans (by rw [List.flatMap_cons])
theorem flatP_same {f g : Nat → List (Int × Int)} {N j : Nat} (h : ∀ i, i ≠ j → f i = g i) : ((List.range N).erase j).flatMap f = ((List.range N).erase j).flatMap g := by
  rw [List.flatMap_def, List.flatMap_def]
  congr 1
  refine List.map_congr_left fun i hi => h i (fun e => ?_)
  subst e
  exact (List.nodup_range.not_mem_erase) hi
theorem contL_upd {Q : Nat → QM} (c : ∀ i, (Q i).σ → List (Int × Int)) {N j : Nat} (s : ∀ i, (Q i).σ) (x : (Q j).σ) (hj : j < N) : ∃ R, (contL c N s).Perm (c j (s j) ++ R) ∧ (contL c N (upd s j x)).Perm (c j x ++ R) := by
  refine ⟨((List.range N).erase j).flatMap (fun i => c i (s i)), flatP_split hj, ?_⟩
  have h := flatP_split (f := fun i => c i (upd s j x i)) hj
  rw [flatP_same (g := fun i => c i (s i)) (fun i hi => by rw [upd_ne _ _ hi]), upd_same] at h
  exact h
theorem takeB_late {Q : Nat → QM} (c : ∀ i, (Q i).σ → List (Int × Int)) {N : Nat} (hK : ∀ i, i < N → (Q i).Late E (c i)) {t now : Int} {n : Nat} (h0 : 0 ≤ t) (h1 : t ≤ now) (h2 : now ≤ 20000000) (hn : n ≤ 1000) : ∀ (m i : Nat) (s : ∀ i, (Q i).σ) (acc : List Hd), m + i = N → (∀ j, i ≤ j → j < N → (Q j).inv t n (s j)) →
    (acc.map nl ++ contL c N s).Perm ((takeB now m i s acc).2.1.map nl ++ ((if (takeB now m i s acc).2.2.2 then [nl (takeB now m i s acc).2.2.1] else []) ++ contL c N (takeB now m i s acc).1)) := by
  intro m
  induction m with
  | zero => intro i s acc _ _; simp [takeB]
  | succ m ih =>
    intro i s acc hm hI
    have hi : i < N := by omega
    have hk := (hK i hi).take now (hI i (Nat.le_refl _) hi) h0 h1 h2 hn
    obtain ⟨R, h1', h2'⟩ := contL_upd c s ((Q i).take (s i) now).1 hi
    cases hok : ((Q i).take (s i) now).2.2.2 with
    | true =>
      rw [takeB_yes hok]
      rw [hok] at hk
      simp only [if_true] at hk ⊢
      rw [List.map_append]
      have h3 : (acc.map nl ++ contL c N s).Perm (acc.map nl ++ ((((Q i).take (s i) now).2.1.map nl ++ ([nl ((Q i).take (s i) now).2.2.1] ++ c i ((Q i).take (s i) now).1)) ++ R)) := List.Perm.append_left _ (h1'.trans (hk.append_right R))
      have h4 : (acc.map nl ++ ((Q i).take (s i) now).2.1.map nl ++ ([nl ((Q i).take (s i) now).2.2.1] ++ contL c N (upd s i ((Q i).take (s i) now).1))).Perm (acc.map nl ++ ((Q i).take (s i) now).2.1.map nl ++ ([nl ((Q i).take (s i) now).2.2.1] ++ (c i ((Q i).take (s i) now).1 ++ R))) := List.Perm.append_left _ (List.Perm.append_left _ h2')
      refine h3.trans (List.Perm.trans ?_ h4.symm)
      simp
    | false =>
      rw [takeB_no hok]
      rw [hok] at hk
      simp only [Bool.false_eq_true, if_false, List.nil_append] at hk
      have h3 : (acc.map nl ++ contL c N s).Perm (acc.map nl ++ ((((Q i).take (s i) now).2.1.map nl ++ c i ((Q i).take (s i) now).1) ++ R)) := List.Perm.append_left _ (h1'.trans (hk.append_right R))
      have h4 : (acc.map nl ++ ((Q i).take (s i) now).2.1.map nl ++ contL c N (upd s i ((Q i).take (s i) now).1)).Perm (acc.map nl ++ ((Q i).take (s i) now).2.1.map nl ++ (c i ((Q i).take (s i) now).1 ++ R)) := List.Perm.append_left _ h2'
      have h5 : (acc.map nl ++ contL c N s).Perm ((acc ++ ((Q i).take (s i) now).2.1).map nl ++ contL c N (upd s i ((Q i).take (s i) now).1)) := by
        rw [List.map_append]
        refine h3.trans (List.Perm.trans ?_ h4.symm)
        simp
      refine h5.trans (ih (i + 1) _ _ (by omega) (fun j hj hjN => ?_))
      rw [upd_ne _ _ (by omega)]
      exact hI j (by omega) hjN
theorem sumTo_lenL {Q : Nat → QM} (c : ∀ i, (Q i).σ → List (Int × Int)) (s : ∀ i, (Q i).σ) : ∀ N, (∀ i, i < N → (Q i).len (s i) ≤ (c i (s i)).length) → sumTo (fun i => (Q i).len (s i)) N ≤ (contL c N s).length := by
  intro N
  induction N with
  | zero => intro _; exact Int.le_refl _
  | succ N ih =>
    intro h
    have h1 := ih (fun i hi => h i (by omega))
    have h2 := h N (by omega)
    have e : (contL c (N + 1) s).length = (contL c N s).length + (c N (s N)).length := by
      simp only [contL, List.range_succ, List.flatMap_append, List.length_append, List.flatMap_cons, List.flatMap_nil, List.append_nil]
    rw [e]
    simp only [sumTo]
    omega
theorem sumTo_fullL {Q : Nat → QM} (c : ∀ i, (Q i).σ → List (Int × Int)) (s : ∀ i, (Q i).σ) : ∀ N, (∀ i, i < N → (Q i).len (s i) = (c i (s i)).length) → sumTo (fun i => (Q i).len (s i)) N = (contL c N s).length := by
  intro N
  induction N with
  | zero => intro _; rfl
  | succ N ih =>
    intro h
    have h1 := ih (fun i hi => h i (by omega))
    have h2 := h N (by omega)
    have e : (contL c (N + 1) s).length = (contL c N s).length + (c N (s N)).length := by
      simp only [contL, List.range_succ, List.flatMap_append, List.length_append, List.flatMap_cons, List.flatMap_nil, List.append_nil]
    rw [e]
    simp only [sumTo]
    omega
theorem sumTo_bytesL {Q : Nat → QM} (c : ∀ i, (Q i).σ → List (Int × Int)) (s : ∀ i, (Q i).σ) : ∀ N, (∀ i, i < N → (Q i).bytes (s i) ≤ sumP (c i (s i))) → sumTo (fun i => (Q i).bytes (s i)) N ≤ sumP (contL c N s) := by
  intro N
  induction N with
  | zero => intro _; exact Int.le_refl _
  | succ N ih =>
    intro h
    have h1 := ih (fun i hi => h i (by omega))
    have h2 := h N (by omega)
    have e : sumP (contL c (N + 1) s) = sumP (contL c N s) + sumP (c N (s N)) := by
      simp only [contL, List.range_succ, List.flatMap_append, sumP_append, List.flatMap_cons, List.flatMap_nil, List.append_nil]
    rw [e]
    simp only [sumTo]
    omega
theorem whenTo_far {Q : Nat → QM} (s : ∀ i, (Q i).σ) (now : Int) : ∀ k j, k ≤ j → (whenTo s now k).1 j = s j := by
  intro k
  induction k with
  | zero => intro j _; rfl
  | succ k ih =>
    intro j hj
    simp only [whenTo]
    rw [upd_ne _ _ (by omega)]
    exact ih j (by omega)
theorem whenTo_late {Q : Nat → QM} (c : ∀ i, (Q i).σ → List (Int × Int)) {N : Nat} (hK : ∀ i, i < N → (Q i).Late E (c i)) (s : ∀ i, (Q i).σ) {t now : Int} {n : Nat} (h0 : 0 ≤ t) (h1 : t ≤ now) (h2 : now ≤ 20000000) (hn : n ≤ 1000) (hI : ∀ i, i < N → (Q i).inv t n (s i)) : ∀ k, k ≤ N → (contL c N s).Perm (contL c N (whenTo s now k).1) := by
  intro k
  induction k with
  | zero => intro _; exact List.Perm.refl _
  | succ k ih =>
    intro hk
    have h0' := ih (by omega)
    have hIk : (Q k).inv t n ((whenTo s now k).1 k) := by rw [whenTo_far s now k k (Nat.le_refl _)]; exact hI k (by omega)
    have hw := (hK k (by omega)).when now hIk h0 h1 h2 hn
    obtain ⟨R, h1', h2'⟩ := contL_upd c (whenTo s now k).1 ((Q k).when ((whenTo s now k).1 k) now).1 (j := k) (N := N) (by omega)
    simp only [whenTo]
    exact h0'.trans (h1'.trans ((hw.append_right R).trans h2'.symm))
theorem bands_late {Q : Nat → QM} {N B ob oo oc : Nat} (c : ∀ i, (Q i).σ → List (Int × Int)) (hK : ∀ i, i < N → (Q i).Late E (c i)) (hN : 1 ≤ N) : (BandsM Q N B ob oo oc).Late E (contL c N) where
  put := by
    intro (s : ∀ i, (Q i).σ) t n now x hI h0 h1 h2 hok hxa hxn hn
    have hj := bandOf_lt hN x
    have hp := (hK _ hj).put now x (hI _ hj) h0 h1 h2 hok hxa hxn hn
    obtain ⟨R, h1', h2'⟩ := contL_upd c s ((Q (bandOf N x)).put (s (bandOf N x)) now x).1 hj
    show (contL c N s ++ [nl x]).Perm (((Q (bandOf N x)).put (s (bandOf N x)) now x).2.map nl ++ contL c N (upd s (bandOf N x) ((Q (bandOf N x)).put (s (bandOf N x)) now x).1))
    generalize (Q (bandOf N x)).put (s (bandOf N x)) now x = T at *
    have h3 : (contL c N s ++ [nl x]).Perm ((c (bandOf N x) (s (bandOf N x)) ++ [nl x]) ++ R) := (h1'.append_right [nl x]).trans (by rw [List.append_assoc, List.append_assoc]; exact List.Perm.append_left _ List.perm_append_comm)
    refine h3.trans ((hp.append_right R).trans ?_)
    rw [List.append_assoc]
    exact List.Perm.append_left _ h2'.symm
  take := by
    intro (s : ∀ i, (Q i).σ) t n now hI h0 h1 h2 hn
    exact takeB_late c hK h0 h1 h2 hn N 0 s [] (by omega) (fun j _ hj => hI j hj)
  when := fun {s t n} now hI h0 h1 h2 hn => whenTo_late c hK s h0 h1 h2 hn hI N (Nat.le_refl _)
  len := fun {s t n} hI => sumTo_lenL c s N (fun i hi => (hK i hi).len (hI i hi))
  bytes := fun {s t n} hI => sumTo_bytesL c s N (fun i hi => (hK i hi).bytes (hI i hi))
  full := fun e {s t n} hI => sumTo_fullL c s N (fun i hi => (hK i hi).full e (hI i hi))
/-- What so many queues each have. -/
def sumK (k : Nat → Nat) : Nat → Nat
  | 0 => 0
  | N + 1 => sumK k N + k N
theorem sumK_ge {k : Nat → Nat} : ∀ {N i : Nat}, i < N → k i ≤ sumK k N := by
  intro N
  induction N with
  | zero => intro i h; omega
  | succ N ih =>
    intro i h
    by_cases e : i = N
    · subst e; show k i ≤ sumK k i + k i; omega
    · have := ih (i := i) (by omega)
      show k i ≤ sumK k N + k N
      omega
theorem sumTo_bd {f : Nat → Int} {k : Nat → Nat} {C : Int} : ∀ {N : Nat}, (∀ i, i < N → 0 ≤ f i ∧ f i ≤ C * k i) → 0 ≤ sumTo f N ∧ sumTo f N ≤ C * sumK k N := by
  intro N
  induction N with
  | zero => intro _; simp [sumTo, sumK]
  | succ N ih =>
    intro h
    have h1 := ih (fun i hi => h i (by omega))
    have h2 := h N (by omega)
    have e : C * ((sumK k (N + 1) : Nat) : Int) = C * (sumK k N : Int) + C * (k N : Int) := by
      show C * ((sumK k N + k N : Nat) : Int) = _
      rw [Int.natCast_add, Int.mul_add]
    rw [e]
    simp only [sumTo]
    omega
theorem takeB_few {Q : Nat → QM} {N : Nat} {k : Nat → Nat} (hT : ∀ i, i < N → (Q i).Tame (k i)) {t now : Int} {n : Nat} (hn : n ≤ 1000) : ∀ (m i : Nat) (s : ∀ i, (Q i).σ) (acc : List Hd), m + i = N → (∀ j, i ≤ j → j < N → (Q j).inv t n (s j)) → acc.length ≤ 5000 * sumK k i →
    (takeB now m i s acc).2.1.length ≤ 5000 * sumK k N := by
  intro m
  induction m with
  | zero =>
    intro i s acc hm _ ha
    obtain rfl : i = N := by omega
    exact ha
  | succ m ih =>
    intro i s acc hm hI ha
    have hi : i < N := by omega
    have hf := (hT i hi).few now (hI i (Nat.le_refl _) hi) hn
    have hs : sumK k (i + 1) = sumK k i + k i := rfl
    have hmo : ∀ j, i + 1 ≤ j → sumK k (i + 1) ≤ sumK k j := by
      intro j hj
      induction j with
      | zero => omega
      | succ j ihj =>
        by_cases e : i = j
        · subst e; exact Nat.le_refl _
        · have := ihj (by omega)
          show _ ≤ sumK k j + k j
          omega
    cases hok : ((Q i).take (s i) now).2.2.2 with
    | true =>
      rw [takeB_yes hok]
      show (acc ++ ((Q i).take (s i) now).2.1).length ≤ _
      have := hmo N (by omega)
      rw [List.length_append]
      omega
    | false =>
      rw [takeB_no hok]
      refine ih (i + 1) _ _ (by omega) (fun j hj hjN => ?_) ?_
      · rw [upd_ne _ _ (by omega)]
        exact hI j (by omega) hjN
      · rw [List.length_append]
        omega
theorem bands_tame {Q : Nat → QM} {N B ob oo oc : Nat} {k : Nat → Nat} (hT : ∀ i, i < N → (Q i).Tame (k i)) : (BandsM Q N B ob oo oc).Tame (sumK k N) where
  mono := fun {t t' n n' s} h h1 h2 i hi => (hT i hi).mono (h i hi) h1 h2
  len := fun {t n s} h hn => ⟨sumTo_bd (fun i hi => ((hT i hi).len (h i hi) hn).1), sumTo_bd (fun i hi => ((hT i hi).len (h i hi) hn).2)⟩
  few := fun {t n s} now h hn => takeB_few hT hn N 0 s [] (by omega) (fun j _ hj => h j hj) (Nat.zero_le _)
theorem bands_small {Q : Nat → QM} {N : Nat} {k : Nat → Nat} (hf : ∀ i, i < N → (Q i).Fine) (hT : ∀ i, i < N → (Q i).Tame (k i)) (hk : sumK k N ≤ 20) (h1 : 1 ≤ N) (h8 : N ≤ 8) : Small Q N where
  fine := hf
  mono := fun i hi {t t' n n' s} h a b => (hT i hi).mono h a b
  len := fun i hi {t n s} h hn => by
    have := (hT i hi).len h hn
    have := sumK_ge (k := k) hi
    omega
  few := fun i hi {t n s} now h hn => by
    have := (hT i hi).few now h hn
    have := sumK_ge (k := k) hi
    omega
  one := h1
  eight := h8
end Go.Proofs.YtfakjedolecdcaaGreatDoor
namespace Go.Proofs.YtfakjedolecdcaaGreatDoor

/-- Numbers that lie in memory. -/
def IRow (w : World) (x : Option Addr) (n : Nat) (f : Nat → Int) : Prop := n = 0 ∨ ∃ b off, x = some ⟨b, off, none⟩ ∧ b < w.heap.size ∧ ∀ i, i < n → w.cell? ⟨b, off + i, none⟩ = some (.int .i64 (f i))
/-- The block of such numbers, if it has any number. -/
def TB (px : Option Addr) (m k : Nat) : Prop := 0 < m ∧ ∃ a, px = some a ∧ a.block = k
theorem tb_lt {w : World} {px : Option Addr} {m k : Nat} {f : Nat → Int} (h : IRow w px m f) (hk : TB px m k) : k < w.heap.size := by
  obtain ⟨h0, a, rfl, rfl⟩ := hk
  rcases h with h | ⟨b, off, e, hb, _⟩
  · omega
  · simp at e; subst e; exact hb
end Go.Proofs.YtfakjedolecdcaaGreatDoor
namespace Go.Proofs.YtfakjedolecdcaaGreatDoor
open Go.RowKit Go.Extern.Stop Go.Stop Go.Extern

theorem tell_late {n t R lev lat : Int} (now : Int) {s o : Nat} {pre post : List Value} {ty : TypeId} (w : World) (_h : StG w s o pre post ty n t R lev lat) (ht1 : 1000000000 < now) :
    Calls Tryz.prog 194 #[.pointer (some ⟨s, o, none⟩), .int .i64 now] w fun e w' => e = .returned (.bool false) ∧ w' = w := by
  clear _h
  go_enter Tryz.func194, Tryz.ntmps194
  go_wp2
  go_ret
  exact ⟨rfl, rfl⟩
theorem take_late {n t R lev lat : Int} (now x : Int) {s o : Nat} {pre post : List Value} {ty : TypeId} (w : World) (h : StG w s o pre post ty n t R lev lat) (ht1 : 1000000000 < now) :
    Calls Tryz.prog 192 #[.pointer (some ⟨s, o, none⟩), .int .i64 now, .int .i64 x] w fun e w' => e = .returned (.bool false) ∧ w' = w := by
  have HT := tell_late now w h ht1
  clear h
  go_enter Tryz.func192, Tryz.ntmps192
  go_wp2_with (go_at_call 194; refine HT.mono ?_; rintro e w1 ⟨rfl, rfl⟩)
  go_ret
  exact ⟨rfl, rfl⟩

theorem when_no {n t R lev lat : Int} (now x : Int) {s o : Nat} {pre post : List Value} {ty : TypeId} (w : World) (h : StG w s o pre post ty n t R lev lat) (hb : okB n t R) (hl0 : 0 ≤ lev) (hl1 : lev ≤ R * t) (ht0 : 0 ≤ lat) (ht1 : now ≤ 1000000000) (hx0 : 0 ≤ x) (hx1 : R < x) :
    Calls Tryz.prog 193 #[.pointer (some ⟨s, o, none⟩), .int .i64 now, .int .i64 x] w fun e w' => e = .returned (.tuple #[.int .i64 0, .bool false]) ∧ StG w' s o pre post ty n t R (pas n t R lev lat now) (lat1 lat now) ∧ Oth (· = s) w w' := by
  have HT := tell_yes now w h hb hl0 hl1 ht0 ht1
  clear h hb
  go_enter Tryz.func193, Tryz.ntmps193
  go_wp2_with fail
  refine HT.mono ?_
  rintro e w1 ⟨rfl, hs1, ho1⟩
  obtain ⟨c0, c1, c2, c3, c4, _, _⟩ := hs1.cells
  have HS : Hid (StG w1 s o pre post ty n t R (pas n t R lev lat now) (lat1 lat now)) := hs1
  clear hs1 HT
  go_wp2
  go_ret2
  exact ⟨rfl, HS.out, ho1⟩

set_option maxHeartbeats 1000000 in
theorem when_yes {n t R lev lat : Int} (now x : Int) {s o : Nat} {pre post : List Value} {ty : TypeId} (w : World) (h : StG w s o pre post ty n t R lev lat) (hb : okB n t R) (hl0 : 0 ≤ lev) (hl1 : lev ≤ R * t) (ht0 : 0 ≤ lat) (ht2 : lat ≤ 1000000000) (ht1 : now ≤ 1000000000) (hx0 : 0 ≤ x) (hx1 : x ≤ R) :
    Calls Tryz.prog 193 #[.pointer (some ⟨s, o, none⟩), .int .i64 now, .int .i64 x] w fun e w' => e = .returned (.tuple #[.int .i64 (whn n t (pas n t R lev lat now) (lat1 lat now) x), .bool true]) ∧ StG w' s o pre post ty n t R (pas n t R lev lat now) (lat1 lat now) ∧ Oth (· = s) w w' := by
  have HT := tell_yes now w h hb hl0 hl1 ht0 ht1
  have hp := pas_room (n := n) (t := t) (R := R) (lat := lat) (now := now) hb.1.1 hl0 hl1
  have hr := hb.room
  have hla : 0 ≤ lat1 lat now ∧ lat1 lat now ≤ 1000000000 := by unfold lat1; split <;> omega
  obtain ⟨hg0, hg1⟩ := prod_bounds (n := t) (R := x) (a := 1000000) (b := 1000000) (by have := hb.2.1; omega) hb.2.1.2 hx0 (by have := hb.2.2; omega)
  have hg1' : x * t ≤ 1000000000000 := by omega
  obtain ⟨⟨hn0, hn1⟩, _, _⟩ := hb
  have HW := @whn_bounds n t (pas n t R lev lat now) (lat1 lat now) x hn0
  generalize pas n t R lev lat now = lv at *
  generalize lat1 lat now = la at *
  clear h ht0 ht2 ht1 hl0 hl1
  obtain ⟨hp0, hp1⟩ := hp
  obtain ⟨hr0, hr1⟩ := hr
  obtain ⟨hla0, hla1⟩ := hla
  clear HW
  by_cases hc : x * t - lv ≤ 0
  · have HC : Hid (whn n t lv la x = la + (n - 1) / n) := by unfold Hid whn; rw [if_pos hc, Int.zero_add]
    have hq0 : 0 ≤ (n - 1) / n := Int.ediv_nonneg (by omega) (by omega)
    have hq1 : (n - 1) / n ≤ 0 := by
      have := Int.ediv_eq_zero_of_lt (a := n - 1) (b := n) (by omega) (by omega); omega
    go_enter Tryz.func193, Tryz.ntmps193
    go_wp2_with fail
    refine HT.mono ?_
    rintro e w1 ⟨rfl, hs1, ho1⟩
    obtain ⟨c0, c1, c2, c3, c4, _, _⟩ := hs1.cells
    have HS : Hid (StG w1 s o pre post ty n t R lv la) := hs1
    clear hs1 HT
    go_wp2
    go_quiet ((go_at_call 83; exact Calls.quiet_of_same (worth_any _ _ HS.out hg0 hg1')))
    go_wp2
    go_quiet (fail)
    go_wp2
    go_ret2
    exact ⟨by rw [HC.out]; rfl, (HS.out.drewN _).drewN _, (ho1.drewN _).drewN _⟩
  · have HC : Hid (whn n t lv la x = la + (x * t - lv + n - 1) / n) := by unfold Hid whn; rw [if_neg hc]
    have hq0 : 0 ≤ (x * t - lv + n - 1) / n := Int.ediv_nonneg (by omega) (by omega)
    have hq1 : (x * t - lv + n - 1) / n ≤ 1000001000000 := by
      have h1 := Int.mul_ediv_add_emod (x * t - lv + n - 1) n
      have h2 := Int.emod_nonneg (x * t - lv + n - 1) (by omega : n ≠ 0)
      have h3 : 1 * ((x * t - lv + n - 1) / n) ≤ n * ((x * t - lv + n - 1) / n) := Int.mul_le_mul_of_nonneg_right hn0 hq0
      omega
    go_enter Tryz.func193, Tryz.ntmps193
    go_wp2_with fail
    refine HT.mono ?_
    rintro e w1 ⟨rfl, hs1, ho1⟩
    obtain ⟨c0, c1, c2, c3, c4, _, _⟩ := hs1.cells
    have HS : Hid (StG w1 s o pre post ty n t R lv la) := hs1
    clear hs1 HT
    go_wp2
    go_quiet ((go_at_call 83; exact Calls.quiet_of_same (worth_any _ _ HS.out hg0 hg1')))
    go_wp2
    go_quiet (fail)
    go_wp2
    go_ret2
    exact ⟨by rw [HC.out]; rfl, (HS.out.drewN _).drewN _, (ho1.drewN _).drewN _⟩
end Go.Proofs.YtfakjedolecdcaaGreatDoor
