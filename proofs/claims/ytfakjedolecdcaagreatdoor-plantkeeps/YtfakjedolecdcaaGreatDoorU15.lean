/-
  What left counts, where some losses may be told late, goes well with any queue of which what is held loses and makes no packet (marks may change). Mathematics alone: nothing of the program is claimed here.
  A queue that bands can hold: what it holds and throws away is bounded by so many queues. Mathematics alone.
  queue.Bands over whatever queues: what its methods return, and what each leaves. Conditions: the queues' methods do what models of them tell (a premise); one band at least, eight at most.
-/
import Derived.Test.YtfakjedolecdcaaGreatDoorLgl
import Derived.Test.YtfakjedolecdcaaGreatDoorKm
import Derived.Test.YtfakjedolecdcaaGreatDoorU14
import Derived.Test.YtfakjedolecdcaaGreatDoorU9
namespace Go.Proofs.YtfakjedolecdcaaGreatDoor
variable {E : Prop}

def nl (x : Hd) : Int × Int := (x.n, x.l)
def sumP : List (Int × Int) → Int
  | [] => 0
  | x :: r => x.2 + sumP r
theorem sumP_append (a b : List (Int × Int)) : sumP (a ++ b) = sumP a + sumP b := by
  induction a with
  | nil => simp [sumP]
  | cons x a ih => simp only [List.cons_append, sumP, ih]; omega
theorem sumP_perm {a b : List (Int × Int)} (h : a.Perm b) : sumP a = sumP b := by
  induction h with
  | nil => rfl
  | cons x _ ih => simp only [sumP, ih]
  | swap x y l => simp only [sumP]; omega
  | trans _ _ h1 h2 => exact h1.trans h2
theorem sumP_nl (l : List Hd) : sumP (l.map nl) = sumL l := by
  induction l with
  | nil => rfl
  | cons x l ih => simp only [List.map_cons, sumP, sumL, ih, nl]
/-- The count and what is held. -/
structure RelP (s : LS) (C : List (Int × Int)) (n : Nat) : Prop where
  z : s.size.length = n
  v : s.st.length = n
  each : ∀ x ∈ C, ∃ k : Nat, x.1 = (k : Int) ∧ s.st[k]? = some 0 ∧ s.size[k]? = some x.2
  nd : (C.map Prod.fst).Nodup
  wait : s.wait = C.length
  bytes : s.bytes = sumP C
theorem RelP.perm {s : LS} {C C' : List (Int × Int)} {n : Nat} (h : RelP s C n) (hp : C.Perm C') : RelP s C' n :=
  ⟨h.z, h.v, fun x hx => h.each x (hp.mem_iff.2 hx), (hp.map Prod.fst).nodup_iff.1 h.nd, by rw [h.wait, hp.length_eq], by rw [h.bytes, sumP_perm hp]⟩
theorem RelP.lt {s : LS} {C : List (Int × Int)} {n : Nat} (h : RelP s C n) {x : Int × Int} (hx : x ∈ C) : 0 ≤ x.1 ∧ x.1 < n := by
  obtain ⟨k, e, h1, _⟩ := h.each x hx
  have := (List.getElem?_eq_some_iff.1 h1).1
  rw [h.v] at this
  omega
theorem RelP.add {s : LS} {C : List (Int × Int)} {n : Nat} (h : RelP s C n) {t : Stp} {x : Int × Int} (hw : t.what = 0) (hl : t.l = x.2) (hx : x.1 = n) : RelP (addS s t) (C ++ [x]) (n + 1) := by
  rw [addS, if_pos hw]
  refine ⟨by simp [h.z], by simp [h.v], ?_, ?_, by simp [h.wait], by simp only [h.bytes, sumP_append, hl, sumP]; omega⟩
  · intro y hy
    rcases List.mem_append.1 hy with hy | hy
    · obtain ⟨k, e, h1, h2⟩ := h.each y hy
      refine ⟨k, e, ?_, ?_⟩
      · show (s.st ++ [0])[k]? = some 0
        rw [List.getElem?_append_left (List.getElem?_eq_some_iff.1 h1).1]; exact h1
      · show (s.size ++ [t.l])[k]? = some y.2
        rw [List.getElem?_append_left (List.getElem?_eq_some_iff.1 h2).1]; exact h2
    · simp at hy
      subst hy
      refine ⟨n, hx, ?_, ?_⟩
      · show (s.st ++ [0])[n]? = some 0
        rw [List.getElem?_append_right (by rw [h.v]; exact Nat.le_refl _), h.v]; simp
      · show (s.size ++ [t.l])[n]? = some y.2
        rw [List.getElem?_append_right (by rw [h.z]; exact Nat.le_refl _), h.z, hl]; simp
  · rw [List.map_append, List.nodup_append]
    refine ⟨h.nd, by simp, ?_⟩
    intro a ha b hb
    simp only [List.map_cons, List.map_nil, List.mem_singleton] at hb
    obtain ⟨y, hy, rfl⟩ := List.mem_map.1 ha
    have := (h.lt hy).2
    omega
theorem RelP.out {s : LS} {C : List (Int × Int)} {n : Nat} {x : Int × Int} (h : RelP s (x :: C) n) : ∃ s', outS s x.1 = some s' ∧ RelP s' C n := by
  obtain ⟨k, e, h1, h2⟩ := h.each x (by simp)
  have hk := (List.getElem?_eq_some_iff.1 h1).1
  refine ⟨{ s with st := s.st.set k 1, wait := s.wait - 1, bytes := s.bytes - x.2 }, ?_, ?_⟩
  · unfold outS
    rw [if_pos]
    · simp only [e, Int.toNat_natCast, List.getD, h2, Option.getD_some]
    · refine ⟨by omega, by omega, ?_⟩
      rw [e]
      simpa using h1
  · have hnd := h.nd
    simp only [List.map_cons, List.nodup_cons] at hnd
    refine ⟨h.z, by simp [h.v], ?_, hnd.2, ?_, ?_⟩
    · intro y hy
      obtain ⟨j, e', h3, h4⟩ := h.each y (by simp [hy])
      refine ⟨j, e', ?_, h4⟩
      show (s.st.set k 1)[j]? = some 0
      rw [List.getElem?_set, if_neg]
      · exact h3
      · rintro rfl
        exact hnd.1 (List.mem_map.2 ⟨y, hy, by rw [e', e]⟩)
    · show s.wait - 1 = _
      rw [h.wait]; simp
    · show s.bytes - x.2 = _
      rw [h.bytes]; simp only [sumP]; omega
theorem RelP.outs {n : Nat} : ∀ {l : List Hd} {s : LS} {C : List (Int × Int)}, RelP s (l.map nl ++ C) n → ∃ s', outsS s (l.map Hd.n) = some s' ∧ RelP s' C n := by
  intro l
  induction l with
  | nil => intro s C h; exact ⟨s, rfl, h⟩
  | cons x r ih =>
    intro s C h
    obtain ⟨s1, h1, h2⟩ := RelP.out (x := nl x) (C := r.map nl ++ C) h
    obtain ⟨s2, h3, h4⟩ := ih h2
    exact ⟨s2, by simp only [List.map_cons, outsS, show outS s x.n = some s1 from h1]; exact h3, h4⟩
/-- A queue of which what is held loses and makes no packet: what is held in it, by number and bytes; some of it may be lost and not told yet (not if E). -/
structure QM.Late (M : QM) (E : Prop) (cont : M.σ → List (Int × Int)) : Prop where
  put : ∀ {s : M.σ} {t : Int} {n : Nat} (now : Int) (x : Hd), M.inv t n s → 0 ≤ t → t ≤ now → now ≤ 20000000 → x.ok = true → x.a = now → x.n = n → n ≤ 1000 → (cont s ++ [nl x]).Perm ((M.put s now x).2.map nl ++ cont (M.put s now x).1)
  take : ∀ {s : M.σ} {t : Int} {n : Nat} (now : Int), M.inv t n s → 0 ≤ t → t ≤ now → now ≤ 20000000 → n ≤ 1000 → (cont s).Perm ((M.take s now).2.1.map nl ++ ((if (M.take s now).2.2.2 then [nl (M.take s now).2.2.1] else []) ++ cont (M.take s now).1))
  when : ∀ {s : M.σ} {t : Int} {n : Nat} (now : Int), M.inv t n s → 0 ≤ t → t ≤ now → now ≤ 20000000 → n ≤ 1000 → (cont s).Perm (cont (M.when s now).1)
  len : ∀ {s : M.σ} {t : Int} {n : Nat}, M.inv t n s → M.len s ≤ (cont s).length
  bytes : ∀ {s : M.σ} {t : Int} {n : Nat}, M.inv t n s → M.bytes s ≤ sumP (cont s)
  full : E → ∀ {s : M.σ} {t : Int} {n : Nat}, M.inv t n s → M.len s = (cont s).length
theorem QM.Late.weak {M : QM} {cont : M.σ → List (Int × Int)} (h : M.Late E cont) : M.Late False cont := ⟨h.put, h.take, h.when, h.len, h.bytes, fun f => f.elim⟩
theorem QM.Late.noE {M : QM} {cont : M.σ → List (Int × Int)} (h : M.Late False cont) (hE : ¬ E) : M.Late E cont := ⟨h.put, h.take, h.when, h.len, h.bytes, fun e => absurd e hE⟩
/-- What tells its losses at once does so, too. -/
theorem QM.Keeps.late {M : QM} {cont : M.σ → List Hd} (h : M.Keeps cont) : M.Late E (fun s => (cont s).map nl) where
  put := fun {s t n} now x _ _ _ _ _ _ _ _ => by
    have := (h.put s now x).map nl
    rw [List.map_append, List.map_append] at this
    exact this
  take := fun {s t n} now _ _ _ _ _ => by
    have := (h.take s now).map nl
    rw [List.map_append, List.map_append, List.append_assoc] at this
    refine this.trans (List.Perm.append_left _ (List.Perm.append_right _ ?_))
    split <;> exact List.Perm.refl _
  when := fun {s t n} now _ _ _ _ _ => (h.when s now).map nl
  len := fun {s t n} _ => by rw [h.len, List.length_map]; exact Int.le_refl _
  bytes := fun {s t n} _ => by rw [h.bytes, sumP_nl]; exact Int.le_refl _
  full := fun _ {s t n} _ => by rw [h.len, List.length_map]
theorem step_late {M : QM} {cont : M.σ → List (Int × Int)} (hM : M.Fine) (hK : M.Late E cont) {s : M.σ} {n : Nat} {ls : LS} {t : Int} (h : RelP ls (cont s) n) (st : Stp) (hI : M.inv t n s) (h0 : 0 ≤ t) (h1 : t ≤ st.lt) (h2 : st.lt ≤ 20000000) (ha : st.a = st.lt) (hok : st.what = 0 → It.ok ⟨st.a, st.l, st.f, st.b, st.m⟩ = true) (hn : n ≤ 1000) :
    ∃ s2 s3, LStepL ls st (stepQ M s n st).2 s2 s3 ∧ RelP s3 (cont (stepQ M s n st).1.1) (stepQ M s n st).1.2 := by
  by_cases hw : st.what = 0
  · have hstep : stepQ M s n st = (((M.put s st.lt (hdOf st n)).1, n + 1), ⟨-1, 0, -1, M.len (M.put s st.lt (hdOf st n)).1, M.bytes (M.put s st.lt (hdOf st n)).1, (M.put s st.lt (hdOf st n)).2.map Hd.n⟩) := by simp only [stepQ, if_pos hw]
    rw [hstep]
    have hi := (hM.iP st.lt (hdOf st n) hI h0 h1 h2 (hok hw) ha rfl hn).1
    have h1' := (h.add (x := nl (hdOf st n)) hw rfl rfl).perm (hK.put st.lt (hdOf st n) hI h0 h1 h2 (hok hw) ha rfl hn)
    obtain ⟨s2, h2', h3⟩ := h1'.outs
    refine ⟨s2, s2, ⟨h2', ?_, ?_, ?_⟩, h3⟩
    · simp [takenS]
    · show M.len _ ≤ s2.wait
      rw [h3.wait]; exact hK.len hi
    · show M.bytes _ ≤ s2.bytes
      rw [h3.bytes]; exact hK.bytes hi
  · have haS : addS ls st = ls := by rw [addS, if_neg hw]
    by_cases hw1 : st.what = 1
    · have hstep : stepQ M s n st = (((M.take s st.lt).1, n), ⟨if (M.take s st.lt).2.2.2 then (M.take s st.lt).2.2.1.n else -1, if (M.take s st.lt).2.2.2 then (M.take s st.lt).2.2.1.m else 0, -1, M.len (M.take s st.lt).1, M.bytes (M.take s st.lt).1, (M.take s st.lt).2.1.map Hd.n⟩) := by simp only [stepQ, if_neg hw, if_pos hw1]
      rw [hstep]
      have hi := (hM.iT st.lt hI h0 h1 h2 hn).1
      have h1' := h.perm (hK.take st.lt hI h0 h1 h2 hn)
      generalize M.take s st.lt = T at *
      obtain ⟨s1, L1, h1'', ok⟩ := T
      obtain ⟨s2, h2', h3⟩ := h1'.outs
      cases ok with
      | true =>
        simp only [if_true, List.singleton_append] at h3
        have hlt := h3.lt (x := nl h1'') (by simp)
        obtain ⟨s3, h4, h5⟩ := h3.out
        refine ⟨s2, s3, ⟨by rw [haS]; exact h2', ?_, ?_, ?_⟩, h5⟩
        · have hlt' : 0 ≤ h1''.n := hlt.1
          simp only [takenS, if_true, if_pos hlt']; exact h4
        · show M.len _ ≤ s3.wait
          rw [h5.wait]; exact hK.len hi
        · show M.bytes _ ≤ s3.bytes
          rw [h5.bytes]; exact hK.bytes hi
      | false =>
        simp only [Bool.false_eq_true, if_false, List.nil_append] at h3
        refine ⟨s2, s2, ⟨by rw [haS]; exact h2', ?_, ?_, ?_⟩, h3⟩
        · simp [takenS]
        · show M.len _ ≤ s2.wait
          rw [h3.wait]; exact hK.len hi
        · show M.bytes _ ≤ s2.bytes
          rw [h3.bytes]; exact hK.bytes hi
    · have hstep : stepQ M s n st = (((M.when s st.lt).1, n), ⟨-1, 0, if (M.when s st.lt).2.2 then (M.when s st.lt).2.1 else -1, M.len (M.when s st.lt).1, M.bytes (M.when s st.lt).1, []⟩) := by simp only [stepQ, if_neg hw, if_neg hw1]
      rw [hstep]
      have hi := hM.iW st.lt hI h0 h1 h2 hn
      have h1' := h.perm (hK.when st.lt hI h0 h1 h2 hn)
      refine ⟨ls, ls, ⟨by rw [haS]; rfl, ?_, ?_, ?_⟩, h1'⟩
      · simp [takenS]
      · show M.len _ ≤ ls.wait
        rw [h1'.wait]; exact hK.len hi
      · show M.bytes _ ≤ ls.bytes
        rw [h1'.bytes]; exact hK.bytes hi
theorem inv_runL {M : QM} (hM : M.Fine) (xs : List Stp) (hn : xs.length ≤ 1000) (s0 : M.σ) (hI0 : M.inv 0 0 s0) :
    ∀ i, i ≤ xs.length → M.inv (nowAt 0 xs i) (stFrom M s0 0 (timesL 0 xs) i).2 (stFrom M s0 0 (timesL 0 xs) i).1 := by
  intro i
  induction i with
  | zero =>
    intro _
    have e := stFrom_zero M s0 0 (timesL 0 xs)
    rw [e]
    have e0 : nowAt 0 xs 0 = 0 := by cases xs <;> rfl
    rw [e0]
    exact hI0
  | succ i ih =>
    intro hi
    obtain ⟨st, hst⟩ : ∃ st, (timesL 0 xs)[i]? = some st := ⟨_, List.getElem?_eq_getElem (by rw [timesL_length]; omega)⟩
    have e := stFrom_succ (M := M) (s := s0) (n := 0) hst
    obtain ⟨t1, t2, t3, t4, t5, t6⟩ := timesL_get hst hn
    have hlen := stFrom_le M s0 0 (timesL 0 xs) i
    have hinv := stepQ_inv hM (st := st) (ih (by omega)) t3 t2 t4 t6 t1 (by omega)
    rw [e, ← t5]
    exact hinv.1
/-- The whole count. -/
theorem play_late {M : QM} {cont : M.σ → List (Int × Int)} (hM : M.Fine) (hK : M.Late E cont) {s0 : M.σ} (hI0 : M.inv 0 0 s0) (h0 : cont s0 = []) (xs : List Stp) (hn : xs.length ≤ 1000) : ∃ G G2 : Nat → LS, G 0 = ls0 ∧ ∀ i t sn, (timesL 0 xs)[i]? = some t → (playFrom M s0 0 (timesL 0 xs))[i]? = some sn → LStepL (G i) t sn (G2 i) (G (i + 1)) := by
  have hex : ∀ (ls : LS) (s : M.σ) (n : Nat) (st : Stp), ∃ p : LS × LS, (RelP ls (cont s) n ∧ n ≤ 1000 ∧ ∃ t, M.inv t n s ∧ 0 ≤ t ∧ t ≤ st.lt ∧ st.lt ≤ 20000000 ∧ st.a = st.lt ∧ (st.what = 0 → It.ok ⟨st.a, st.l, st.f, st.b, st.m⟩ = true)) → LStepL ls st (stepQ M s n st).2 p.1 p.2 ∧ RelP p.2 (cont (stepQ M s n st).1.1) (stepQ M s n st).1.2 := by
    intro ls s n st
    by_cases h : RelP ls (cont s) n ∧ n ≤ 1000 ∧ ∃ t, M.inv t n s ∧ 0 ≤ t ∧ t ≤ st.lt ∧ st.lt ≤ 20000000 ∧ st.a = st.lt ∧ (st.what = 0 → It.ok ⟨st.a, st.l, st.f, st.b, st.m⟩ = true)
    · obtain ⟨hr, hnn, t, g1, g2, g3, g4, g5, g6⟩ := h
      obtain ⟨s2, s3, h1, h2⟩ := step_late hM hK hr st g1 g2 g3 g4 g5 g6 hnn
      exact ⟨(s2, s3), fun _ => ⟨h1, h2⟩⟩
    · exact ⟨(ls, ls), fun h' => absurd h' h⟩
  let f : LS → M.σ → Nat → Stp → LS × LS := fun ls s n st => Classical.choose (hex ls s n st)
  have hf := fun ls s n st => Classical.choose_spec (hex ls s n st)
  let Gf : Nat → LS × LS := fun i => Nat.rec (ls0, ls0) (fun i p => match (timesL 0 xs)[i]? with
    | none => p
    | some st => f p.2 (stFrom M s0 0 (timesL 0 xs) i).1 (stFrom M s0 0 (timesL 0 xs) i).2 st) i
  have hprem : ∀ i st, (timesL 0 xs)[i]? = some st → (stFrom M s0 0 (timesL 0 xs) i).2 ≤ 1000 ∧ ∃ t, M.inv t (stFrom M s0 0 (timesL 0 xs) i).2 (stFrom M s0 0 (timesL 0 xs) i).1 ∧ 0 ≤ t ∧ t ≤ st.lt ∧ st.lt ≤ 20000000 ∧ st.a = st.lt ∧ (st.what = 0 → It.ok ⟨st.a, st.l, st.f, st.b, st.m⟩ = true) := by
    intro i st hst
    have hi := (List.getElem?_eq_some_iff.1 hst).1
    rw [timesL_length] at hi
    obtain ⟨t1, t2, t3, t4, t5, t6⟩ := timesL_get hst hn
    have hlen := stFrom_le M s0 0 (timesL 0 xs) i
    exact ⟨by omega, nowAt 0 xs i, inv_runL hM xs hn s0 hI0 i (by omega), t3, t2, by omega, t1, t6⟩
  have hG : ∀ i, i ≤ (timesL 0 xs).length → RelP (Gf i).2 (cont (stFrom M s0 0 (timesL 0 xs) i).1) (stFrom M s0 0 (timesL 0 xs) i).2 := by
    intro i
    induction i with
    | zero =>
      intro _
      show RelP ls0 _ _
      rw [stFrom_zero, h0]
      exact ⟨rfl, rfl, by simp, by simp, rfl, rfl⟩
    | succ i ih =>
      intro hi
      obtain ⟨st, hst⟩ : ∃ st, (timesL 0 xs)[i]? = some st := ⟨_, List.getElem?_eq_getElem (by omega)⟩
      have e : Gf (i + 1) = f (Gf i).2 (stFrom M s0 0 (timesL 0 xs) i).1 (stFrom M s0 0 (timesL 0 xs) i).2 st := by
        show (match (timesL 0 xs)[i]? with | none => Gf i | some st => f (Gf i).2 (stFrom M s0 0 (timesL 0 xs) i).1 (stFrom M s0 0 (timesL 0 xs) i).2 st) = _
        rw [hst]
      rw [e, stFrom_succ hst]
      exact (hf _ _ _ st ⟨ih (by omega), hprem i st hst⟩).2
  refine ⟨fun i => (Gf i).2, fun i => (Gf (i + 1)).1, rfl, fun i t sn ht hsn => ?_⟩
  have hi := (List.getElem?_eq_some_iff.1 ht).1
  have e : Gf (i + 1) = f (Gf i).2 (stFrom M s0 0 (timesL 0 xs) i).1 (stFrom M s0 0 (timesL 0 xs) i).2 t := by
    show (match (timesL 0 xs)[i]? with | none => Gf i | some st => f (Gf i).2 (stFrom M s0 0 (timesL 0 xs) i).1 (stFrom M s0 0 (timesL 0 xs) i).2 st) = _
    rw [ht]
  rw [playFrom_at ht] at hsn
  obtain rfl := Option.some.inj hsn
  show LStepL (Gf i).2 t _ (Gf (i + 1)).1 (Gf (i + 1)).2
  rw [e]
  exact (hf _ _ _ t ⟨hG i (by omega), hprem i t ht⟩).1
end Go.Proofs.YtfakjedolecdcaaGreatDoor
namespace Go.Proofs.YtfakjedolecdcaaGreatDoor

/-- Bounds of a queue within which so many queues stand. -/
structure QM.Tame (M : QM) (k : Nat) : Prop where
  mono : ∀ {t t' : Int} {n n' : Nat} {s : M.σ}, M.inv t n s → t ≤ t' → n ≤ n' → M.inv t' n' s
  len : ∀ {t : Int} {n : Nat} {s : M.σ}, M.inv t n s → n ≤ 1001 → (0 ≤ M.len s ∧ M.len s ≤ 100000 * k) ∧ 0 ≤ M.bytes s ∧ M.bytes s ≤ 1000000000 * k
  few : ∀ {t : Int} {n : Nat} {s : M.σ} (now : Int), M.inv t n s → n ≤ 1000 → (M.take s now).2.1.length ≤ 5000 * k
theorem sumL_small : ∀ {L : List Hd}, (∀ x ∈ L, 0 ≤ x.l ∧ x.l ≤ 10000) → 0 ≤ sumL L ∧ sumL L ≤ 10000 * (L.length : Int) := by
  intro L
  induction L with
  | nil => intro _; simp [sumL]
  | cons x L ih =>
    intro h
    have h1 := h x (by simp)
    have h2 := ih (fun y hy => h y (by simp [hy]))
    simp only [sumL, List.length_cons]
    omega
theorem QM.Keeps.tame {M : QM} {cont : M.σ → List Hd} (hK : M.Keeps cont) (hm : ∀ {t t' : Int} {n n' : Nat} {s : M.σ}, M.inv t n s → t ≤ t' → n ≤ n' → M.inv t' n' s) (hc : ∀ {t : Int} {n : Nat} {s : M.σ}, M.inv t n s → (cont s).length ≤ n ∧ ∀ x ∈ cont s, 0 ≤ x.l ∧ x.l ≤ 10000) : M.Tame 1 where
  mono := hm
  len := fun {t n s} h hn => by
    obtain ⟨h1, h2⟩ := hc h
    obtain ⟨h3, h4⟩ := sumL_small h2
    rw [hK.len, hK.bytes]
    omega
  few := fun {t n s} now h hn => by
    obtain ⟨h1, _⟩ := hc h
    have := (hK.take s now).length_eq
    rw [List.length_append, List.length_append] at this
    omega
end Go.Proofs.YtfakjedolecdcaaGreatDoor
namespace Go.Proofs.YtfakjedolecdcaaGreatDoor
open Go.RowKit Go.Extern.Stop Go.Stop Go.Extern

/-- One of many states is another one. -/
def upd {Q : Nat → QM} (s : ∀ i, (Q i).σ) (j : Nat) (x : (Q j).σ) : ∀ i, (Q i).σ := fun i => if h : i = j then h ▸ x else s i
theorem upd_same {Q : Nat → QM} (s : ∀ i, (Q i).σ) (j : Nat) (x : (Q j).σ) : upd s j x j = x := by simp [upd]
theorem upd_ne {Q : Nat → QM} (s : ∀ i, (Q i).σ) {i j : Nat} (x : (Q j).σ) (h : i ≠ j) : upd s j x i = s i := by simp [upd, h]
def updP (Fs : Nat → Nat → Prop) (j : Nat) (F : Nat → Prop) : Nat → Nat → Prop := fun i => if i = j then F else Fs i
/-- Bands in block B; the row of its queues from ⟨ob, oo⟩ on. -/
structure BAt (Q : Nat → QM) (N B ob oo oc : Nat) (w : World) (Fs : Nat → Nat → Prop) (s : ∀ i, (Q i).σ) : Prop where
  blk : w.heap[B]? = some (.cells #[.slice (some ⟨ob, oo, none⟩) N oc] 176 (0, 0))
  row : ∀ i, i < N → w.cell? ⟨ob, oo + i, none⟩ = some (.iface (Q i).ty (Q i).rv)
  obl : ob < w.heap.size
  each : ∀ i, i < N → (Q i).At w (Fs i) (s i)
  dis : ∀ i j k, i < N → j < N → Fs i k → Fs j k → i = j
  nB : ∀ i, i < N → ¬ Fs i B ∧ ¬ Fs i ob
def foot (N B ob : Nat) (Fs : Nat → Nat → Prop) (k : Nat) : Prop := k = B ∨ k = ob ∨ ∃ i, i < N ∧ Fs i k
theorem BAt.kept {Q : Nat → QM} {N B ob oo oc : Nat} {w w' : World} {Fs : Nat → Nat → Prop} {s : ∀ i, (Q i).σ} (hQ : ∀ i, i < N → (Q i).Fine) (h : BAt Q N B ob oo oc w Fs s) (hk : ∀ k, foot N B ob Fs k → w'.heap[k]? = w.heap[k]?) : BAt Q N B ob oo oc w' Fs s := by
  refine ⟨(hk B (Or.inl rfl)).trans h.blk, fun i hi => ?_, ?_, fun i hi => (hQ i hi).kept (h.each i hi) (fun k hf => hk k (Or.inr (Or.inr ⟨i, hi, hf⟩))), h.dis, h.nB⟩
  · rw [World.cell?_of_block (w := w) (a := ⟨ob, oo + i, none⟩) (hk ob (Or.inr (Or.inl rfl)))]
    exact h.row i hi
  · have h1 := hk ob (Or.inr (Or.inl rfl))
    rw [Array.getElem?_eq_getElem h.obl] at h1
    exact lt_of_block h1
theorem BAt.low {Q : Nat → QM} {N B ob oo oc : Nat} {w : World} {Fs : Nat → Nat → Prop} {s : ∀ i, (Q i).σ} (hQ : ∀ i, i < N → (Q i).Fine) (h : BAt Q N B ob oo oc w Fs s) : ∀ k, foot N B ob Fs k → k < w.heap.size := by
  rintro k (rfl | rfl | ⟨i, hi, hf⟩)
  · exact lt_of_block h.blk
  · exact h.obl
  · exact (hQ i hi).low (h.each i hi) k hf
theorem BAt.below {Q : Nat → QM} {N B ob oo oc : Nat} {w w' : World} {Fs : Nat → Nat → Prop} {s : ∀ i, (Q i).σ} (hQ : ∀ i, i < N → (Q i).Fine) (h : BAt Q N B ob oo oc w Fs s) (hb : Below w.heap.size w w') : BAt Q N B ob oo oc w' Fs s := h.kept hQ (fun k hk => hb.block k (h.low hQ k hk))
theorem BAt.ot {S : Nat → Prop} {Q : Nat → QM} {N B ob oo oc : Nat} {w w' : World} {Fs : Nat → Nat → Prop} {s : ∀ i, (Q i).σ} (hQ : ∀ i, i < N → (Q i).Fine) (h : BAt Q N B ob oo oc w Fs s) (ho : Ot S w w') (hS : ∀ k, foot N B ob Fs k → ¬ S k) : BAt Q N B ob oo oc w' Fs s := h.kept hQ (fun k hk => ho.block k (h.low hQ k hk) (hS k hk))
/-- One of the queues was asked. -/
theorem BAt.step {Q : Nat → QM} {N B ob oo oc : Nat} {w w' : World} {Fs : Nat → Nat → Prop} {s : ∀ i, (Q i).σ} (hQ : ∀ i, i < N → (Q i).Fine) (h : BAt Q N B ob oo oc w Fs s) {j : Nat} (hj : j < N) {F' : Nat → Prop} {x : (Q j).σ} (ho : Ot (Fs j) w w') (ha : (Q j).At w' F' x) (hf : ∀ k, F' k → Fs j k ∨ w.heap.size ≤ k) :
    BAt Q N B ob oo oc w' (updP Fs j F') (upd s j x) ∧ (∀ k, foot N B ob (updP Fs j F') k → foot N B ob Fs k ∨ w.heap.size ≤ k) ∧ Ot (foot N B ob Fs) w w' := by
  have hlow := h.low hQ
  have hlB := lt_of_block h.blk
  refine ⟨⟨(ho.block B hlB (h.nB j hj).1).trans h.blk, fun i hi => ?_, Nat.lt_of_lt_of_le h.obl ho.size, fun i hi => ?_, fun i i' k hi hi' => ?_, fun i hi => ?_⟩, ?_, ho.mono (fun k _ hk => Or.inr (Or.inr ⟨j, hj, hk⟩))⟩
  · rw [World.cell?_of_block (w := w) (a := ⟨ob, oo + i, none⟩) (ho.block ob h.obl (h.nB j hj).2)]
    exact h.row i hi
  · by_cases e : i = j
    · subst e
      simpa [updP, upd_same] using ha
    · rw [upd_ne s x e]
      simp only [updP, if_neg e]
      exact (hQ i hi).kept (h.each i hi) (fun k hk => ho.block k ((hQ i hi).low (h.each i hi) k hk) (fun hk' => e (h.dis i j k hi hj hk hk')))
  · intro h1 h2
    simp only [updP] at h1 h2
    by_cases e : i = j
    · by_cases e' : i' = j
      · rw [e, e']
      · rw [if_pos e] at h1
        rw [if_neg e'] at h2
        rcases hf k h1 with h3 | h3
        · rw [e]; exact h.dis j i' k hj hi' h3 h2
        · have := (hQ i' hi').low (h.each i' hi') k h2; omega
    · rw [if_neg e] at h1
      by_cases e' : i' = j
      · rw [if_pos e'] at h2
        rcases hf k h2 with h3 | h3
        · rw [e']; exact h.dis i j k hi hj h1 h3
        · have := (hQ i hi).low (h.each i hi) k h1; omega
      · rw [if_neg e'] at h2
        exact h.dis i i' k hi hi' h1 h2
  · simp only [updP]
    by_cases e : i = j
    · rw [if_pos e]
      refine ⟨fun hk => ?_, fun hk => ?_⟩
      · rcases hf _ hk with h3 | h3
        · exact (h.nB j hj).1 h3
        · omega
      · rcases hf _ hk with h3 | h3
        · exact (h.nB j hj).2 h3
        · have := h.obl; omega
    · rw [if_neg e]
      exact h.nB i hi
  · rintro k (h1 | h1 | ⟨i, hi, h1⟩)
    · exact Or.inl (Or.inl h1)
    · exact Or.inl (Or.inr (Or.inl h1))
    · simp only [updP] at h1
      by_cases e : i = j
      · rw [if_pos e] at h1
        rcases hf k h1 with h2 | h2
        · exact Or.inl (Or.inr (Or.inr ⟨j, hj, h2⟩))
        · exact Or.inr h2
      · rw [if_neg e] at h1
        exact Or.inl (Or.inr (Or.inr ⟨i, hi, h1⟩))
theorem BAt.cell {Q : Nat → QM} {N B ob oo oc : Nat} {w : World} {Fs : Nat → Nat → Prop} {s : ∀ i, (Q i).σ} (h : BAt Q N B ob oo oc w Fs s) : w.cell? ⟨B, 0, none⟩ = some (.slice (some ⟨ob, oo, none⟩) N oc) := by
  have := h.blk
  simp [World.cell?, this]

set_option maxHeartbeats 1000000 in
/-- each: with a function that keeps to an invariant. -/
theorem each_any {Q : Nat → QM} {N B ob oo oc : Nat} (cf : Nat) (caps : Array Value) (I : Nat → World → Prop) (w : World) (hN : N ≤ 8) (hc : w.cell? ⟨B, 0, none⟩ = some (.slice (some ⟨ob, oo, none⟩) N oc))
    (hent : ∀ (args : Array Value) (W : World), (callFunc cf args).run Tryz.prog W = .ok (.enter cf args) W) (h0 : I 0 w) (hrow : ∀ i W, i < N → I i W → W.cell? ⟨ob, oo + i, none⟩ = some (.iface (Q i).ty (Q i).rv))
    (hstep : ∀ i W, i < N → I i W → Calls Tryz.prog cf (#[.iface (Q i).ty (Q i).rv] ++ caps) W fun e W' => e = .returned (.tuple #[]) ∧ I (i + 1) W') :
    Calls Tryz.prog 203 #[.pointer (some ⟨B, 0, none⟩), .func (.func cf) #[] caps] w fun e w' => e = .returned (.tuple #[]) ∧ I N w' := by
  have H0 : Hid (I 0 w) := h0
  have HR : Hid (∀ i W, i < N → I i W → W.cell? ⟨ob, oo + i, none⟩ = some (.iface (Q i).ty (Q i).rv)) := hrow
  have HS : Hid (∀ i W, i < N → I i W → Calls Tryz.prog cf (#[.iface (Q i).ty (Q i).rv] ++ caps) W fun e W' => e = .returned (.tuple #[]) ∧ I (i + 1) W') := hstep
  clear h0 hrow hstep
  go_enter Tryz.func203, Tryz.ntmps203
  go_wp2
  go_loopw [11] (fun i wr => ∃ k : Nat, k ≤ N ∧ i = .int .i64 k ∧ I k wr) (fun i _ => N - (intOf i).toNat)
  case atStart => exact ⟨0, Nat.zero_le _, rfl, H0.out⟩
  case round =>
    obtain ⟨k, hk, rfl, hi⟩ := hrel
    have HI : Hid (I k wr) := hi
    clear hi
    by_cases hlt : k < N
    · have hcell := HR.out k wr hlt HI.out
      go_wp2_with fail
      refine (HS.out k _ hlt HI.out).mono ?_
      rintro e w1 ⟨rfl, hi1⟩
      go_wp2_with fail
      go_roundw
      case rel => exact ⟨k + 1, by omega, by go_num, hi1⟩
      case measure => simp [intOf]; omega
    · obtain rfl : k = N := by omega
      go_wp2
      go_end0
      exact ⟨rfl, HI.out⟩
end Go.Proofs.YtfakjedolecdcaaGreatDoor
