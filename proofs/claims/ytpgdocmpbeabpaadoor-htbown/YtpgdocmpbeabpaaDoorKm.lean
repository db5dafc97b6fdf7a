/-
  What left counts goes well with any queue that neither loses nor makes a packet; and what a Fifo tells in its own order. Mathematics alone: nothing of the program is claimed here.
-/
import Derived.Test.YtpgdocmpbeabpaaDoorLg
import Derived.Test.YtpgdocmpbeabpaaDoorU24
namespace Go.Proofs.YtpgdocmpbeabpaaDoor

/-- The count and what waits. -/
structure RelG (s : LS) (C : List Hd) (n : Nat) : Prop where
  z : s.size.length = n
  v : s.st.length = n
  each : ∀ x ∈ C, ∃ k : Nat, x.n = (k : Int) ∧ s.st[k]? = some 0 ∧ s.size[k]? = some x.l
  nd : (C.map Hd.n).Nodup
  wait : s.wait = C.length
  bytes : s.bytes = sumL C
theorem RelG.perm {s : LS} {C C' : List Hd} {n : Nat} (h : RelG s C n) (hp : C.Perm C') : RelG s C' n :=
  ⟨h.z, h.v, fun x hx => h.each x (hp.mem_iff.2 hx), (hp.map Hd.n).nodup_iff.1 h.nd, by rw [h.wait, hp.length_eq], by rw [h.bytes, sumL_perm hp]⟩
theorem RelG.lt {s : LS} {C : List Hd} {n : Nat} (h : RelG s C n) {x : Hd} (hx : x ∈ C) : 0 ≤ x.n ∧ x.n < n := by
  obtain ⟨k, e, h1, _⟩ := h.each x hx
  have := (List.getElem?_eq_some_iff.1 h1).1
  rw [h.v] at this
  omega
theorem RelG.add {s : LS} {C : List Hd} {n : Nat} (h : RelG s C n) {t : Stp} {x : Hd} (hw : t.what = 0) (hl : t.l = x.l) (hx : x.n = n) : RelG (addS s t) (C ++ [x]) (n + 1) := by
  rw [addS, if_pos hw]
  refine ⟨by simp [h.z], by simp [h.v], ?_, ?_, by simp [h.wait], by simp only [h.bytes, sumL_append, hl, sumL]; omega⟩
  · intro y hy
    rcases List.mem_append.1 hy with hy | hy
    · obtain ⟨k, e, h1, h2⟩ := h.each y hy
      refine ⟨k, e, ?_, ?_⟩
      · show (s.st ++ [0])[k]? = some 0
        rw [List.getElem?_append_left (List.getElem?_eq_some_iff.1 h1).1]; exact h1
      · show (s.size ++ [t.l])[k]? = some y.l
        rw [List.getElem?_append_left (List.getElem?_eq_some_iff.1 h2).1]; exact h2
    · simp at hy
      subst hy
      refine ⟨n, hx, ?_, ?_⟩
      · show (s.st ++ [0])[n]? = some 0
        rw [List.getElem?_append_right (by rw [h.v]; exact Nat.le_refl _), h.v]; simp
      · show (s.size ++ [t.l])[n]? = some y.l
        rw [List.getElem?_append_right (by rw [h.z]; exact Nat.le_refl _), h.z, hl]; simp
  · rw [List.map_append, List.nodup_append]
    refine ⟨h.nd, by simp, ?_⟩
    intro a ha b hb
    simp only [List.map_cons, List.map_nil, List.mem_singleton] at hb
    obtain ⟨y, hy, rfl⟩ := List.mem_map.1 ha
    have := (h.lt hy).2
    omega
theorem RelG.out {s : LS} {C : List Hd} {n : Nat} {x : Hd} (h : RelG s (x :: C) n) : ∃ s', outS s x.n = some s' ∧ RelG s' C n := by
  obtain ⟨k, e, h1, h2⟩ := h.each x (by simp)
  have hk := (List.getElem?_eq_some_iff.1 h1).1
  refine ⟨{ s with st := s.st.set k 1, wait := s.wait - 1, bytes := s.bytes - x.l }, ?_, ?_⟩
  · unfold outS
    rw [if_pos]
    · simp only [e, Int.toNat_natCast, List.getD, h2, Option.getD_some]
    · refine ⟨by omega, by omega, ?_⟩
      rw [e]
      simpa using h1
  · have hnd := h.nd
    simp only [List.map_cons, List.nodup_cons] at hnd
    refine ⟨h.z, by simp [h.v], ?_, hnd.2, ?_, ?_⟩
    · intro y hy
      obtain ⟨j, e', h3, h4⟩ := h.each y (by simp [hy])
      refine ⟨j, e', ?_, h4⟩
      show (s.st.set k 1)[j]? = some 0
      rw [List.getElem?_set, if_neg]
      · exact h3
      · rintro rfl
        exact hnd.1 (List.mem_map.2 ⟨y, hy, by rw [e', e]⟩)
    · show s.wait - 1 = _
      rw [h.wait]; simp
    · show s.bytes - x.l = _
      rw [h.bytes]; simp only [sumL]; omega
theorem RelG.outs {n : Nat} : ∀ {l : List Hd} {s : LS} {C : List Hd}, RelG s (l ++ C) n → ∃ s', outsS s (l.map Hd.n) = some s' ∧ RelG s' C n := by
  intro l
  induction l with
  | nil => intro s C h; exact ⟨s, rfl, h⟩
  | cons x r ih =>
    intro s C h
    obtain ⟨s1, h1, h2⟩ := RelG.out (C := r ++ C) h
    obtain ⟨s2, h3, h4⟩ := ih h2
    exact ⟨s2, by simp only [List.map_cons, outsS, h1]; exact h3, h4⟩
theorem step_keeps {M : QM} {cont : M.σ → List Hd} (hK : M.Keeps cont) {s : M.σ} {n : Nat} {ls : LS} (h : RelG ls (cont s) n) (st : Stp) : ∃ s2 s3, LStep ls st (stepQ M s n st).2 s2 s3 ∧ RelG s3 (cont (stepQ M s n st).1.1) (stepQ M s n st).1.2 := by
  by_cases hw : st.what = 0
  · have hstep : stepQ M s n st = (((M.put s st.lt (hdOf st n)).1, n + 1), ⟨-1, 0, -1, M.len (M.put s st.lt (hdOf st n)).1, M.bytes (M.put s st.lt (hdOf st n)).1, (M.put s st.lt (hdOf st n)).2.map Hd.n⟩) := by simp only [stepQ, if_pos hw]
    rw [hstep]
    have h1 := (h.add (x := hdOf st n) hw rfl rfl).perm (hK.put s st.lt (hdOf st n))
    obtain ⟨s2, h2, h3⟩ := h1.outs
    refine ⟨s2, s2, ⟨h2, ?_, ?_, ?_⟩, h3⟩
    · simp [takenS]
    · show M.len _ = s2.wait
      rw [hK.len, h3.wait]
    · show M.bytes _ = s2.bytes
      rw [hK.bytes, h3.bytes]
  · have ha : addS ls st = ls := by rw [addS, if_neg hw]
    by_cases hw1 : st.what = 1
    · have hstep : stepQ M s n st = (((M.take s st.lt).1, n), ⟨if (M.take s st.lt).2.2.2 then (M.take s st.lt).2.2.1.n else -1, if (M.take s st.lt).2.2.2 then (M.take s st.lt).2.2.1.m else 0, -1, M.len (M.take s st.lt).1, M.bytes (M.take s st.lt).1, (M.take s st.lt).2.1.map Hd.n⟩) := by simp only [stepQ, if_neg hw, if_pos hw1]
      rw [hstep]
      have h1 := h.perm (hK.take s st.lt)
      generalize M.take s st.lt = T at *
      obtain ⟨s1, L1, h1', ok⟩ := T
      rw [List.append_assoc] at h1
      obtain ⟨s2, h2, h3⟩ := h1.outs
      cases ok with
      | true =>
        simp only [if_true, List.singleton_append] at h3
        have hlt := h3.lt (x := h1') (by simp)
        obtain ⟨s3, h4, h5⟩ := h3.out
        refine ⟨s2, s3, ⟨by rw [ha]; exact h2, ?_, ?_, ?_⟩, h5⟩
        · simp only [takenS, if_true, if_pos hlt.1]; exact h4
        · show M.len _ = s3.wait
          rw [hK.len, h5.wait]
        · show M.bytes _ = s3.bytes
          rw [hK.bytes, h5.bytes]
      | false =>
        simp only [Bool.false_eq_true, if_false, List.nil_append] at h3
        refine ⟨s2, s2, ⟨by rw [ha]; exact h2, ?_, ?_, ?_⟩, h3⟩
        · simp [takenS]
        · show M.len _ = s2.wait
          rw [hK.len, h3.wait]
        · show M.bytes _ = s2.bytes
          rw [hK.bytes, h3.bytes]
    · have hstep : stepQ M s n st = (((M.when s st.lt).1, n), ⟨-1, 0, if (M.when s st.lt).2.2 then (M.when s st.lt).2.1 else -1, M.len (M.when s st.lt).1, M.bytes (M.when s st.lt).1, []⟩) := by simp only [stepQ, if_neg hw, if_neg hw1]
      rw [hstep]
      have h1 := h.perm (hK.when s st.lt)
      refine ⟨ls, ls, ⟨by rw [ha]; rfl, ?_, ?_, ?_⟩, h1⟩
      · simp [takenS]
      · show M.len _ = ls.wait
        rw [hK.len, h1.wait]
      · show M.bytes _ = ls.bytes
        rw [hK.bytes, h1.bytes]
/-- The whole count. -/
theorem play_keeps {M : QM} {cont : M.σ → List Hd} (hK : M.Keeps cont) {s0 : M.σ} (h0 : cont s0 = []) (ts : List Stp) : ∃ G G2 : Nat → LS, G 0 = ls0 ∧ ∀ i t sn, ts[i]? = some t → (playFrom M s0 0 ts)[i]? = some sn → LStep (G i) t sn (G2 i) (G (i + 1)) := by
  have hex : ∀ (ls : LS) (s : M.σ) (n : Nat) (st : Stp), ∃ p : LS × LS, RelG ls (cont s) n → LStep ls st (stepQ M s n st).2 p.1 p.2 ∧ RelG p.2 (cont (stepQ M s n st).1.1) (stepQ M s n st).1.2 := by
    intro ls s n st
    by_cases h : RelG ls (cont s) n
    · obtain ⟨s2, s3, h1, h2⟩ := step_keeps hK h st
      exact ⟨(s2, s3), fun _ => ⟨h1, h2⟩⟩
    · exact ⟨(ls, ls), fun h' => absurd h' h⟩
  let f : LS → M.σ → Nat → Stp → LS × LS := fun ls s n st => Classical.choose (hex ls s n st)
  have hf : ∀ ls s n st, RelG ls (cont s) n → LStep ls st (stepQ M s n st).2 (f ls s n st).1 (f ls s n st).2 ∧ RelG (f ls s n st).2 (cont (stepQ M s n st).1.1) (stepQ M s n st).1.2 := fun ls s n st => Classical.choose_spec (hex ls s n st)
  let Gf : Nat → LS × LS := fun i => Nat.rec (ls0, ls0) (fun i p => match ts[i]? with
    | none => p
    | some st => f p.2 (stFrom M s0 0 ts i).1 (stFrom M s0 0 ts i).2 st) i
  have hG : ∀ i, i ≤ ts.length → RelG (Gf i).2 (cont (stFrom M s0 0 ts i).1) (stFrom M s0 0 ts i).2 := by
    intro i
    induction i with
    | zero =>
      intro _
      show RelG ls0 _ _
      rw [stFrom_zero, h0]
      exact ⟨rfl, rfl, by simp, by simp, rfl, rfl⟩
    | succ i ih =>
      intro hi
      obtain ⟨st, hst⟩ : ∃ st, ts[i]? = some st := ⟨_, List.getElem?_eq_getElem (by omega)⟩
      have e : Gf (i + 1) = f (Gf i).2 (stFrom M s0 0 ts i).1 (stFrom M s0 0 ts i).2 st := by
        show (match ts[i]? with | none => Gf i | some st => f (Gf i).2 (stFrom M s0 0 ts i).1 (stFrom M s0 0 ts i).2 st) = _
        rw [hst]
      rw [e, stFrom_succ hst]
      exact (hf _ _ _ st (ih (by omega))).2
  refine ⟨fun i => (Gf i).2, fun i => (Gf (i + 1)).1, rfl, fun i t sn ht hsn => ?_⟩
  have hi := (List.getElem?_eq_some_iff.1 ht).1
  have e : Gf (i + 1) = f (Gf i).2 (stFrom M s0 0 ts i).1 (stFrom M s0 0 ts i).2 t := by
    show (match ts[i]? with | none => Gf i | some st => f (Gf i).2 (stFrom M s0 0 ts i).1 (stFrom M s0 0 ts i).2 st) = _
    rw [ht]
  rw [playFrom_at ht] at hsn
  obtain rfl := Option.some.inj hsn
  show LStep (Gf i).2 t _ (Gf (i + 1)).1 (Gf (i + 1)).2
  rw [e]
  exact (hf _ _ _ t (hG i (by omega))).1
end Go.Proofs.YtpgdocmpbeabpaaDoor
