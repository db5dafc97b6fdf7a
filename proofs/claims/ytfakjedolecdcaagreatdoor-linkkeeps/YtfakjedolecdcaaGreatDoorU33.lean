/-
  What left counts goes well with any queue that neither loses nor makes a packet; and what a Fifo tells in its own order. Mathematics alone: nothing of the program is claimed here.
  fair.Rounds are a queue as plain.Play and millracelaw.played ask it: a model; New's errors. Conditions: quanta and room within their bounds.
  fair.Hashed: what holds of it, and that Put and Take keep it. Mathematics alone.
  fair.Hashed is a queue as plain.Play and millracelaw.played ask it: a model. Conditions: its numbers within their bounds.
-/
import Derived.Test.YtfakjedolecdcaaGreatDoorLg
import Derived.Test.YtfakjedolecdcaaGreatDoorU8
import Derived.Test.YtfakjedolecdcaaGreatDoorU31
namespace Go.Proofs.YtfakjedolecdcaaGreatDoor

/-- The count and what waits. -/
structure RelG (s : LS) (C : List Hd) (n : Nat) : Prop where
  z : s.size.length = n
  v : s.st.length = n
  each : ∀ x ∈ C, ∃ k : Nat, x.n = (k : Int) ∧ s.st[k]? = some 0 ∧ s.size[k]? = some x.l
  nd : (C.map Hd.n).Nodup
  wait : s.wait = C.length
  bytes : s.bytes = sumL C
theorem RelG.perm {s : LS} {C C' : List Hd} {n : Nat} (h : RelG s C n) (hp : C.Perm C') : RelG s C' n :=
  ⟨h.z, h.v, fun x hx => h.each x (hp.mem_iff.2 hx), (hp.map Hd.n).nodup_iff.1 h.nd, by rw [h.wait, hp.length_eq], by rw [h.bytes, sumL_perm hp]⟩
theorem RelG.lt {s : LS} {C : List Hd} {n : Nat} (h : RelG s C n) {x : Hd} (hx : x ∈ C) : 0 ≤ x.n ∧ x.n < n := by
  obtain ⟨k, e, h1, _⟩ := h.each x hx
  have := (List.getElem?_eq_some_iff.1 h1).1
  rw [h.v] at this
  omega
theorem RelG.add {s : LS} {C : List Hd} {n : Nat} (h : RelG s C n) {t : Stp} {x : Hd} (hw : t.what = 0) (hl : t.l = x.l) (hx : x.n = n) : RelG (addS s t) (C ++ [x]) (n + 1) := by
  rw [addS, if_pos hw]
  refine ⟨by simp [h.z], by simp [h.v], ?_, ?_, by simp [h.wait], by simp only [h.bytes, sumL_append, hl, sumL]; omega⟩
  · intro y hy
    rcases List.mem_append.1 hy with hy | hy
    · obtain ⟨k, e, h1, h2⟩ := h.each y hy
      refine ⟨k, e, ?_, ?_⟩
      · show (s.st ++ [0])[k]? = some 0
        rw [List.getElem?_append_left (List.getElem?_eq_some_iff.1 h1).1]; exact h1
      · show (s.size ++ [t.l])[k]? = some y.l
        rw [List.getElem?_append_left (List.getElem?_eq_some_iff.1 h2).1]; exact h2
    · simp at hy
      subst hy
      refine ⟨n, hx, ?_, ?_⟩
      · show (s.st ++ [0])[n]? = some 0
        rw [List.getElem?_append_right (by rw [h.v]; exact Nat.le_refl _), h.v]; simp
      · show (s.size ++ [t.l])[n]? = some y.l
        rw [List.getElem?_append_right (by rw [h.z]; exact Nat.le_refl _), h.z, hl]; simp
  · rw [List.map_append, List.nodup_append]
    refine ⟨h.nd, by simp, ?_⟩
    intro a ha b hb
    simp only [List.map_cons, List.map_nil, List.mem_singleton] at hb
    obtain ⟨y, hy, rfl⟩ := List.mem_map.1 ha
    have := (h.lt hy).2
    omega
theorem RelG.out {s : LS} {C : List Hd} {n : Nat} {x : Hd} (h : RelG s (x :: C) n) : ∃ s', outS s x.n = some s' ∧ RelG s' C n := by
  obtain ⟨k, e, h1, h2⟩ := h.each x (by simp)
  have hk := (List.getElem?_eq_some_iff.1 h1).1
  refine ⟨{ s with st := s.st.set k 1, wait := s.wait - 1, bytes := s.bytes - x.l }, ?_, ?_⟩
  · unfold outS
    rw [if_pos]
    · simp only [e, Int.toNat_natCast, List.getD, h2, Option.getD_some]
    · refine ⟨by omega, by omega, ?_⟩
      rw [e]
      simpa using h1
  · have hnd := h.nd
    simp only [List.map_cons, List.nodup_cons] at hnd
    refine ⟨h.z, by simp [h.v], ?_, hnd.2, ?_, ?_⟩
    · intro y hy
      obtain ⟨j, e', h3, h4⟩ := h.each y (by simp [hy])
      refine ⟨j, e', ?_, h4⟩
      show (s.st.set k 1)[j]? = some 0
      rw [List.getElem?_set, if_neg]
      · exact h3
      · rintro rfl
        exact hnd.1 (List.mem_map.2 ⟨y, hy, by rw [e', e]⟩)
    · show s.wait - 1 = _
      rw [h.wait]; simp
    · show s.bytes - x.l = _
      rw [h.bytes]; simp only [sumL]; omega
theorem RelG.outs {n : Nat} : ∀ {l : List Hd} {s : LS} {C : List Hd}, RelG s (l ++ C) n → ∃ s', outsS s (l.map Hd.n) = some s' ∧ RelG s' C n := by
  intro l
  induction l with
  | nil => intro s C h; exact ⟨s, rfl, h⟩
  | cons x r ih =>
    intro s C h
    obtain ⟨s1, h1, h2⟩ := RelG.out (C := r ++ C) h
    obtain ⟨s2, h3, h4⟩ := ih h2
    exact ⟨s2, by simp only [List.map_cons, outsS, h1]; exact h3, h4⟩
theorem step_keeps {M : QM} {cont : M.σ → List Hd} (hK : M.Keeps cont) {s : M.σ} {n : Nat} {ls : LS} (h : RelG ls (cont s) n) (st : Stp) : ∃ s2 s3, LStep ls st (stepQ M s n st).2 s2 s3 ∧ RelG s3 (cont (stepQ M s n st).1.1) (stepQ M s n st).1.2 := by
  by_cases hw : st.what = 0
  · have hstep : stepQ M s n st = (((M.put s st.lt (hdOf st n)).1, n + 1), ⟨-1, 0, -1, M.len (M.put s st.lt (hdOf st n)).1, M.bytes (M.put s st.lt (hdOf st n)).1, (M.put s st.lt (hdOf st n)).2.map Hd.n⟩) := by simp only [stepQ, if_pos hw]
    rw [hstep]
    have h1 := (h.add (x := hdOf st n) hw rfl rfl).perm (hK.put s st.lt (hdOf st n))
    obtain ⟨s2, h2, h3⟩ := h1.outs
    refine ⟨s2, s2, ⟨h2, ?_, ?_, ?_⟩, h3⟩
    · simp [takenS]
    · show M.len _ = s2.wait
      rw [hK.len, h3.wait]
    · show M.bytes _ = s2.bytes
      rw [hK.bytes, h3.bytes]
  · have ha : addS ls st = ls := by rw [addS, if_neg hw]
    by_cases hw1 : st.what = 1
    · have hstep : stepQ M s n st = (((M.take s st.lt).1, n), ⟨if (M.take s st.lt).2.2.2 then (M.take s st.lt).2.2.1.n else -1, if (M.take s st.lt).2.2.2 then (M.take s st.lt).2.2.1.m else 0, -1, M.len (M.take s st.lt).1, M.bytes (M.take s st.lt).1, (M.take s st.lt).2.1.map Hd.n⟩) := by simp only [stepQ, if_neg hw, if_pos hw1]
      rw [hstep]
      have h1 := h.perm (hK.take s st.lt)
      generalize M.take s st.lt = T at *
      obtain ⟨s1, L1, h1', ok⟩ := T
      rw [List.append_assoc] at h1
      obtain ⟨s2, h2, h3⟩ := h1.outs
      cases ok with
      | true =>
        simp only [if_true, List.singleton_append] at h3
        have hlt := h3.lt (x := h1') (by simp)
        obtain ⟨s3, h4, h5⟩ := h3.out
        refine ⟨s2, s3, ⟨by rw [ha]; exact h2, ?_, ?_, ?_⟩, h5⟩
        · simp only [takenS, if_true, if_pos hlt.1]; exact h4
        · show M.len _ = s3.wait
          rw [hK.len, h5.wait]
        · show M.bytes _ = s3.bytes
          rw [hK.bytes, h5.bytes]
      | false =>
        simp only [Bool.false_eq_true, if_false, List.nil_append] at h3
        refine ⟨s2, s2, ⟨by rw [ha]; exact h2, ?_, ?_, ?_⟩, h3⟩
        · simp [takenS]
        · show M.len _ = s2.wait
          rw [hK.len, h3.wait]
        · show M.bytes _ = s2.bytes
          rw [hK.bytes, h3.bytes]
    · have hstep : stepQ M s n st = (((M.when s st.lt).1, n), ⟨-1, 0, if (M.when s st.lt).2.2 then (M.when s st.lt).2.1 else -1, M.len (M.when s st.lt).1, M.bytes (M.when s st.lt).1, []⟩) := by simp only [stepQ, if_neg hw, if_neg hw1]
      rw [hstep]
      have h1 := h.perm (hK.when s st.lt)
      refine ⟨ls, ls, ⟨by rw [ha]; rfl, ?_, ?_, ?_⟩, h1⟩
      · simp [takenS]
      · show M.len _ = ls.wait
        rw [hK.len, h1.wait]
      · show M.bytes _ = ls.bytes
        rw [hK.bytes, h1.bytes]
/-- The whole count. -/
theorem play_keeps {M : QM} {cont : M.σ → List Hd} (hK : M.Keeps cont) {s0 : M.σ} (h0 : cont s0 = []) (ts : List Stp) : ∃ G G2 : Nat → LS, G 0 = ls0 ∧ ∀ i t sn, ts[i]? = some t → (playFrom M s0 0 ts)[i]? = some sn → LStep (G i) t sn (G2 i) (G (i + 1)) := by
  have hex : ∀ (ls : LS) (s : M.σ) (n : Nat) (st : Stp), ∃ p : LS × LS, RelG ls (cont s) n → LStep ls st (stepQ M s n st).2 p.1 p.2 ∧ RelG p.2 (cont (stepQ M s n st).1.1) (stepQ M s n st).1.2 := by
    intro ls s n st
    by_cases h : RelG ls (cont s) n
    · obtain ⟨s2, s3, h1, h2⟩ := step_keeps hK h st
      exact ⟨(s2, s3), fun _ => ⟨h1, h2⟩⟩
    · exact ⟨(ls, ls), fun h' => absurd h' h⟩
  let f : LS → M.σ → Nat → Stp → LS × LS := fun ls s n st => Classical.choose (hex ls s n st)
  have hf : ∀ ls s n st, RelG ls (cont s) n → LStep ls st (stepQ M s n st).2 (f ls s n st).1 (f ls s n st).2 ∧ RelG (f ls s n st).2 (cont (stepQ M s n st).1.1) (stepQ M s n st).1.2 := fun ls s n st => Classical.choose_spec (hex ls s n st)
  let Gf : Nat → LS × LS := fun i => Nat.rec (ls0, ls0) (fun i p => match ts[i]? with
    | none => p
    | some st => f p.2 (stFrom M s0 0 ts i).1 (stFrom M s0 0 ts i).2 st) i
  have hG : ∀ i, i ≤ ts.length → RelG (Gf i).2 (cont (stFrom M s0 0 ts i).1) (stFrom M s0 0 ts i).2 := by
    intro i
    induction i with
    | zero =>
      intro _
      show RelG ls0 _ _
      rw [stFrom_zero, h0]
      exact ⟨rfl, rfl, by simp, by simp, rfl, rfl⟩
    | succ i ih =>
      intro hi
      obtain ⟨st, hst⟩ : ∃ st, ts[i]? = some st := ⟨_, List.getElem?_eq_getElem (by omega)⟩
      have e : Gf (i + 1) = f (Gf i).2 (stFrom M s0 0 ts i).1 (stFrom M s0 0 ts i).2 st := by
        show (match ts[i]? with | none => Gf i | some st => f (Gf i).2 (stFrom M s0 0 ts i).1 (stFrom M s0 0 ts i).2 st) = _
        rw [hst]
      rw [e, stFrom_succ hst]
      exact (hf _ _ _ st (ih (by omega))).2
  refine ⟨fun i => (Gf i).2, fun i => (Gf (i + 1)).1, rfl, fun i t sn ht hsn => ?_⟩
  have hi := (List.getElem?_eq_some_iff.1 ht).1
  have e : Gf (i + 1) = f (Gf i).2 (stFrom M s0 0 ts i).1 (stFrom M s0 0 ts i).2 t := by
    show (match ts[i]? with | none => Gf i | some st => f (Gf i).2 (stFrom M s0 0 ts i).1 (stFrom M s0 0 ts i).2 st) = _
    rw [ht]
  rw [playFrom_at ht] at hsn
  obtain rfl := Option.some.inj hsn
  show LStep (Gf i).2 t _ (Gf (i + 1)).1 (Gf (i + 1)).2
  rw [e]
  exact (hf _ _ _ t (hG i (by omega))).1
end Go.Proofs.YtfakjedolecdcaaGreatDoor
namespace Go.Proofs.YtfakjedolecdcaaGreatDoor
open Go.RowKit Go.Extern.Stop Go.Stop Go.Extern

theorem mRnP (a : Addr) (W : World) : (Go.method 395 126 (.pointer (some a)) "Put").run Tryz.prog W = .ok (180, .pointer (some a)) W := by kernel_rfl
theorem mRnT (a : Addr) (W : World) : (Go.method 395 126 (.pointer (some a)) "Take").run Tryz.prog W = .ok (181, .pointer (some a)) W := by kernel_rfl
theorem mRnW (a : Addr) (W : World) : (Go.method 395 126 (.pointer (some a)) "When").run Tryz.prog W = .ok (182, .pointer (some a)) W := by kernel_rfl
theorem mRnL (a : Addr) (W : World) : (Go.method 395 126 (.pointer (some a)) "Len").run Tryz.prog W = .ok (179, .pointer (some a)) W := by kernel_rfl
theorem mRnB (a : Addr) (W : World) : (Go.method 395 126 (.pointer (some a)) "Bytes").run Tryz.prog W = .ok (178, .pointer (some a)) W := by kernel_rfl
theorem eRnP (args : Array Value) (W : World) : (callFunc 180 args).run Tryz.prog W = .ok (.enter 180 args) W := enters_of Tryz.func180 (by kernel_rfl) rfl args W
theorem eRnT (args : Array Value) (W : World) : (callFunc 181 args).run Tryz.prog W = .ok (.enter 181 args) W := enters_of Tryz.func181 (by kernel_rfl) rfl args W
theorem eRnW (args : Array Value) (W : World) : (callFunc 182 args).run Tryz.prog W = .ok (.enter 182 args) W := enters_of Tryz.func182 (by kernel_rfl) rfl args W
theorem eRnL (args : Array Value) (W : World) : (callFunc 179 args).run Tryz.prog W = .ok (.enter 179 args) W := enters_of Tryz.func179 (by kernel_rfl) rfl args W
theorem eRnB (args : Array Value) (W : World) : (callFunc 178 args).run Tryz.prog W = .ok (.enter 178 args) W := enters_of Tryz.func178 (by kernel_rfl) rfl args W
/-- Rounds in block b. -/
def RoundsM (b : Nat) (room : Int) (q : Nat → Int) : QM where
  σ := RnS
  ty := 126
  rv := .pointer (some ⟨b, 0, none⟩)
  fP := 180
  fT := 181
  fW := 182
  fL := 179
  fB := 178
  rP := .pointer (some ⟨b, 0, none⟩)
  rT := .pointer (some ⟨b, 0, none⟩)
  rW := .pointer (some ⟨b, 0, none⟩)
  rL := .pointer (some ⟨b, 0, none⟩)
  rB := .pointer (some ⟨b, 0, none⟩)
  At := fun w F s => ∃ C vs tv, RnP w b room q C vs tv s ∧ ∀ k, F k ↔ RnF b vs tv k
  put := fun s _ x => putW room s x
  take := fun s _ => takeW q s
  when := fun s now => (s, now, !s.tn.isEmpty)
  len := fun s => (allF s.fl 16).length
  bytes := fun s => sumL (allF s.fl 16)
  inv := fun _ n s => RnI q s ∧ (allF s.fl 16).length ≤ n ∧ SO n s
theorem allF_len {fl : Nat → List Hd} {N f : Nat} (hf : f < N) : (fl f).length ≤ (allF fl N).length := by
  obtain ⟨R, h1, _⟩ := allF_split (fl := fl) hf []
  rw [h1.length_eq, List.length_append]
  omega
theorem allF_mem {fl : Nat → List Hd} {N : Nat} {x : Hd} (h : x ∈ allF fl N) : ∃ f, f < N ∧ x ∈ fl f := by
  unfold allF at h
  obtain ⟨f, hf, hx⟩ := List.mem_flatMap.1 h
  exact ⟨f, List.mem_range.1 hf, hx⟩
theorem rn_fit {q : Nat → Int} {s : RnS} {n : Nat} (h : RnI q s) (hn : (allF s.fl 16).length ≤ n) (hn1 : n ≤ 1001) : Fit (allF s.fl 16) := by
  refine ⟨by omega, fun x hx => ?_⟩
  obtain ⟨f, hf, hx⟩ := allF_mem hx
  have := ok_len (h.ok f hf x hx).1
  omega
theorem roundsM_fine (b : Nat) (room : Int) (q : Nat → Int) : (RoundsM b room q).Fine where
  kept := by
    rintro w w' F s ⟨C, vs, tv, h, hF⟩ hk
    exact ⟨C, vs, tv, h.kept (fun k hk' => hk k ((hF k).2 hk')), hF⟩
  low := by
    rintro w F s ⟨C, vs, tv, h, hF⟩ k hk
    exact h.low ((hF k).1 hk)
  mP := mRnP ⟨b, 0, none⟩
  mT := mRnT ⟨b, 0, none⟩
  mW := mRnW ⟨b, 0, none⟩
  mL := mRnL ⟨b, 0, none⟩
  mB := mRnB ⟨b, 0, none⟩
  eP := eRnP
  eT := eRnT
  eW := eRnW
  eL := eRnL
  eB := eRnB
  cP := by
    rintro w F (s : RnS) t n now x ⟨C, vs, tv, h, hF⟩ hI ht0 ht1 ht2 hok hxa hxn hn
    have hfl := ok_flow hok
    have hxl := ok_len hok
    have hfit : Fit (s.fl x.f.toNat ++ [x]) := by
      have h1 := allF_len (fl := s.fl) (N := 16) (show x.f.toNat < 16 by omega)
      have h2 := hI.1.fit (show x.f.toNat < 16 by omega)
      have h3 := hI.2.1
      refine ⟨by simp; omega, fun y hy => ?_⟩
      rcases List.mem_append.1 hy with h4 | h4
      · exact h2.2 y h4
      · simp at h4; subst h4; omega
    refine (rpt_any now x w h hI.1 hok hfit).mono ?_
    rintro e w' ⟨u, C', vs', tv', rfl, hT⟩
    exact ⟨u, RnF b vs' tv', rfl, hT.lost, ⟨C', vs', tv', hT.pos.pos, fun k => Iff.rfl⟩, fun k hk => by rcases hT.pos.own k hk with h1 | h1; exact Or.inl ((hF k).2 h1); exact Or.inr h1, fun k hk => Or.inr (hT.new k hk), hT.pos.ot.mono (fun k _ h1 => (hF k).2 h1)⟩
  iP := by
    intro (s : RnS) t n now x hI ht0 ht1 ht2 hok hxa hxn hn
    have hfl := ok_flow hok
    have h1 := allF_len (fl := s.fl) (N := 16) (show x.f.toNat < 16 by omega)
    have h2 := hI.2.1
    have h3 := (putW_keeps room s x).length_eq
    simp only [List.length_append, List.length_cons, List.length_nil] at h3
    refine ⟨⟨hI.1.put (by omega), ?_, hI.2.2.put hxn⟩, ?_⟩
    · show (allF (putW room s x).1.fl 16).length ≤ n + 1
      omega
    · show (putW room s x).2.length ≤ _
      omega
  cT := by
    rintro w F (s : RnS) t n now ⟨C, vs, tv, h, hF⟩ hI ht0 ht1 ht2 hn
    refine (rtk_any now w h hI.1).mono ?_
    rintro e w' ⟨rfl, C', vs', tv', hT⟩
    have hl : (takeW q s).2.1 = [] := by
      rcases takeW_fl q (mu s + 1) s (Nat.lt_succ_self _) with ⟨_, _, h3⟩ | ⟨_, _, _, _, _, _, h3⟩
      · exact h3
      · rw [h3]
    refine ⟨.slice none 0 0, RnF b vs' tv', rfl, ?_, ⟨C', vs', tv', hT.pos, fun k => Iff.rfl⟩, fun k hk => by rcases hT.own k hk with h1 | h1; exact Or.inl ((hF k).2 h1); exact Or.inr h1, fun k hk => by simp [Value.ownBlock] at hk, hT.ot.mono (fun k _ h1 => (hF k).2 h1)⟩
    show Hs w' _ (takeW q s).2.1
    rw [hl]
    exact Hs.nil _
  iT := by
    intro (s : RnS) t n now hI ht0 ht1 ht2 hn
    have h2 := hI.2.1
    have h3 := (takeW_keeps q s).length_eq
    rw [List.length_append, List.length_append] at h3
    refine ⟨⟨RnI.take (mu s + 1) s (Nat.lt_succ_self _) hI.1, ?_, hI.2.2.take⟩, ?_⟩
    · show (allF (takeW q s).1.fl 16).length ≤ n
      omega
    · show (takeW q s).2.1.length ≤ _
      omega
  cW := by
    rintro w F (s : RnS) t n now ⟨C, vs, tv, h, hF⟩ hI ht0 ht1 ht2 hn
    refine (rwhen_any now w h).mono ?_
    rintro e w' ⟨rfl, rfl⟩
    exact ⟨F, rfl, ⟨C, vs, tv, h, hF⟩, fun k hk => Or.inl hk, Ot.refl _ _⟩
  iW := by
    intro (s : RnS) t n now hI ht0 ht1 ht2 hn
    exact hI
  cL := by
    rintro w F (s : RnS) t n ⟨C, vs, tv, h, hF⟩ hI hn
    exact (rlen_any w h (rn_fit hI.1 hI.2.1 hn)).mono (by rintro e w' ⟨rfl, rfl⟩; exact ⟨rfl, Below.refl _ _⟩)
  cB := by
    rintro w F (s : RnS) t n ⟨C, vs, tv, h, hF⟩ hI hn
    exact (rbts_any w h (rn_fit hI.1 hI.2.1 hn)).mono (by rintro e w' ⟨rfl, rfl⟩; exact ⟨rfl, Below.refl _ _⟩)
theorem rounds_keeps (b : Nat) (room : Int) (q : Nat → Int) : (RoundsM b room q).Keeps (fun s => allF s.fl 16) where
  put := fun s _ x => putW_keeps room s x
  take := fun s _ => takeW_keeps q s
  when := fun _ _ => List.Perm.refl _
  len := fun _ => rfl
  bytes := fun _ => rfl
theorem rn0_inv {q : Nat → Int} (hq : ∀ f, f < 16 → 1 ≤ q f ∧ q f ≤ 1000000) : RnI q rn0 := ⟨by simp [rn0], by simp [rn0], by simp [rn0], by simp [rn0], by simp [rn0], by simp [rn0], by simp [rn0], hq⟩
theorem qF_ok {f : Nat → Int} {m : Nat} (hm : 1 ≤ m) (hq : allQ f m = true) : ∀ i, i < 16 → 1 ≤ qF f m 16 i ∧ qF f m 16 i ≤ 1000000 := by
  intro i hi
  rw [qF, if_pos hi]
  exact allQ_yes hq (by omega)
theorem newRn_len {px : Option Addr} {m pcap : Nat} (room : Int) (w : World) (hm : m < 1 ∨ 16 < m) (hm1 : m ≤ 9223372036854775807) :
    Calls Tryz.prog 51 #[.int .i64 room, .slice px m pcap] w fun e w' => e = .returned (.tuple #[.pointer none, .iface 57 (.int .i64 4)]) ∧ w' = w := by
  rcases hm with h | h
  · obtain rfl : m = 0 := by omega
    go_enter Tryz.func51, Tryz.ntmps51
    go_wp2
    go_ret2
    exact ⟨rfl, rfl⟩
  · go_enter Tryz.func51, Tryz.ntmps51
    go_wp2
    go_ret2
    exact ⟨rfl, rfl⟩
theorem newRn_range {px : Option Addr} {m pcap : Nat} {f : Nat → Int} (room : Int) (w : World) (h : IRow w px m f) (hm0 : 1 ≤ m) (hm : m ≤ 16) (hr : room < 0 ∨ 1000000 < room ∨ allQ f m = false) :
    Calls Tryz.prog 51 #[.int .i64 room, .slice px m pcap] w fun e w' => e = .returned (.tuple #[.pointer none, .iface 57 (.int .i64 2)]) ∧ w' = w := by
  have HC := qcont_any (pcap := pcap) w h (by omega)
  have hmi : (1 : Int) ≤ m ∧ (m : Int) ≤ 16 := by omega
  clear h
  by_cases h1 : room < 0
  · clear hr
    go_enter Tryz.func51, Tryz.ntmps51
    go_wp2
    go_ret2
    exact ⟨rfl, rfl⟩
  · by_cases h2 : 1000000 < room
    · clear hr
      go_enter Tryz.func51, Tryz.ntmps51
      go_wp2
      go_ret2
      exact ⟨rfl, rfl⟩
    · have h3 : allQ f m = false := by
        rcases hr with h | h | h
        · exact absurd h h1
        · exact absurd h h2
        · exact h
      rw [h3] at HC
      clear hr h3
      go_enter Tryz.func51, Tryz.ntmps51
      go_wp2_with (go_at_call 68; refine HC.mono ?_; rintro e w2 ⟨rfl, hw2⟩; subst hw2)
      go_ret2
      exact ⟨rfl, rfl⟩
end Go.Proofs.YtfakjedolecdcaaGreatDoor
namespace Go.Proofs.YtfakjedolecdcaaGreatDoor
open Go.RowKit Go.Extern.Stop Go.Stop Go.Extern

/-- What holds of a Hashed. -/
structure HaI (p : HaC) (s : HaS) : Prop where
  tin : ∀ m ∈ s.tn, 0 ≤ m ∧ m < 64
  tnd : s.tn.Nodup
  tfl : ∀ f : Nat, f < 64 → ((f : Int) ∈ s.tn ↔ s.fl f ≠ [])
  ok : ∀ f, f < 64 → ∀ x ∈ s.fl f, x.ok = true ∧ whereN p x.f = (f : Int)
theorem HaI.zero (p : HaC) : HaI p ha0 := ⟨by simp [ha0], by simp [ha0], by simp [ha0], by simp [ha0]⟩
theorem HaI.into {p : HaC} {s : HaS} {x : Hd} (h : HaI p s) (hm0 : 1 ≤ p.many) (hm1 : p.many ≤ 64) (hok : x.ok = true) : HaI p (intoH p s x) := by
  have hw := whereN_bd hm0 x.f
  obtain ⟨f, hf⟩ : ∃ f : Nat, whereN p x.f = f := ⟨(whereN p x.f).toNat, by omega⟩
  have hf64 : f < 64 := by omega
  unfold intoH
  rw [hf, Int.toNat_natCast]
  have hok' : ∀ g, g < 64 → ∀ y ∈ updF s.fl f (s.fl f ++ [x]) g, y.ok = true ∧ whereN p y.f = (g : Int) := by
    intro g hg y hy
    by_cases e : g = f
    · subst e
      rw [updF_same] at hy
      rcases List.mem_append.1 hy with h1 | h1
      · exact h.ok g hg y h1
      · simp at h1; subst h1; exact ⟨hok, hf⟩
    · rw [updF_ne e] at hy; exact h.ok g hg y hy
  cases he : s.fl f with
  | nil =>
    have hnin : (f : Int) ∉ s.tn := fun hm => (h.tfl f hf64).1 hm he
    simp only [List.isEmpty_nil, if_true]
    rw [he] at hok'
    refine ⟨fun m hm => ?_, ?_, fun g hg => ?_, hok'⟩
    · rcases List.mem_append.1 hm with h1 | h1
      · exact h.tin m h1
      · simp at h1; omega
    · show (s.tn ++ [(f : Int)]).Nodup
      rw [List.nodup_append]
      exact ⟨h.tnd, by simp, fun a ha b hb e => by simp at hb; subst hb; subst e; exact hnin ha⟩
    · show (g : Int) ∈ s.tn ++ [(f : Int)] ↔ updF s.fl f ([] ++ [x]) g ≠ []
      by_cases e : g = f
      · subst e; rw [updF_same]; simp
      · rw [updF_ne e, ← h.tfl g hg]; simp; omega
  | cons y L =>
    simp only [List.isEmpty_cons, Bool.false_eq_true, if_false]
    rw [he] at hok'
    refine ⟨h.tin, h.tnd, fun g hg => ?_, hok'⟩
    show (g : Int) ∈ s.tn ↔ updF s.fl f (y :: L ++ [x]) g ≠ []
    by_cases e : g = f
    · subst e; rw [updF_same, h.tfl g hg, he]; simp
    · rw [updF_ne e]; exact h.tfl g hg
/-- A list loses some of its packets; if all, its turn goes too. -/
theorem HaI.less {p : HaC} {s : HaS} (h : HaI p s) {f : Nat} (hf : f < 64) {L : List Hd} {t : List Int} (hL : ∀ y ∈ L, y ∈ s.fl f) (hne : s.fl f ≠ []) (ht : t.Nodup) (hm : ∀ m, m ∈ t ↔ (m ∈ s.tn ∧ (m = (f : Int) → L ≠ []))) : HaI p { fl := updF s.fl f L, tn := t } where
  tin := fun m hm' => h.tin m ((hm m).1 hm').1
  tnd := ht
  tfl := fun g hg => by
    show (g : Int) ∈ t ↔ updF s.fl f L g ≠ []
    rw [hm, h.tfl g hg]
    by_cases e : g = f
    · subst e; rw [updF_same]
      exact ⟨fun h1 => h1.2 rfl, fun h1 => ⟨hne, fun _ => h1⟩⟩
    · rw [updF_ne e]
      exact ⟨fun h1 => h1.1, fun h1 => ⟨h1, fun e2 => absurd (by omega : g = f) e⟩⟩
  ok := fun g hg y hy => by
    have hy' : y ∈ updF s.fl f L g := hy
    by_cases e : g = f
    · subst e; rw [updF_same] at hy'; exact h.ok g hg y (hL y hy')
    · rw [updF_ne e] at hy'; exact h.ok g hg y hy'
theorem HaI.take {p : HaC} {s : HaS} (h : HaI p s) : HaI p (takeH s).1 := by
  unfold takeH
  cases ht : s.tn with
  | nil => simpa using h
  | cons m B =>
    simp only
    have hm := h.tin m (by rw [ht]; simp)
    obtain ⟨f, hf⟩ : ∃ f : Nat, m = f := ⟨m.toNat, by omega⟩
    subst hf
    rw [Int.toNat_natCast]
    have hf64 : f < 64 := by omega
    have hnd := h.tnd
    rw [ht, List.nodup_cons] at hnd
    cases hL : s.fl f with
    | nil => simpa using h
    | cons x L =>
      simp only
      rw [if_pos hf64]
      refine h.less hf64 (fun y hy => by rw [hL]; exact List.mem_cons_of_mem _ hy) (by rw [hL]; simp) ?_ (fun m => ?_)
      · split
        · exact hnd.2
        · rw [List.nodup_append]
          exact ⟨hnd.2, by simp, fun a ha b hb e => by simp at hb; subst hb; subst e; exact hnd.1 ha⟩
      · rw [ht]
        cases L with
        | nil =>
          simp only [List.isEmpty_nil, if_true, List.mem_cons, ne_eq, not_true_eq_false, imp_false]
          exact ⟨fun h1 => ⟨Or.inr h1, fun e => hnd.1 (e ▸ h1)⟩, fun h1 => h1.1.resolve_left h1.2⟩
        | cons y L' =>
          simp only [List.isEmpty_cons, Bool.false_eq_true, if_false, List.mem_append, List.mem_cons, List.not_mem_nil, or_false]
          exact ⟨fun h1 => ⟨h1.symm, fun _ => by simp⟩, fun h1 => h1.1.symm⟩
theorem HaI.cut {p : HaC} {s : HaS} (h : HaI p s) (hne : s.fl (longK s.fl 64) ≠ []) : HaI p (cutH s).1 := by
  have hK := longK_lt s.fl 64 (by decide)
  unfold cutH
  generalize longK s.fl 64 = f at *
  have hin := (h.tfl f hK).2 hne
  refine h.less hK (fun y hy => (List.dropLast_sublist _).subset hy) hne ?_ (fun m => ?_)
  · split
    · exact h.tnd.erase _
    · exact h.tnd
  · by_cases hd : (s.fl f).dropLast = []
    · rw [hd]
      simp only [List.isEmpty_nil, if_true, ne_eq, not_true_eq_false, imp_false]
      rw [h.tnd.mem_erase_iff]
      exact ⟨fun h1 => ⟨h1.2, h1.1⟩, fun h1 => ⟨h1.2, h1.1⟩⟩
    · have e : (s.fl f).dropLast.isEmpty = false := by rw [Bool.eq_false_iff]; intro e; exact hd (List.isEmpty_iff.1 e)
      rw [e]
      exact ⟨fun h1 => ⟨h1, fun _ => hd⟩, fun h1 => h1.1⟩
theorem into_keeps {p : HaC} (hm0 : 1 ≤ p.many) (hm1 : p.many ≤ 64) (s : HaS) (x : Hd) : (allF s.fl 64 ++ [x]).Perm (allF (intoH p s x).fl 64) := by
  have hw := whereN_bd hm0 x.f
  obtain ⟨R, h1, h2⟩ := allF_split (fl := s.fl) (N := 64) (show (whereN p x.f).toNat < 64 by omega) (s.fl (whereN p x.f).toNat ++ [x])
  show (allF s.fl 64 ++ [x]).Perm (allF (updF s.fl (whereN p x.f).toNat (s.fl (whereN p x.f).toNat ++ [x])) 64)
  refine (h1.append_right [x]).trans (List.Perm.trans ?_ h2.symm)
  rw [List.append_assoc, List.append_assoc]
  exact List.Perm.append_left _ List.perm_append_comm
theorem snoc_last {L : List Hd} (h : L ≠ []) : L = L.dropLast ++ [lsOr L] := by
  rcases snoc_or L with rfl | ⟨A, x, rfl⟩
  · exact absurd rfl h
  · simp [lsOr]
theorem cut_keeps {s : HaS} (hne : s.fl (longK s.fl 64) ≠ []) : (allF s.fl 64).Perm ([(cutH s).2] ++ allF (cutH s).1.fl 64) := by
  have hK := longK_lt s.fl 64 (by decide)
  show (allF s.fl 64).Perm ([lsOr (s.fl (longK s.fl 64))] ++ allF (updF s.fl (longK s.fl 64) (s.fl (longK s.fl 64)).dropLast) 64)
  generalize longK s.fl 64 = f at *
  obtain ⟨R, h1, h2⟩ := allF_split (fl := s.fl) hK (s.fl f).dropLast
  have h3 := snoc_last hne
  refine h1.trans (List.Perm.trans ?_ (h2.append_left [lsOr (s.fl f)]).symm)
  have e : s.fl f ++ R = (s.fl f).dropLast ++ ([lsOr (s.fl f)] ++ R) := by rw [← List.append_assoc, ← h3]
  rw [e, ← List.append_assoc, ← List.append_assoc]
  exact List.Perm.append_right R List.perm_append_comm
/-- The longest list is not empty where any wait. -/
theorem long_some {fl : Nat → List Hd} {f : Nat} (hf : f < 64) (h : fl f ≠ []) : fl (longK fl 64) ≠ [] := by
  intro e
  have h1 := longK_max fl 64 f hf
  rw [e] at h1
  exact h (List.eq_nil_of_length_eq_zero (by simpa using h1))
theorem into_some {p : HaC} (hm0 : 1 ≤ p.many) (hm1 : p.many ≤ 64) (s : HaS) (x : Hd) : (intoH p s x).fl (longK (intoH p s x).fl 64) ≠ [] := by
  have hw := whereN_bd hm0 x.f
  refine long_some (f := (whereN p x.f).toNat) (by omega) ?_
  show updF s.fl (whereN p x.f).toNat (s.fl (whereN p x.f).toNat ++ [x]) (whereN p x.f).toNat ≠ []
  rw [updF_same]
  simp
theorem putH_keeps {p : HaC} (hm0 : 1 ≤ p.many) (hm1 : p.many ≤ 64) (s : HaS) (x : Hd) : (allF s.fl 64 ++ [x]).Perm ((putH p s x).2 ++ allF (putH p s x).1.fl 64) := by
  unfold putH
  split
  · exact into_keeps hm0 hm1 s x
  · exact (into_keeps hm0 hm1 s x).trans (cut_keeps (into_some hm0 hm1 s x))
theorem takeH_fl (s : HaS) : ((takeH s).2.2.2 = false ∧ (takeH s).1.fl = s.fl ∧ (takeH s).2.1 = []) ∨ ∃ f x L, f < 64 ∧ s.fl f = x :: L ∧ (takeH s).1.fl = updF s.fl f L ∧ (takeH s).2 = ([], x, true) := by
  unfold takeH
  cases ht : s.tn with
  | nil => exact Or.inl ⟨rfl, rfl, rfl⟩
  | cons m B =>
    simp only
    cases hL : s.fl m.toNat with
    | nil => exact Or.inl ⟨rfl, rfl, rfl⟩
    | cons x L =>
      simp only
      split
      · rename_i hm
        exact Or.inr ⟨m.toNat, x, L, hm, hL, rfl, rfl⟩
      · exact Or.inl ⟨rfl, rfl, rfl⟩
end Go.Proofs.YtfakjedolecdcaaGreatDoor
namespace Go.Proofs.YtfakjedolecdcaaGreatDoor
open Go.RowKit Go.Extern.Stop Go.Stop Go.Extern

theorem mHaP (a : Addr) (W : World) : (Go.method 395 122 (.pointer (some a)) "Put").run Tryz.prog W = .ok (162, .pointer (some a)) W := by kernel_rfl
theorem mHaT (a : Addr) (W : World) : (Go.method 395 122 (.pointer (some a)) "Take").run Tryz.prog W = .ok (163, .pointer (some a)) W := by kernel_rfl
theorem mHaW (a : Addr) (W : World) : (Go.method 395 122 (.pointer (some a)) "When").run Tryz.prog W = .ok (164, .pointer (some a)) W := by kernel_rfl
theorem mHaL (a : Addr) (W : World) : (Go.method 395 122 (.pointer (some a)) "Len").run Tryz.prog W = .ok (161, .pointer (some a)) W := by kernel_rfl
theorem mHaB (a : Addr) (W : World) : (Go.method 395 122 (.pointer (some a)) "Bytes").run Tryz.prog W = .ok (160, .pointer (some a)) W := by kernel_rfl
theorem eHaP (args : Array Value) (W : World) : (callFunc 162 args).run Tryz.prog W = .ok (.enter 162 args) W := enters_of Tryz.func162 (by kernel_rfl) rfl args W
theorem eHaT (args : Array Value) (W : World) : (callFunc 163 args).run Tryz.prog W = .ok (.enter 163 args) W := enters_of Tryz.func163 (by kernel_rfl) rfl args W
theorem eHaW (args : Array Value) (W : World) : (callFunc 164 args).run Tryz.prog W = .ok (.enter 164 args) W := enters_of Tryz.func164 (by kernel_rfl) rfl args W
theorem eHaL (args : Array Value) (W : World) : (callFunc 161 args).run Tryz.prog W = .ok (.enter 161 args) W := enters_of Tryz.func161 (by kernel_rfl) rfl args W
theorem eHaB (args : Array Value) (W : World) : (callFunc 160 args).run Tryz.prog W = .ok (.enter 160 args) W := enters_of Tryz.func160 (by kernel_rfl) rfl args W
/-- Each list's numbers go up, and are below n. -/
def SH (n : Nat) (s : HaS) : Prop := ∀ f, f < 64 → ((s.fl f).map Hd.n).Pairwise (· < ·) ∧ ∀ x ∈ s.fl f, 0 ≤ x.n ∧ x.n < (n : Int)
theorem SH.less {n : Nat} {s s' : HaS} (h : SH n s) {f : Nat} {L : List Hd} (hs : s'.fl = updF s.fl f L) (hL : L.Sublist (s.fl f)) : SH n s' := by
  intro g hg
  rw [hs]
  by_cases e : g = f
  · subst e; rw [updF_same]
    exact ⟨(h g hg).1.sublist (hL.map _), fun x hx => (h g hg).2 x (hL.subset hx)⟩
  · rw [updF_ne e]; exact h g hg
theorem SH.into {n : Nat} {p : HaC} {s : HaS} {x : Hd} (h : SH n s) (hx : x.n = (n : Int)) : SH (n + 1) (intoH p s x) := by
  have hw : SH (n + 1) s := fun f hf => ⟨(h f hf).1, fun y hy => by have := (h f hf).2 y hy; omega⟩
  intro f hf
  show ((updF s.fl (whereN p x.f).toNat (s.fl (whereN p x.f).toNat ++ [x]) f).map Hd.n).Pairwise (· < ·) ∧ ∀ y ∈ updF s.fl (whereN p x.f).toNat (s.fl (whereN p x.f).toNat ++ [x]) f, 0 ≤ y.n ∧ y.n < ((n + 1 : Nat) : Int)
  by_cases e : f = (whereN p x.f).toNat
  · rw [e, updF_same, ← e]
    refine ⟨?_, fun y hy => ?_⟩
    · rw [List.map_append, List.pairwise_append]
      refine ⟨(h _ hf).1, by simp, fun a ha b hb => ?_⟩
      obtain ⟨y, hy, rfl⟩ := List.mem_map.1 ha
      simp at hb
      subst hb
      have := (h _ hf).2 y hy
      omega
    · rcases List.mem_append.1 hy with h1 | h1
      · have := (h _ hf).2 y h1; omega
      · simp at h1; subst h1; omega
  · rw [updF_ne e]; exact hw f hf
/-- A Hashed in block b. -/
def HashM (b : Nat) (p : HaC) : QM where
  σ := HaS
  ty := 122
  rv := .pointer (some ⟨b, 0, none⟩)
  fP := 162
  fT := 163
  fW := 164
  fL := 161
  fB := 160
  rP := .pointer (some ⟨b, 0, none⟩)
  rT := .pointer (some ⟨b, 0, none⟩)
  rW := .pointer (some ⟨b, 0, none⟩)
  rL := .pointer (some ⟨b, 0, none⟩)
  rB := .pointer (some ⟨b, 0, none⟩)
  At := fun w F s => ∃ C vs tv, HaP w b p C vs tv s ∧ ∀ k, F k ↔ HaF b vs tv k
  put := fun s _ x => putH p s x
  take := fun s _ => takeH s
  when := fun s now => (s, now, !s.tn.isEmpty)
  len := fun s => (allF s.fl 64).length
  bytes := fun s => sumL (allF s.fl 64)
  inv := fun _ n s => HaI p s ∧ (allF s.fl 64).length ≤ n ∧ SH n s
end Go.Proofs.YtfakjedolecdcaaGreatDoor
