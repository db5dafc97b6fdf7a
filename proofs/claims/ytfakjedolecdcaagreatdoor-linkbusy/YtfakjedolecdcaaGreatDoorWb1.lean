/-
  A WIRE IS NEVER IDLE WHILE SOMETHING WAITS, in plain numbers: whatever order a queue has that lets go at once and loses nothing, the spans in which the wire is busy are those of who comes first. Mathematics alone: nothing of the program is claimed here. Conditions: packets and a rate that may be.
-/
import Derived.Test.YtfakjedolecdcaaGreatDoorGq
namespace Go.Proofs.YtfakjedolecdcaaGreatDoor

theorem snoc_indW {α : Type} {P : List α → Prop} (h0 : P []) (h1 : ∀ l x, P l → P (l ++ [x])) (l : List α) : P l := by
  have h2 : ∀ r : List α, P r.reverse := by
    intro r
    induction r with
    | nil => exact h0
    | cons x r ih => rw [List.reverse_cons]; exact h1 _ _ ih
  have h := h2 l.reverse
  rwa [List.reverse_reverse] at h
/-- A span more: it goes on with the last one, or begins anew. -/
def psh (o : List Int) (f e : Int) : List Int := if o.getLast? = some f then o.dropLast ++ [e] else o ++ [f, e]
theorem psh_last (o : List Int) (f e : Int) : (psh o f e).getLast? = some e := by
  unfold psh
  split <;> simp
theorem psh_psh (o : List Int) (f e g : Int) : psh (psh o f e) e g = psh o f g := by
  rw [show psh (psh o f e) e g = if (psh o f e).getLast? = some e then (psh o f e).dropLast ++ [g] else psh o f e ++ [e, g] from rfl, if_pos (psh_last o f e)]
  unfold psh
  split
  · simp
  · rw [show o ++ [f, e] = (o ++ [f]) ++ [e] by simp, List.dropLast_concat]
    simp
def spn (l : List Snt) : List Int := l.foldl (fun o s => psh o s.f s.t) []
theorem spn_snoc (l : List Snt) (s : Snt) : spn (l ++ [s]) = psh (spn l) s.f s.t := by unfold spn; rw [List.foldl_append]; rfl
/-- The spans of who comes first. -/
def spC (items : List It) (n t : Int) : Nat → List Int
  | 0 => []
  | k + 1 => psh (spC items n t k) (bgA items n t k) (frA items n t (k + 1))
def tkS (n t : Int) : List Hd → Int
  | [] => 0
  | x :: r => tkL n t x.l + tkS n t r
theorem tkS_append (n t : Int) (a b : List Hd) : tkS n t (a ++ b) = tkS n t a + tkS n t b := by
  induction a with
  | nil => simp [tkS]
  | cons x r ih => simp only [List.cons_append, tkS, ih]; omega
theorem tkS_perm {n t : Int} {a b : List Hd} (h : a.Perm b) : tkS n t a = tkS n t b := by
  induction h with
  | nil => rfl
  | cons x _ ih => simp only [tkS, ih]
  | swap x y l => simp only [tkS]; omega
  | trans _ _ h1 h2 => exact h1.trans h2
theorem tkS_nonneg {n t : Int} (hr : okRate n t = true) (l : List Hd) : 0 ≤ tkS n t l := by
  induction l with
  | nil => exact Int.le_refl _
  | cons x r ih => have := (tkL_le (x := x.l) hr).1; simp only [tkS]; omega
/-- A queue that lets go at once and loses nothing: what waits in it. -/
structure QM.Prompt (M : QM) (cont : M.σ → List Hd) (N : Nat) : Prop where
  put : ∀ {t : Int} {n : Nat} {s : M.σ} (now : Int) (x : Hd), M.inv t n s → n < N → x.ok = true → (cont s).length ≤ n → (∀ y ∈ cont s, y.ok = true) → (M.put s now x).2 = [] ∧ (cont (M.put s now x).1).Perm (cont s ++ [x])
  take : ∀ {t : Int} {n : Nat} {s : M.σ} (now : Int), M.inv t n s → n ≤ N → (M.take s now).2.1 = [] ∧ ((M.take s now).2.2.2 = false ∧ cont s = [] ∧ cont (M.take s now).1 = [] ∨ (M.take s now).2.2.2 = true ∧ (cont s).Perm ((M.take s now).2.2.1 :: cont (M.take s now).1))
  len : ∀ s, M.len s = (cont s).length
structure WbJ (M : QM) (cont : M.σ → List Hd) (items : List It) (n t now : Int) (S : LkS M.σ) : Prop where
  lost : S.lost = []
  put : S.put ≤ items.length
  len : S.sent.length + (cont S.s).length = S.put
  okc : ∀ x ∈ cont S.s, x.ok = true
  work0 : cont S.s = [] → frA items n t S.put = S.free ∧ spn S.sent = spC items n t S.put
  work1 : cont S.s ≠ [] → frA items n t S.put = max S.free now + tkS n t (cont S.s) ∧ psh (spn S.sent) (max S.free now) (frA items n t S.put) = spC items n t S.put
def WbN {M : QM} (cont : M.σ → List Hd) (items : List It) (now : Int) (S : LkS M.σ) : Prop := (cont S.s ≠ [] → now ≤ S.free) ∧ (cont S.s = [] → S.put < items.length → now ≤ (items.getD S.put it0).a)
section
variable {M : QM} {cont : M.σ → List Hd} {N : Nat} {items : List It} {n t now : Int} {S : LkS M.σ}
theorem wb_put (hP : M.Prompt cont N) (hr : okRate n t = true) (h : WbJ M cont items n t now S) {tI : Int} (hinv : M.inv tI S.put S.s) {x : It} (hx : items[S.put]? = some x) (hN : items.length ≤ N) (hxok : x.ok = true) (he : x.a = now) : WbJ M cont items n t now (putL M now x S) := by
  have hpl := (List.getElem?_eq_some_iff.1 hx).1
  have hg : items.getD S.put it0 = x := by rw [List.getD_eq_getElem?_getD, hx]; rfl
  have hle := h.len
  obtain ⟨h1, h2⟩ := hP.put now (hdIt x S.put) hinv (by omega) hxok (by omega) h.okc
  have hfr := frA_succ items n t S.put
  have hbg : bgA items n t S.put = max (frA items n t S.put) now := by unfold bgA; rw [hg, he]
  rw [hg] at hfr
  have htk : tkS n t (cont (M.put S.s now (hdIt x S.put)).1) = tkS n t (cont S.s) + tkL n t x.l := by rw [tkS_perm h2, tkS_append]; simp [tkS, hdIt]
  have hne : cont (M.put S.s now (hdIt x S.put)).1 ≠ [] := fun e => by have := h2.length_eq; rw [e] at this; simp at this
  have hb2 : bgA items n t S.put = max S.free now + tkS n t (cont S.s) := by
    by_cases hc : cont S.s = []
    · rw [hbg, (h.work0 hc).1, hc]; simp [tkS]
    · have := (h.work1 hc).1
      have := tkS_nonneg hr (cont S.s)
      rw [hbg]
      omega
  refine ⟨?_, by show S.put + 1 ≤ _; omega, ?_, ?_, fun e => absurd e hne, fun _ => ⟨?_, ?_⟩⟩
  · show S.lost ++ (M.put S.s now (hdIt x S.put)).2.map Hd.n = []
    rw [h.lost, h1]; rfl
  · show S.sent.length + (cont (M.put S.s now (hdIt x S.put)).1).length = S.put + 1
    rw [h2.length_eq, List.length_append]
    simp
    omega
  · intro y hy
    rcases List.mem_append.1 (h2.mem_iff.1 hy) with hy | hy
    · exact h.okc y hy
    · rw [List.mem_singleton.1 hy]; exact hxok
  · show frA items n t (S.put + 1) = max S.free now + tkS n t (cont (M.put S.s now (hdIt x S.put)).1)
    rw [hfr, htk]
    omega
  · show psh (spn S.sent) (max S.free now) (frA items n t (S.put + 1)) = psh (spC items n t S.put) (bgA items n t S.put) (frA items n t (S.put + 1))
    by_cases hc : cont S.s = []
    · rw [(h.work0 hc).2, hb2, hc]; simp [tkS]
    · obtain ⟨w1, w2⟩ := h.work1 hc
      rw [← w2, show bgA items n t S.put = frA items n t S.put by rw [hb2, w1], psh_psh]
theorem wb_most (h : WbJ M cont items n t now S) : WbJ M cont items n t now (mostS M S) := ⟨h.lost, h.put, h.len, h.okc, h.work0, h.work1⟩
theorem wb_send (hP : M.Prompt cont N) (hr : okRate n t = true) (h : WbJ M cont items n t now S) {tI : Int} (hinv : M.inv tI S.put S.s) (hN : items.length ≤ N) :
    WbJ M cont items n t now (sentS (sendS M n t now S)) ∧ (cont (sentS (sendS M n t now S)).s ≠ [] → now < (sentS (sendS M n t now S)).free) ∧ (sentS (sendS M n t now S)).put = S.put := by
  by_cases hf : now < S.free
  · have e : sentS (sendS M n t now S) = S := by
      unfold sentS sendS
      rw [if_pos hf]
      simp
    rw [e]
    exact ⟨h, fun _ => hf, rfl⟩
  · obtain ⟨h1, h2⟩ := hP.take now hinv (Nat.le_trans h.put hN)
    have hp := h.put
    rcases h2 with ⟨h2, h3, h4⟩ | ⟨h2, h3⟩
    · have e : sentS (sendS M n t now S) = { S with s := (M.take S.s now).1 } := by
        unfold sentS sendS
        rw [if_neg hf, if_neg (by rw [h2]; simp)]
        simp [h1]
      rw [e]
      refine ⟨⟨h.lost, h.put, ?_, fun x hx => ?_, fun _ => h.work0 h3, fun hn => absurd h4 hn⟩, fun hn => absurd h4 hn, rfl⟩
      · have := h.len
        rw [h3] at this
        show S.sent.length + (cont (M.take S.s now).1).length = S.put
        rw [h4]; exact this
      · have : x ∈ cont (M.take S.s now).1 := hx
        rw [h4] at this
        cases this
    · obtain ⟨x, hx⟩ : ∃ x, (M.take S.s now).2.2.1 = x := ⟨_, rfl⟩
      have e : sentS (sendS M n t now S) = { S with s := (M.take S.s now).1, free := now + tkL n t x.l, sent := S.sent ++ [⟨x.n, now, now + tkL n t x.l, x.m⟩] } := by
        unfold sentS sendS
        rw [if_neg hf, if_pos h2]
        simp [h1, hx]
      rw [hx] at h3
      have hc : cont S.s ≠ [] := fun e0 => by have := h3.length_eq; rw [e0] at this; simp at this
      obtain ⟨w1, w2⟩ := h.work1 hc
      have hxok := h.okc x (h3.mem_iff.2 (by simp))
      have hk := ok_len hxok
      have hpos := tkL_pos hr hk.1 (by omega : x.l ≤ 1000000)
      have htk : tkS n t (cont S.s) = tkL n t x.l + tkS n t (cont (M.take S.s now).1) := by rw [tkS_perm h3]; rfl
      have hm : max S.free now = now := by omega
      have hm2 : max (now + tkL n t x.l) now = now + tkL n t x.l := by omega
      rw [e]
      refine ⟨⟨h.lost, h.put, ?_, fun y hy => h.okc y (h3.mem_iff.2 (List.mem_cons_of_mem _ hy)), fun hn => ?_, fun hn => ⟨?_, ?_⟩⟩, fun _ => by show now < now + tkL n t x.l; omega, rfl⟩
      · have := h.len
        have h5 := h3.length_eq
        show (S.sent ++ [_]).length + (cont (M.take S.s now).1).length = S.put
        rw [List.length_append]
        simp only [List.length_cons, List.length_nil] at h5 ⊢
        omega
      · have hn' : cont (M.take S.s now).1 = [] := hn
        rw [hn'] at htk
        simp only [tkS] at htk
        refine ⟨?_, ?_⟩
        · show frA items n t S.put = now + tkL n t x.l
          omega
        · show spn (S.sent ++ [_]) = _
          rw [spn_snoc, ← w2, hm]
          show psh (spn S.sent) now (now + tkL n t x.l) = _
          congr 1
          omega
      · show frA items n t S.put = max (now + tkL n t x.l) now + tkS n t (cont (M.take S.s now).1)
        omega
      · show psh (spn (S.sent ++ [_])) (max (now + tkL n t x.l) now) _ = _
        rw [spn_snoc, hm2, ← w2, hm]
        exact psh_psh _ _ _ _
theorem wb_later (h : WbJ M cont items n t now S) {t2 : Int} (hf : cont S.s ≠ [] → now ≤ S.free ∧ t2 ≤ S.free) : WbJ M cont items n t t2 S := by
  refine ⟨h.lost, h.put, h.len, h.okc, h.work0, fun hc => ?_⟩
  obtain ⟨h1, h2⟩ := hf hc
  obtain ⟨w1, w2⟩ := h.work1 hc
  rw [show max S.free now = S.free by omega] at w1 w2
  rw [show max S.free t2 = S.free by omega]
  exact ⟨w1, w2⟩
theorem wb_goes (hP : M.Prompt cont N) (hf : cont S.s ≠ [] → now < S.free) : goesS M now S = (S, if cont S.s = [] then 0 else S.free, decide (cont S.s ≠ [])) := by
  unfold goesS
  rw [hP.len]
  by_cases hc : cont S.s = []
  · rw [if_pos (by rw [hc]; simp), if_pos hc]
    simp [hc]
  · have : 0 < (cont S.s).length := List.length_pos_iff.2 hc
    rw [if_neg (by omega), if_pos (hf hc), if_neg hc]
    simp [hc]
theorem wb_next (hP : M.Prompt cont N) (h : WbJ M cont items n t now S) (hf : cont S.s ≠ [] → now < S.free) :
    (nextS M items now S).1 = S ∧ ((nextS M items now S).2.2 = true → WbJ M cont items n t (nextS M items now S).2.1 S ∧ WbN cont items (nextS M items now S).2.1 S) ∧ ((nextS M items now S).2.2 = false → cont S.s = [] ∧ S.put = items.length) := by
  have hg := wb_goes hP hf
  have hp := h.put
  unfold nextS
  cases hx : items[S.put]? with
  | some x =>
    have hgx : items.getD S.put it0 = x := by rw [List.getD_eq_getElem?_getD, hx]; rfl
    simp only [hg]
    refine ⟨trivial, fun _ => ?_, fun h => by simp at h⟩
    by_cases hc : cont S.s = []
    · simp only [hc, ne_eq, not_true_eq_false, decide_false, Bool.false_eq_true, if_false]
      exact ⟨wb_later h fun h0 => absurd hc h0, fun h0 => absurd hc h0, fun _ _ => by rw [hgx]; exact Int.le_refl _⟩
    · have := hf hc
      simp only [hc, ne_eq, not_false_eq_true, decide_true, if_true, if_false]
      exact ⟨wb_later h fun _ => ⟨by omega, by omega⟩, fun _ => by omega, fun h0 => absurd h0 hc⟩
  | none =>
    have hpl : S.put = items.length := by
      rw [List.getElem?_eq_none_iff] at hx
      omega
    simp only [hg]
    refine ⟨trivial, fun hm => ?_, fun hm => ?_⟩
    · have hc : cont S.s ≠ [] := by simpa using hm
      have := hf hc
      simp only [hc, if_false]
      exact ⟨wb_later h fun _ => ⟨by omega, Int.le_refl _⟩, fun _ => Int.le_refl _, fun h0 => absurd h0 hc⟩
    · exact ⟨by simpa using hm, hpl⟩
end
theorem wb_round {M : QM} (hM : M.Fine) {cont : M.σ → List Hd} {N : Nat} (hP : M.Prompt cont N) {items : List It} {n t now : Int} (hl : okL items) (hN : items.length ≤ N) (hr : okRate n t = true) (hu : now ≤ 10000000) {S : LkS M.σ} (hI : LkI M items S now true) (hJ : WbJ M cont items n t now S) :
    ((roundS M items n t now S).2.2 = true → WbJ M cont items n t (roundS M items n t now S).2.1 (roundS M items n t now S).1 ∧ WbN cont items (roundS M items n t now S).2.1 (roundS M items n t now S).1) ∧
    ((roundS M items n t now S).2.2 = false → (∃ tt, WbJ M cont items n t tt (roundS M items n t now S).1) ∧ cont (roundS M items n t now S).1.s = [] ∧ (roundS M items n t now S).1.put = items.length) := by
  obtain ⟨tI, a, b, c⟩ := hI.inv
  have hI0 : ComeI M (LkC.mk default (fun _ => False) 0 0 n t none 0 items) now S S := ⟨⟨tI, a, b rfl, c⟩, hI.put, Nat.le_refl _, by omega, rfl, rfl, rfl, rfl⟩
  obtain ⟨p1, ci, nx⟩ := comeS_ind (M := M) (C := LkC.mk default (fun _ => False) 0 0 n t none 0 items) hM hl.fine.2 hl.all.1 hu (P := WbJ M cont items n t now) (hI.coming rfl) (fun S' x hp hc hx he => by obtain ⟨tI, a, b, c⟩ := hc.inv; exact wb_put hP hr hp c hx hN (hl.all.1 x (List.mem_of_getElem? hx)) he) _ S (Nat.le_refl _) hI0 hJ
  simp only at p1 ci nx
  obtain ⟨tJ, a1, b1, c1⟩ := ci.inv
  unfold roundS
  generalize comeS M items now S = S1 at *
  have p2 := wb_most p1
  obtain ⟨p4, hf4, hput⟩ := wb_send (S := mostS M S1) hP hr p2 c1 hN
  have hput' : (sentS (sendS M n t now (mostS M S1))).put = S1.put := hput
  generalize sentS (sendS M n t now (mostS M S1)) = S4 at *
  obtain ⟨e, n1, n2⟩ := wb_next hP p4 hf4
  rw [e]
  exact ⟨n1, fun h => ⟨⟨now, p4⟩, n2 h⟩⟩
/-- What is so behind so many rounds. -/
theorem wb_run {M : QM} (hM : M.Fine) {cont : M.σ → List Hd} {N : Nat} (hP : M.Prompt cont N) {items : List It} {n t u : Int} {s0 : M.σ} (hi0 : M.inv 0 0 s0) (hc0 : cont s0 = []) (hl : okL items) (hN : items.length ≤ N) (hr : okRate n t = true) (hu : u ≤ 10000000) :
    ∀ k, (∀ j, j < k → goesOn u (itL M items n t s0 j)) → LkI M items (itL M items n t s0 k).1 (itL M items n t s0 k).2.1 (itL M items n t s0 k).2.2 ∧
      ((itL M items n t s0 k).2.2 = true → WbJ M cont items n t (itL M items n t s0 k).2.1 (itL M items n t s0 k).1 ∧ WbN cont items (itL M items n t s0 k).2.1 (itL M items n t s0 k).1) ∧
      ((itL M items n t s0 k).2.2 = false → (∃ tt, WbJ M cont items n t tt (itL M items n t s0 k).1) ∧ cont (itL M items n t s0 k).1.s = [] ∧ (itL M items n t s0 k).1.put = items.length) := by
  have h0 : ∀ x ∈ items, 0 ≤ x.a := fun x hx => by
    have h1 := hl.all.1 x hx
    simp only [It.ok, Bool.and_eq_true, wth_iff] at h1
    exact h1.1.1.1.1.1
  intro k
  induction k with
  | zero =>
    intro _
    refine ⟨⟨Nat.zero_le _, ⟨0, Int.le_refl _, fun _ => Int.le_refl _, hi0⟩, fun _ => Int.le_refl _, fun _ j x _ hx => h0 x (List.mem_of_getElem? hx), fun _ => Nat.zero_le _, fun _ => Nat.zero_le _⟩, fun _ => ⟨⟨rfl, Nat.zero_le _, ?_, ?_, fun _ => ⟨rfl, rfl⟩, fun h => absurd hc0 h⟩, fun h => absurd hc0 h, fun _ hlt => ?_⟩, fun h => by cases h⟩
    · show 0 + (cont s0).length = 0
      rw [hc0]; rfl
    · intro x hx
      have : x ∈ cont s0 := hx
      rw [hc0] at this
      cases this
    · show (0 : Int) ≤ (items.getD 0 it0).a
      have hlt' : 0 < items.length := hlt
      rw [List.getD_eq_getElem?_getD, List.getElem?_eq_getElem hlt']
      exact h0 _ (List.getElem_mem _)
  | succ k ih =>
    intro hon
    obtain ⟨hI, hJ, _⟩ := ih (fun j hj => hon j (by omega))
    obtain ⟨hm, hle⟩ := hon k (by omega)
    rw [hm] at hI
    have h2 : (itL M items n t s0 k).2.1 ≤ 10000000 := by omega
    have hLI := (roundS_ind hM hl.fine.2 hl.all.1 hl.all.2 (n := n) (t := t) h2 hI (P := fun _ => True) trivial (fun _ _ _ _ _ _ _ _ _ => trivial) (fun _ _ => trivial) (fun _ _ _ _ _ _ _ => trivial) (fun _ _ _ _ _ _ => trivial)).2
    exact ⟨hLI, wb_round hM hP hl hN hr h2 hI (hJ hm).1⟩
theorem frA_mono {items : List It} {n t : Int} (hr : okRate n t = true) : ∀ {a b : Nat}, a ≤ b → frA items n t a ≤ frA items n t b := by
  intro a b h
  induction b with
  | zero => obtain rfl : a = 0 := by omega
            exact Int.le_refl _
  | succ b ih =>
    by_cases e : a = b + 1
    · subst e; exact Int.le_refl _
    · have h1 := ih (by omega)
      have h2 := frA_succ items n t b
      have h3 := (tkL_le (x := (items.getD b it0).l) hr).1
      have h4 : frA items n t b ≤ bgA items n t b := by unfold bgA; omega
      omega
/-- What the run gives at its end. -/
theorem wb_end {M : QM} (hM : M.Fine) {cont : M.σ → List Hd} {N : Nat} (hP : M.Prompt cont N) {items : List It} {n t u : Int} {s0 : M.σ} (hi0 : M.inv 0 0 s0) (hc0 : cont s0 = []) (hl : okL items) (hN : items.length ≤ N) (hr : okRate n t = true) (hu : u ≤ 10000000) {k : Nat} (hon : ∀ j, j < k → goesOn u (itL M items n t s0 j)) (hoff : ¬ goesOn u (itL M items n t s0 k)) :
    (itL M items n t s0 k).1.lost = [] ∧ (itL M items n t s0 k).1.sent.length ≤ items.length ∧ (frA items n t items.length ≤ u → (itL M items n t s0 k).1.sent.length = items.length ∧ spn (itL M items n t s0 k).1.sent = spC items n t items.length) := by
  obtain ⟨_, hT, hF⟩ := wb_run hM hP hi0 hc0 hl hN hr hu k hon
  cases hm : (itL M items n t s0 k).2.2 with
  | true =>
    obtain ⟨hJ, hNx⟩ := hT hm
    have hnow : u < (itL M items n t s0 k).2.1 := by
      apply Int.lt_of_not_ge
      intro h
      exact hoff ⟨hm, h⟩
    have hle := hJ.len
    have hpu := hJ.put
    refine ⟨hJ.lost, by omega, fun hfu => ?_⟩
    by_cases hc : cont (itL M items n t s0 k).1.s = []
    · have hlen : (itL M items n t s0 k).1.put = items.length := by
        refine Decidable.byContradiction fun hne => ?_
        have h1 := hNx.2 hc (by omega)
        have h2 := frA_succ items n t (itL M items n t s0 k).1.put
        have h3 := frA_mono (items := items) hr (show (itL M items n t s0 k).1.put + 1 ≤ items.length by omega)
        have h4 : (items.getD (itL M items n t s0 k).1.put it0).a ≤ bgA items n t (itL M items n t s0 k).1.put := by unfold bgA; omega
        have h5 := (tkL_le (x := (items.getD (itL M items n t s0 k).1.put it0).l) hr).1
        omega
      rw [hc] at hle
      have := (hJ.work0 hc).2
      rw [hlen] at this
      exact ⟨by simpa [hlen] using hle, this⟩
    · exfalso
      have h1 := hNx.1 hc
      have h2 := (hJ.work1 hc).1
      have h3 := frA_mono (items := items) hr hpu
      have h4 := tkS_nonneg hr (cont (itL M items n t s0 k).1.s)
      omega
  | false =>
    obtain ⟨⟨now, hJ⟩, hc, hlen⟩ := hF hm
    have hle := hJ.len
    have hpu := hJ.put
    rw [hc] at hle
    refine ⟨hJ.lost, by omega, fun _ => ?_⟩
    have := (hJ.work0 hc).2
    rw [hlen] at this
    exact ⟨by simpa [hlen] using hle, this⟩
/-- Who comes first: its spans are those. -/
theorem spn_fifo {items : List It} {n t : Int} {l : List Snt} (h : ∀ (i : Nat) (s : Snt), l[i]? = some s → s.f = bgA items n t i ∧ s.t = frA items n t (i + 1)) : spn l = spC items n t l.length := by
  revert h
  refine snoc_indW (P := fun l => (∀ (i : Nat) (s : Snt), l[i]? = some s → s.f = bgA items n t i ∧ s.t = frA items n t (i + 1)) → spn l = spC items n t l.length) (fun _ => rfl) (fun l s ih h => ?_) l
  rw [spn_snoc, List.length_append, ih fun i s' hs => h i s' (by rw [List.getElem?_append_left (List.getElem?_eq_some_iff.1 hs).1]; exact hs)]
  obtain ⟨h1, h2⟩ := h l.length s (by simp)
  rw [h1, h2]
  rfl
end Go.Proofs.YtfakjedolecdcaaGreatDoor
