/-
  Controlled delay: nothing is lost but what is told, and what goes out, or is thrown away, keeps its order and had waited. Mathematics of the model alone.
-/
import Derived.Test.YtaaaofjpedlfnaaDe7
import Derived.Test.YtaaaofjpedlfnaaKk
namespace Go.Proofs.Ytaaaofjpedlfnaa
open Go.RowKit Go.Extern.Stop Go.Stop Go.Extern

theorem goD_parts0 {T S now : Int} : ∀ (L : List Hd) (s : DlS) (x : Hd), s.L = L → Parts (x :: L) (goD T S now L s x).2.1 (goD T S now L s x).2.2.1 (goD T S now L s x).2.2.2 (goD T S now L s x).1.L := by
  intro L
  induction L with
  | nil =>
    intro s x hL
    by_cases h : now < s.next
    · have e := goD_stop (T := T) (S := S) (x := x) h
      rw [hL] at e
      rw [e]
      exact Or.inl ⟨rfl, by rw [hL]; rfl⟩
    · obtain ⟨p, hp⟩ : ∃ p, pullD T S { s with count := s.count + 1 } now = p := ⟨_, rfl⟩
      obtain ⟨s3, y, ok, bad⟩ := p
      obtain ⟨e1, e2, e3, e4, e5, e6, e7⟩ := pullD_same hp
      simp only [hL] at e4 e5 e6
      have e := goD_next (x := x) h hp
      rw [hL] at e
      cases bad with
      | true => have := (e7 rfl).1; rw [e6] at this; simp at this
      | false =>
        rw [e]
        exact Or.inr ⟨by simp [e6], rfl, by show s3.L = []; rw [e4]; rfl, by show y = _; rw [e5]; rfl⟩
  | cons z L ih =>
    intro s x hL
    by_cases h : now < s.next
    · have e := goD_stop (T := T) (S := S) (x := x) h
      rw [hL] at e
      rw [e]
      exact Or.inl ⟨rfl, by rw [hL]; rfl⟩
    · obtain ⟨p, hp⟩ : ∃ p, pullD T S { s with count := s.count + 1 } now = p := ⟨_, rfl⟩
      obtain ⟨s3, y, ok, bad⟩ := p
      obtain ⟨e1, e2, e3, e4, e5, e6, e7⟩ := pullD_same hp
      simp only [hL] at e4 e5 e6
      have e := goD_next (x := x) h hp
      rw [hL] at e
      have hy : y = z := by rw [e5]; rfl
      cases bad with
      | true =>
        have hL3 : s3.L = L := by rw [e4]; rfl
        have i1 := ih { s3 with throws := true, next := lawD S (s.count + 1) s.next } y hL3
        rw [hL3] at e i1
        rw [e]
        simp only [if_true]
        rcases i1 with ⟨j1, j2⟩ | ⟨j1, j2, j3, j4⟩
        · exact Or.inl ⟨j1, by rw [← hy, j2]; rfl⟩
        · exact Or.inr ⟨j1, by rw [← hy, j2], j3, j4⟩
      | false =>
        rw [e]
        refine Or.inl ⟨by simp [e6], ?_⟩
        show _ = [x] ++ y :: s3.L
        rw [e4, e5]; rfl
theorem takeD_parts0 {T S now : Int} {s : DlS} : Parts s.L (takeD T S s now).2.1 (takeD T S s now).2.2.1 (takeD T S s now).2.2.2 (takeD T S s now).1.L := by
  obtain ⟨p, hp⟩ : ∃ p, pullD T S s now = p := ⟨_, rfl⟩
  obtain ⟨s1, x1, ok1, bad1⟩ := p
  obtain ⟨p1, p2, p3, p4, p5, p6, p7⟩ := pullD_same hp
  cases bad1 with
  | false =>
    have hT : takeD T S s now = ({ s1 with throws := false }, [], x1, ok1) := by simp [takeD, hp]
    rw [hT]
    cases hL : s.L with
    | nil => exact Or.inr ⟨by rw [p6, hL]; rfl, rfl, by show s1.L = _; rw [p4, hL]; rfl, by rw [p5, hL]; rfl⟩
    | cons z L => exact Or.inl ⟨by rw [p6, hL]; rfl, by show _ = [] ++ x1 :: s1.L; rw [p4, p5, hL]; rfl⟩
  | true =>
    obtain ⟨k1, k2, k3⟩ := p7 rfl
    obtain ⟨z, L, hL⟩ : ∃ z L, s.L = z :: L := by
      cases hL : s.L with
      | nil => rw [p6, hL] at k1; simp at k1
      | cons z L => exact ⟨z, L, rfl⟩
    have hx : x1 = z := by rw [p5, hL]; rfl
    have hL1 : s1.L = L := by rw [p4, hL]; rfl
    cases hth : s1.throws with
    | true =>
      have hT : takeD T S s now = goD T S now s1.L s1 x1 := by simp [takeD, hp, hth]
      rw [hT, hL, ← hx, ← hL1]
      exact goD_parts0 s1.L s1 x1 rfl
    | false =>
      obtain ⟨r, hr⟩ : ∃ r, pullD T S s1 now = r := ⟨_, rfl⟩
      obtain ⟨s2, x2, ok2, bad2⟩ := r
      obtain ⟨q1, q2, q3, q4, q5, q6, q7⟩ := pullD_same hr
      have hT : takeD T S s now = (beginD S s2 now, [x1], x2, ok2) := by simp [takeD, hp, hth, hr]
      rw [hT]
      obtain ⟨y, M, hM⟩ : ∃ y M, s1.L = y :: M := by
        cases hM : s1.L with
        | nil => exact absurd hM k2
        | cons y M => exact ⟨y, M, rfl⟩
      refine Or.inl ⟨by show ok2 = true; rw [q6, hM]; rfl, ?_⟩
      show s.L = [x1] ++ x2 :: s2.L
      rw [hL, ← hx, ← hL1, hM, q5, q4, hM]; rfl
theorem delay_keeps (b : Nat) (P R T S : Int) : (DelayM b P R T S).Keeps (fun s => s.L) where
  put := by
    intro (s : DlS) now x
    show (s.L ++ [x]).Perm ((putF P R false s.L x).1 ++ (putF P R false s.L x).2)
    unfold putF
    split
    · rw [cutL_parts]
    · split
      · exact List.perm_append_comm
      · exact List.Perm.refl _
  take := by
    intro (s : DlS) now
    show s.L.Perm ((takeD T S s now).2.1 ++ (if (takeD T S s now).2.2.2 then [(takeD T S s now).2.2.1] else []) ++ (takeD T S s now).1.L)
    rcases takeD_parts0 (T := T) (S := S) (now := now) (s := s) with ⟨h1, h2⟩ | ⟨h1, h2, h3, _⟩
    · rw [h1, if_pos rfl]
      have e : (takeD T S s now).2.1 ++ [(takeD T S s now).2.2.1] ++ (takeD T S s now).1.L = s.L := by rw [h2]; simp
      rw [e]
    · rw [h1, h3, ← h2]; simp
  when := fun s now => List.Perm.refl _
  len := fun s => rfl
  bytes := fun s => rfl
/-- The one ahead of the k-th of those that went. -/
def prevS (l : Int) (lost : List Int) : Nat → Int
  | 0 => l
  | k + 1 => lost.getD k 0
theorem prevS_app {l : Int} {A B : List Int} {k : Nat} (h : k ≤ A.length) : prevS l (A ++ B) k = prevS l A k := by
  cases k with
  | zero => rfl
  | succ k => simp only [prevS, List.getD_eq_getElem?_getD]; rw [List.getElem?_append_left (by omega)]
theorem prev_lt {l : Int} {M : List Int} (hs : M.Pairwise (· < ·)) (hl : ∀ x ∈ M, l < x) {k : Nat} {x : Int} (h : M[k]? = some x) : prevS l M k < x := by
  obtain ⟨hk, hx⟩ := List.getElem?_eq_some_iff.1 h
  cases k with
  | zero => exact hl x (by rw [← hx]; exact List.getElem_mem _)
  | succ k =>
    have := List.pairwise_iff_getElem.1 hs k (k + 1) (by omega) hk (by omega)
    simp only [prevS, List.getD_eq_getElem?_getD]
    rw [List.getElem?_eq_getElem (by omega : k < M.length)]
    simp only [Option.getD_some]
    rw [← hx]
    exact this
def cameS (came : List Int) (st : Stp) : List Int := if st.what = 0 then came ++ [st.lt] else came
def lastG (l : Int) (st : Stp) (sn : Sn) : Int := if 0 ≤ sn.taken then sn.taken else if st.what = 1 then prevS l sn.lost sn.lost.length else l
structure GInv (l : Int) (L : List Hd) (n : Nat) (came : List Int) : Prop where
  sorted : (L.map Hd.n).Pairwise (· < ·)
  each : ∀ y ∈ L, l < y.n ∧ 0 ≤ y.n ∧ y.n < n ∧ came[y.n.toNat]? = some y.a
  last : l < n
  clen : came.length = n
  cbd : ∀ a ∈ came, 0 ≤ a ∧ a ≤ 1000000
structure GStep (T l : Int) (came : List Int) (st : Stp) (sn : Sn) : Prop where
  lost : st.what = 1 → ∀ k x, sn.lost[k]? = some x → 0 ≤ x ∧ prevS l sn.lost k < x ∧ ∃ a, came[x.toNat]? = some a ∧ T ≤ st.lt - a
  taken : 0 ≤ sn.taken → (if st.what = 1 then prevS l sn.lost sn.lost.length else l) < sn.taken
theorem gstep {b : Nat} {P R T S l : Int} {s : DlS} {n : Nat} {came : List Int} {st : Stp} (h : GInv l s.L n came) (hS : 0 ≤ S) (hS1 : S ≤ 1000000) (ht0 : 0 ≤ st.lt) (ht1 : st.lt ≤ 1000000) (ha : st.a = st.lt) (hI : 0 ≤ s.count ∧ 0 ≤ s.next ∧ s.next ≤ 10000000000) :
    GStep T l (cameS came st) st (stepQ (DelayM b P R T S) s n st).2 ∧ GInv (lastG l st (stepQ (DelayM b P R T S) s n st).2) (stepQ (DelayM b P R T S) s n st).1.1.L (stepQ (DelayM b P R T S) s n st).1.2 (cameS came st) := by
  by_cases hw : st.what = 0
  · have hstep : stepQ (DelayM b P R T S) s n st = (({ s with L := (putF P R false s.L (hdOf st n)).2 }, n + 1), ⟨-1, 0, -1, ((putF P R false s.L (hdOf st n)).2.length : Nat), sumL (putF P R false s.L (hdOf st n)).2, (putF P R false s.L (hdOf st n)).1.map Hd.n⟩) := by simp only [stepQ, if_pos hw]; rfl
    rw [hstep]
    have hn1 : ¬ (0 : Int) ≤ -1 := by decide
    have hne : ¬ st.what = 1 := by omega
    refine ⟨⟨fun h => absurd h hne, fun h => absurd h hn1⟩, ?_⟩
    simp only [lastG, cameS, if_neg hn1, if_neg hne, if_pos hw]
    have hlast := h.last
    have hcl := h.clen
    have key : ∀ y ∈ s.L, l < y.n ∧ 0 ≤ y.n ∧ y.n < ((n + 1 : Nat) : Int) ∧ (came ++ [st.lt])[y.n.toNat]? = some y.a := fun y hy => by
      obtain ⟨h1, h2, h3, h4⟩ := h.each y hy
      refine ⟨h1, h2, by omega, ?_⟩
      rw [List.getElem?_append_left (by omega)]
      exact h4
    have hcb : ∀ a ∈ came ++ [st.lt], 0 ≤ a ∧ a ≤ 1000000 := fun a hm => by
      rcases List.mem_append.1 hm with hm | hm
      · exact h.cbd a hm
      · simp at hm; omega
    rcases (show (putF P R false s.L (hdOf st n)).2 = s.L ∨ (putF P R false s.L (hdOf st n)).2 = s.L ++ [hdOf st n] by
      unfold putF
      simp only [Bool.false_eq_true, if_false]
      split
      · exact Or.inl rfl
      · exact Or.inr rfl) with e | e
    · rw [e]
      exact ⟨h.sorted, key, by omega, by simp [hcl], hcb⟩
    · rw [e]
      refine ⟨?_, fun y hy => ?_, by omega, by simp [hcl], hcb⟩
      · rw [List.map_append, List.pairwise_append]
        refine ⟨h.sorted, by simp, ?_⟩
        intro a hm b hb
        simp only [List.map_cons, List.map_nil, List.mem_singleton] at hb
        obtain ⟨y, hy, rfl⟩ := List.mem_map.1 hm
        have := (h.each y hy).2.2.1
        have e2 : (hdOf st n).n = n := rfl
        omega
      · rcases List.mem_append.1 hy with hy | hy
        · exact key y hy
        · simp at hy
          subst hy
          have e2 : (hdOf st n).n = (n : Int) := rfl
          have e3 : (hdOf st n).a = st.lt := ha
          rw [e2, e3]
          refine ⟨by omega, by omega, by omega, ?_⟩
          rw [Int.toNat_natCast, ← hcl]
          simp
  · by_cases hw1 : st.what = 1
    · have hstep : stepQ (DelayM b P R T S) s n st = (((takeD T S s st.lt).1, n), ⟨if (takeD T S s st.lt).2.2.2 then (takeD T S s st.lt).2.2.1.n else -1, if (takeD T S s st.lt).2.2.2 then (takeD T S s st.lt).2.2.1.m else 0, -1, ((takeD T S s st.lt).1.L.length : Nat), sumL (takeD T S s st.lt).1.L, (takeD T S s st.lt).2.1.map Hd.n⟩) := by simp only [stepQ, if_neg hw, if_pos hw1]; rfl
      rw [hstep]
      obtain ⟨q1, q2, _⟩ := takeD_parts (T := T) hS hS1 ht0 ht1 hI.2.1 hI.2.2 hI.1
      generalize takeD T S s st.lt = r at *
      obtain ⟨s', lost, x, ok⟩ := r
      simp only at q1 q2
      have hcs : cameS came st = came := by simp only [cameS, if_neg hw]
      rw [hcs]
      have hsort := h.sorted
      have hall : ∀ z ∈ s.L.map Hd.n, l < z := fun z hz => by
        obtain ⟨y, hy, rfl⟩ := List.mem_map.1 hz
        exact (h.each y hy).1
      have hlostL : ∃ B, s.L = lost ++ B := by
        rcases q1 with ⟨_, e⟩ | ⟨_, e, _⟩
        · exact ⟨_, e⟩
        · exact ⟨[], by rw [e]; simp⟩
      obtain ⟨B, hB⟩ := hlostL
      have hlost : ∀ k z, (lost.map Hd.n)[k]? = some z → 0 ≤ z ∧ prevS l (lost.map Hd.n) k < z ∧ ∃ a, came[z.toNat]? = some a ∧ T ≤ st.lt - a := by
        intro k z hz
        obtain ⟨hk, _⟩ := List.getElem?_eq_some_iff.1 hz
        have hz2 : (s.L.map Hd.n)[k]? = some z := by rw [hB, List.map_append, List.getElem?_append_left hk]; exact hz
        have hp := prev_lt hsort hall hz2
        rw [hB, List.map_append, prevS_app (by omega)] at hp
        rw [List.getElem?_map] at hz
        obtain ⟨y, hy, rfl⟩ := Option.map_eq_some_iff.1 hz
        have hym := List.mem_of_getElem? hy
        obtain ⟨h1, h2, h3, h4⟩ := h.each y (by rw [hB]; exact List.mem_append_left _ hym)
        exact ⟨h2, hp, y.a, h4, q2 y hym⟩
      rcases q1 with ⟨rfl, e⟩ | ⟨rfl, e, e2, e3⟩
      · have hx := h.each x (by rw [e]; simp)
        have hm : s.L.map Hd.n = lost.map Hd.n ++ (x.n :: s'.L.map Hd.n) := by rw [e]; simp
        have hpx : prevS l (lost.map Hd.n) (lost.map Hd.n).length < x.n := by
          have := prev_lt hsort hall (k := (lost.map Hd.n).length) (x := x.n) (by rw [hm]; simp)
          rw [hm, prevS_app (Nat.le_refl _)] at this
          exact this
        refine ⟨⟨fun _ => hlost, fun _ => by simp only [if_pos hw1]; exact hpx⟩, ?_⟩
        have hlg : lastG l st ⟨x.n, x.m, -1, (s'.L.length : Nat), sumL s'.L, lost.map Hd.n⟩ = x.n := by simp only [lastG, if_pos hx.2.1]
        simp only [if_true, hlg]
        rw [hm, List.pairwise_append] at hsort
        have hs2 := hsort.2.1
        rw [List.pairwise_cons] at hs2
        refine ⟨hs2.2, fun y hy => ?_, hx.2.2.1, h.clen, h.cbd⟩
        have h1 := h.each y (by rw [e]; simp [hy])
        exact ⟨hs2.1 y.n (List.mem_map.2 ⟨y, hy, rfl⟩), h1.2⟩
      · have hn1 : ¬ (0 : Int) ≤ -1 := by decide
        simp only [Bool.false_eq_true, if_false]
        refine ⟨⟨fun _ => hlost, fun h => absurd h hn1⟩, ?_⟩
        simp only [lastG, if_neg hn1, if_pos hw1, e2]
        refine ⟨by simp, by simp, ?_, h.clen, h.cbd⟩
        cases hk : (lost.map Hd.n).length with
        | zero => exact h.last
        | succ k =>
          obtain ⟨z, hz⟩ : ∃ z, (lost.map Hd.n)[k]? = some z := ⟨_, List.getElem?_eq_getElem (by omega)⟩
          simp only [prevS, List.getD_eq_getElem?_getD, hz, Option.getD_some]
          rw [List.getElem?_map] at hz
          obtain ⟨y, hy, rfl⟩ := Option.map_eq_some_iff.1 hz
          exact (h.each y (by rw [e]; exact List.mem_of_getElem? hy)).2.2.1
    · have hstep : stepQ (DelayM b P R T S) s n st = ((s, n), ⟨-1, 0, if !s.L.isEmpty then st.lt else -1, (s.L.length : Nat), sumL s.L, []⟩) := by simp only [stepQ, if_neg hw, if_neg hw1]; rfl
      rw [hstep]
      have hn1 : ¬ (0 : Int) ≤ -1 := by decide
      refine ⟨⟨fun h => absurd h hw1, fun h => absurd h hn1⟩, ?_⟩
      simp only [lastG, cameS, if_neg hn1, if_neg hw1, if_neg hw]
      exact h
end Go.Proofs.Ytaaaofjpedlfnaa
