/-
  LINDLEY, in plain numbers: over a wire with one Fifo with room for all each packet begins when it has come and the one ahead is through. Mathematics alone: nothing of the program is claimed here. Conditions: packets and a rate that may be.
  LINDLEY, in plain numbers: all rounds of a wire with one Fifo. Mathematics alone. Conditions: as in Lw2.
  LINDLEY: what the run gives at its end; and a run whose rate or packets may not be. Conditions: what errors and strconv have laid.
-/
import Derived.Test.YtfakjedolecdcaaGreatDoorGn
import Derived.Test.YtfakjedolecdcaaGreatDoorLk7
namespace Go.Proofs.YtfakjedolecdcaaGreatDoor

def it0 : It := ⟨0, 0, 0, 0, 0⟩
/-- When the wire is free behind so many. -/
def frA (items : List It) (n t : Int) : Nat → Int
  | 0 => 0
  | m + 1 => max (frA items n t m) (items.getD m it0).a + tkL n t (items.getD m it0).l
/-- When a packet begins. -/
def bgA (items : List It) (n t : Int) (m : Nat) : Int := max (frA items n t m) (items.getD m it0).a
theorem frA_succ (items : List It) (n t : Int) (m : Nat) : frA items n t (m + 1) = bgA items n t m + tkL n t (items.getD m it0).l := rfl
structure LwJ (items : List It) (n t now : Int) (S : LkS (List Hd)) : Prop where
  lost : S.lost = []
  put : S.put ≤ items.length
  len : S.sent.length + S.s.length = S.put
  sent : ∀ (i : Nat) (s : Snt), S.sent[i]? = some s → s.n = (i : Int) ∧ s.f = bgA items n t i ∧ s.t = frA items n t (i + 1) ∧ s.f ≤ 10000000
  que : ∀ (i : Nat) (h : Hd), S.s[i]? = some h → h = hdIt (items.getD (S.sent.length + i) it0) (S.sent.length + i)
  free : S.free = frA items n t S.sent.length
  come : ∀ i : Nat, i < S.put → (items.getD i it0).a ≤ now
  next : S.sent.length < items.length → now ≤ bgA items n t S.sent.length
/-- A Fifo's steps, told by lists alone. -/
def putLF (x : It) (S : LkS (List Hd)) : LkS (List Hd) := { S with s := (putF 1000 1000000 false S.s (hdIt x S.put)).2, put := S.put + 1, lost := S.lost ++ (putF 1000 1000000 false S.s (hdIt x S.put)).1.map Hd.n }
theorem putL_eq (q : Nat) (now : Int) (x : It) (S : LkS (List Hd)) : putL (FifoM q 1000 1000000 false) now x S = putLF x S := rfl
def sendF (n t now : Int) (S : LkS (List Hd)) : LkS (List Hd) :=
  if now < S.free then S else match S.s with
    | [] => S
    | y :: L => { S with s := L, free := now + tkL n t y.l, sent := S.sent ++ [⟨y.n, now, now + tkL n t y.l, y.m⟩] }
theorem sendS_eq (q : Nat) (n t now : Int) (S : LkS (List Hd)) : sentS (sendS (FifoM q 1000 1000000 false) n t now S) = sendF n t now S := by
  cases S with
  | mk s p f se lo mo =>
    unfold sendS sendF sentS
    by_cases h : now < f
    · simp only [if_pos h, Option.toList, List.append_nil]
      rfl
    · simp only [if_neg h]
      cases s with
      | nil =>
        show (⟨[], p, f, se ++ [], lo ++ [], mo⟩ : LkS (List Hd)) = _
        simp
      | cons y L =>
        show (⟨L, p, now + tkL n t y.l, se ++ [⟨y.n, now, now + tkL n t y.l, y.m⟩], lo ++ [], mo⟩ : LkS (List Hd)) = _
        simp
section
variable {items : List It} {n t now : Int} {q : Nat} {S : LkS (List Hd)}
theorem lwJ_put (h : LwJ items n t now S) (hlen : items.length ≤ 100) (hinv : S.s.length ≤ S.put ∧ ∀ x ∈ S.s, x.ok = true) {x : It} (hx : items[S.put]? = some x) (hxok : x.ok = true) (he : x.a = now) : LwJ items n t now (putL (FifoM q 1000 1000000 false) now x S) := by
  have hpl := (List.getElem?_eq_some_iff.1 hx).1
  have hg : items.getD S.put it0 = x := by rw [List.getD_eq_getElem?_getD, hx]; rfl
  have hfit := fit_of (n := S.put) hinv (by omega)
  have hsum := Fit.sum hfit.2
  have hxl := ok_len (x := hdIt x S.put) hxok
  have hsl : sumL S.s ≤ 10000 * S.s.length := hsum.2
  have hle := h.len
  have hpf : putF 1000 1000000 false S.s (hdIt x S.put) = ([], S.s ++ [hdIt x S.put]) := by
    apply putF_room
    simp
    refine ⟨by omega, ?_⟩
    have : (hdIt x S.put).l ≤ 10000 := hxl.2
    omega
  have e : putL (FifoM q 1000 1000000 false) now x S = ({ S with s := S.s ++ [hdIt x S.put], put := S.put + 1, lost := S.lost ++ [] } : LkS (List Hd)) := by
    rw [putL_eq]
    unfold putLF
    rw [hpf]; rfl
  rw [e]
  refine ⟨by simp [h.lost], hpl, by simp; omega, h.sent, ?_, h.free, ?_, h.next⟩
  · intro i y hy
    show y = _
    by_cases hi : i < S.s.length
    · rw [List.getElem?_append_left hi] at hy
      exact h.que i y hy
    · have hy' : (S.s ++ [hdIt x S.put])[i]? = some y := hy
      have hi2 : i = S.s.length := by have := (List.getElem?_eq_some_iff.1 hy').1; simp at this; omega
      subst hi2
      rw [List.getElem?_append_right (Nat.le_refl _)] at hy'
      simp at hy'
      rw [← hy', show S.sent.length + S.s.length = S.put from hle, hg]
  · intro i hi
    have hi' : i < S.put + 1 := hi
    by_cases e2 : i = S.put
    · rw [e2, hg]; omega
    · exact h.come i (by omega)
theorem lwJ_most (h : LwJ items n t now S) : LwJ items n t now (mostS (FifoM q 1000 1000000 false) S) := ⟨h.lost, h.put, h.len, h.sent, h.que, h.free, h.come, h.next⟩
theorem lwJ_sendF (h : LwJ items n t now S) (hu : now ≤ 10000000) (hr : okRate n t = true) : LwJ items n t now (sendF n t now S) := by
  unfold sendF
  split
  · exact h
  · rename_i hfree
    split
    · exact h
    · rename_i y L hs
      have hl := h.len
      rw [hs, List.length_cons] at hl
      have hy : y = hdIt (items.getD S.sent.length it0) S.sent.length := h.que 0 y (by rw [hs]; rfl)
      have hput := h.put
      have hnx := h.next (by omega)
      have hcm := h.come S.sent.length (by omega)
      have hfr := h.free
      have hnow : now = bgA items n t S.sent.length := by
        unfold bgA at hnx ⊢
        rw [hfr] at hfree
        omega
      have hyl : y.l = (items.getD S.sent.length it0).l := by rw [hy]; rfl
      have hyn : y.n = (S.sent.length : Int) := by rw [hy]; rfl
      have hend : now + tkL n t y.l = frA items n t (S.sent.length + 1) := by rw [frA_succ, hyl, ← hnow]
      have htk := (tkL_le (x := y.l) hr).1
      refine ⟨by simp [h.lost], h.put, by simp; omega, ?_, ?_, ?_, h.come, ?_⟩
      · intro i s hi
        have hi' : (S.sent ++ [(⟨y.n, now, now + tkL n t y.l, y.m⟩ : Snt)])[i]? = some s := hi
        by_cases h1 : i < S.sent.length
        · rw [List.getElem?_append_left h1] at hi'
          exact h.sent i s hi'
        · have h2 : i = S.sent.length := by have := (List.getElem?_eq_some_iff.1 hi').1; simp at this; omega
          subst h2
          rw [List.getElem?_append_right (Nat.le_refl _)] at hi'
          simp at hi'
          subst hi'
          exact ⟨hyn, hnow, hend, hu⟩
      · intro i z hz
        have := h.que (i + 1) z (by rw [hs]; exact hz)
        rw [this]
        simp only [List.length_append, List.length_cons, List.length_nil]
        rw [show S.sent.length + (i + 1) = S.sent.length + (0 + 1) + i from by omega]
      · simp
        rw [hend]
      · intro hlt
        simp at hlt ⊢
        unfold bgA
        rw [← hend]
        omega
theorem lwJ_send (h : LwJ items n t now S) (hu : now ≤ 10000000) (hr : okRate n t = true) : LwJ items n t now (sentS (sendS (FifoM q 1000 1000000 false) n t now S)) :=
  Eq.mpr (congrArg (LwJ items n t now) (sendS_eq q n t now S)) (lwJ_sendF h hu hr)
end
end Go.Proofs.YtfakjedolecdcaaGreatDoor
namespace Go.Proofs.YtfakjedolecdcaaGreatDoor

theorem tkL_pos {n t x : Int} (h : okRate n t = true) (h1 : 1 ≤ x) (h2 : x ≤ 1000000) : 1 ≤ tkL n t x := by
  simp only [okRate, Bool.and_eq_true, wth_iff] at h
  obtain ⟨⟨a1, a2⟩, a3, a4⟩ := h
  unfold tkL
  rw [if_pos ⟨by omega, h2⟩]
  unfold takes
  have hp : 1 ≤ x * t := by
    have := Int.mul_le_mul h1 (by omega : (1 : Int) ≤ t) (by omega) (by omega)
    omega
  rw [Int.le_ediv_iff_mul_le (by omega)]
  omega
/-- A Fifo's next time. -/
def nextF (items : List It) (now : Int) (S : LkS (List Hd)) : Int × Bool :=
  match items[S.put]? with
  | some x => (if S.s = [] then x.a else if now < S.free then min x.a S.free else min x.a (now + 1), true)
  | none => if S.s = [] then (0, false) else if now < S.free then (S.free, true) else (now + 1, true)
theorem goesF (q : Nat) (now : Int) (S : LkS (List Hd)) : goesS (FifoM q 1000 1000000 false) now S = ((S, if S.s = [] then 0 else if now < S.free then S.free else now + 1, decide (S.s ≠ [])) : LkS (List Hd) × Int × Bool) := by
  cases S with
  | mk s p f se lo mo =>
    cases s with
    | nil => rfl
    | cons y L =>
      unfold goesS
      have hl : ¬ (FifoM q 1000 1000000 false).len (y :: L) ≤ 0 := by
        show ¬ ((L.length + 1 : Nat) : Int) ≤ 0
        omega
      by_cases h : now < f
      · simp only [hl, if_false, h, if_true]
        simp
        rfl
      · simp only [hl, if_false, h]
        show ((⟨y :: L, p, f, se, lo, mo⟩ : LkS (List Hd)), max (now + 1) (now + 1), true) = _
        simp
theorem nextS_F (q : Nat) (items : List It) (now : Int) (S : LkS (List Hd)) : nextS (FifoM q 1000 1000000 false) items now S = ((S, nextF items now S) : LkS (List Hd) × Int × Bool) := by
  unfold nextS nextF
  cases hx : items[S.put]? with
  | some x =>
    simp only [goesF]
    by_cases h : S.s = []
    · simp [h]
      rfl
    · simp only [h, if_false, ne_eq, not_false_eq_true, decide_true, if_true]
      split <;> rfl
  | none =>
    simp only [goesF]
    by_cases h : S.s = []
    · simp [h]
      rfl
    · simp only [h, if_false, ne_eq, not_false_eq_true, decide_true]
      split <;> rfl
section
variable {items : List It} {n t now : Int} {S : LkS (List Hd)}
theorem lwJ_next (h : LwJ items n t now S) (hf : S.s ≠ [] → now < S.free) (nx : ∀ x, items[S.put]? = some x → now < x.a) :
    ((nextF items now S).2 = true → LwJ items n t (nextF items now S).1 S) ∧ ((nextF items now S).2 = false → S.s = [] ∧ S.put = items.length) := by
  have hl := h.len
  have hp := h.put
  have hfr := h.free
  unfold nextF
  cases hx : items[S.put]? with
  | some x =>
    have hg : items.getD S.put it0 = x := by rw [List.getD_eq_getElem?_getD, hx]; rfl
    have hnx := nx x hx
    refine ⟨fun _ => ?_, fun h => by simp at h⟩
    by_cases he : S.s = []
    · simp only [he, if_true]
      have hm : S.sent.length = S.put := by rw [he] at hl; simpa using hl
      refine ⟨h.lost, h.put, h.len, h.sent, h.que, h.free, fun i hi => by have := h.come i hi; omega, fun _ => ?_⟩
      unfold bgA
      rw [hm, hg]
      omega
    · have hlt := hf he
      simp only [he, if_false, hlt, if_true]
      refine ⟨h.lost, h.put, h.len, h.sent, h.que, h.free, fun i hi => by have := h.come i hi; omega, fun _ => ?_⟩
      unfold bgA
      rw [← hfr]
      omega
  | none =>
    have hpl : S.put = items.length := by
      rw [List.getElem?_eq_none_iff] at hx
      omega
    by_cases he : S.s = []
    · simp only [he, if_true]
      exact ⟨fun h => by simp at h, fun _ => ⟨trivial, hpl⟩⟩
    · have hlt := hf he
      simp only [he, if_false, hlt, if_true]
      refine ⟨fun _ => ?_, fun h => by simp at h⟩
      refine ⟨h.lost, h.put, h.len, h.sent, h.que, h.free, fun i hi => by have := h.come i hi; omega, fun _ => ?_⟩
      unfold bgA
      rw [← hfr]
      omega
theorem lwJ_freed (h : LwJ items n t now S) (hr : okRate n t = true) (hokk : ∀ x ∈ items, x.ok = true) : (sendF n t now S).s ≠ [] → now < (sendF n t now S).free := by
  unfold sendF
  split
  · intro _; assumption
  · split
    · rename_i hs; intro h2; exact absurd hs h2
    · rename_i y L hs
      intro _
      have hl := h.len
      rw [hs, List.length_cons] at hl
      have hp := h.put
      have hy : y = hdIt (items.getD S.sent.length it0) S.sent.length := h.que 0 y (by rw [hs]; rfl)
      have hmem : items.getD S.sent.length it0 ∈ items := by
        rw [List.getD_eq_getElem?_getD, List.getElem?_eq_getElem (by omega)]
        exact List.getElem_mem _
      have hk := ok_len (x := y) (by rw [hy]; exact hokk _ hmem)
      have := tkL_pos hr hk.1 (by omega : y.l ≤ 1000000)
      show now < now + tkL n t y.l
      omega
end
theorem sendF_put (n t now : Int) (S : LkS (List Hd)) : (sendF n t now S).put = S.put := by
  unfold sendF
  split
  · rfl
  · split <;> rfl
theorem lwJ_zero (items : List It) (n t : Int) : LwJ items n t 0 ⟨[], 0, 0, [], [], 0⟩ := by
  refine ⟨rfl, Nat.zero_le _, rfl, fun i s hs => (by simp at hs), fun i y hy => (by simp at hy), rfl, fun i hi => (by simp at hi), fun _ => ?_⟩
  show (0 : Int) ≤ bgA items n t 0
  unfold bgA frA
  omega
theorem lw_round {items : List It} {n t now : Int} {q : Nat} (hl : okL items) (hr : okRate n t = true) (hu : now ≤ 10000000) {S : LkS (List Hd)} (hI : LkI (FifoM q 1000 1000000 false) items S now true) (hJ : LwJ items n t now S) :
    ∃ S4 : LkS (List Hd), roundS (FifoM q 1000 1000000 false) items n t now S = ((S4, nextF items now S4) : LkS (List Hd) × Int × Bool) ∧ LwJ items n t now S4 ∧ ((nextF items now S4).2 = true → LwJ items n t (nextF items now S4).1 S4) ∧ ((nextF items now S4).2 = false → S4.s = [] ∧ S4.put = items.length) := by
  have hM := fifoM_fine q 1000 1000000 false (by decide) (by decide) (by decide)
  obtain ⟨tI, a, b, c⟩ := hI.inv
  have hI0 : ComeI (FifoM q 1000 1000000 false) (LkC.mk default (fun _ => False) 0 0 n t none 0 items) now S S := ⟨⟨tI, a, b rfl, c⟩, hI.put, Nat.le_refl _, by omega, rfl, rfl, rfl, rfl⟩
  obtain ⟨p1, ci, nx⟩ := comeS_ind (M := FifoM q 1000 1000000 false) (C := LkC.mk default (fun _ => False) 0 0 n t none 0 items) hM hl.fine.2 hl.all.1 hu (P := LwJ items n t now) (hI.coming rfl) (fun S' x hp hc hx he => by obtain ⟨tI, a, b, c⟩ := hc.inv; exact lwJ_put hp hl.fine.2 c hx (hl.all.1 x (List.mem_of_getElem? hx)) he) _ S (Nat.le_refl _) hI0 hJ
  simp only at p1 ci nx
  obtain ⟨S1, hS1⟩ : ∃ S1 : LkS (List Hd), comeS (FifoM q 1000 1000000 false) items now S = S1 := ⟨_, rfl⟩
  have p1' : LwJ items n t now S1 := Eq.mp (congrArg (LwJ items n t now) hS1) p1
  have nx' : ∀ x, items[S1.put]? = some x → now < x.a := fun x hx => nx x (by rw [hS1]; exact hx)
  have p2 : LwJ items n t now (mostS (FifoM q 1000 1000000 false) S1) := lwJ_most p1'
  have p4 := lwJ_sendF p2 hu hr
  have hf4 := lwJ_freed p2 hr hl.all.1
  have hput : (sendF n t now (mostS (FifoM q 1000 1000000 false) S1)).put = S1.put := sendF_put n t now _
  obtain ⟨n1, n2⟩ := lwJ_next p4 hf4 (fun x hx => nx' x (by rw [← hput]; exact hx))
  refine ⟨sendF n t now (mostS (FifoM q 1000 1000000 false) S1), ?_, p4, n1, n2⟩
  have e1 : roundS (FifoM q 1000 1000000 false) items n t now S = nextS (FifoM q 1000 1000000 false) items now (sentS (sendS (FifoM q 1000 1000000 false) n t now (mostS (FifoM q 1000 1000000 false) S1))) := by
    unfold roundS
    exact congrArg (fun z => nextS (FifoM q 1000 1000000 false) items now (sentS (sendS (FifoM q 1000 1000000 false) n t now (mostS (FifoM q 1000 1000000 false) z)))) hS1
  refine e1.trans ?_
  refine (congrArg (nextS (FifoM q 1000 1000000 false) items now) (sendS_eq q n t now _)).trans ?_
  exact nextS_F q items now _
/-- What is so behind so many rounds. -/
theorem lw_run {items : List It} {n t u : Int} {q : Nat} (hl : okL items) (hr : okRate n t = true) (hu : u ≤ 10000000) :
    ∀ k, (∀ j, j < k → goesOn u (itL (FifoM q 1000 1000000 false) items n t ([] : List Hd) j)) →
      LkI (FifoM q 1000 1000000 false) items (itL (FifoM q 1000 1000000 false) items n t ([] : List Hd) k).1 (itL (FifoM q 1000 1000000 false) items n t ([] : List Hd) k).2.1 (itL (FifoM q 1000 1000000 false) items n t ([] : List Hd) k).2.2 ∧
      ((itL (FifoM q 1000 1000000 false) items n t ([] : List Hd) k).2.2 = true → LwJ items n t (itL (FifoM q 1000 1000000 false) items n t ([] : List Hd) k).2.1 (itL (FifoM q 1000 1000000 false) items n t ([] : List Hd) k).1) ∧
      ((itL (FifoM q 1000 1000000 false) items n t ([] : List Hd) k).2.2 = false → ∃ now, LwJ items n t now (itL (FifoM q 1000 1000000 false) items n t ([] : List Hd) k).1 ∧ (itL (FifoM q 1000 1000000 false) items n t ([] : List Hd) k).1.s = ([] : List Hd) ∧ (itL (FifoM q 1000 1000000 false) items n t ([] : List Hd) k).1.put = items.length) := by
  have hM := fifoM_fine q 1000 1000000 false (by decide) (by decide) (by decide)
  have hfin := hl.fine
  intro k
  induction k with
  | zero =>
    intro _
    refine ⟨⟨Nat.zero_le _, ⟨0, Int.le_refl _, fun _ => Int.le_refl _, fifo_inv00 _ _ _ _⟩, fun _ => Int.le_refl _, fun _ j x _ hx => ?_, fun _ => Nat.zero_le _, fun _ => Nat.zero_le _⟩, fun _ => ?_, fun h => by cases h⟩
    · have h1 := hl.all.1 x (List.mem_of_getElem? hx)
      simp only [It.ok, Bool.and_eq_true, wth_iff] at h1
      exact h1.1.1.1.1.1
    · exact lwJ_zero items n t
  | succ k ih =>
    intro hon
    obtain ⟨hI, hJ, _⟩ := ih (fun j hj => hon j (by omega))
    obtain ⟨hm, hle⟩ := hon k (by omega)
    rw [hm] at hI
    have h2 : (itL (FifoM q 1000 1000000 false) items n t ([] : List Hd) k).2.1 ≤ 10000000 := by omega
    have hLI := (roundS_ind hM hl.fine.2 hl.all.1 hl.all.2 (n := n) (t := t) h2 hI (P := fun _ => True) trivial (fun _ _ _ _ _ _ _ _ _ => trivial) (fun _ _ => trivial) (fun _ _ _ _ _ _ _ => trivial) (fun _ _ _ _ _ _ => trivial)).2
    obtain ⟨S4, e4, j4, t4, f4⟩ := lw_round (q := q) hl hr h2 hI (hJ hm)
    have e5 : itL (FifoM q 1000 1000000 false) items n t ([] : List Hd) (k + 1) = ((S4, nextF items (itL (FifoM q 1000 1000000 false) items n t ([] : List Hd) k).2.1 S4) : LkS (List Hd) × Int × Bool) := e4
    refine ⟨hLI, ?_, ?_⟩
    · rw [e5]; exact t4
    · rw [e5]; exact fun h => ⟨_, j4, f4 h⟩
end Go.Proofs.YtfakjedolecdcaaGreatDoor
namespace Go.Proofs.YtfakjedolecdcaaGreatDoor
open Go.RowKit Go.Extern.Stop Go.Stop Go.Extern

theorem lw_end {items : List It} {n t u : Int} {q k : Nat} (hl : okL items) (hr : okRate n t = true) (hu : u ≤ 10000000) (hon : ∀ j, j < k → goesOn u (itL (FifoM q 1000 1000000 false) items n t ([] : List Hd) j)) (hoff : ¬ goesOn u (itL (FifoM q 1000 1000000 false) items n t ([] : List Hd) k)) :
    ∃ S : LkS (List Hd), (itL (FifoM q 1000 1000000 false) items n t ([] : List Hd) k).1 = S ∧ S.lost = [] ∧ (∀ (i : Nat) (s : Snt), S.sent[i]? = some s → s.n = (i : Int) ∧ s.f = bgA items n t i ∧ s.t = frA items n t (i + 1) ∧ s.f ≤ 10000000) ∧ S.sent.length ≤ items.length ∧ (S.sent.length < items.length → u < bgA items n t S.sent.length) ∧ (S.sent.length = items.length → S.s = []) := by
  obtain ⟨_, hT, hF⟩ := lw_run (q := q) hl hr hu k hon
  refine ⟨_, rfl, ?_⟩
  cases hm : (itL (FifoM q 1000 1000000 false) items n t ([] : List Hd) k).2.2 with
  | true =>
    have hJ := hT hm
    have hnow : u < (itL (FifoM q 1000 1000000 false) items n t ([] : List Hd) k).2.1 := by
      apply Int.lt_of_not_ge
      intro h
      exact hoff ⟨hm, h⟩
    have hle := hJ.len
    have hpu := hJ.put
    refine ⟨hJ.lost, hJ.sent, by omega, fun h => ?_, fun h => ?_⟩
    · have := hJ.next h; omega
    · exact List.length_eq_zero_iff.1 (by omega)
  | false =>
    obtain ⟨now, hJ, hs, hp⟩ := hF hm
    have hle := hJ.len
    rw [hs] at hle
    have hle2 : (itL (FifoM q 1000 1000000 false) items n t ([] : List Hd) k).1.sent.length = (itL (FifoM q 1000 1000000 false) items n t ([] : List Hd) k).1.put := by simpa using hle
    exact ⟨hJ.lost, hJ.sent, by omega, fun h => by omega, fun _ => hs⟩
set_option maxHeartbeats 4000000 in
theorem runF_no (n t : Int) (x : Option Addr) (cap : Nat) (items : List It) (u : Int) (w : World) (hG : Glob w) (hL : Laid w) (hbad : ¬ (okRate n t = true ∧ okL items)) (hit : ItemsAt w x items) (hm : items.length ≤ maxLen) :
    Calls Tryz.prog 11 #[.string textF, .agg #[.int .i64 n, .int .i64 t], .slice x items.length cap, .int .i64 u] w fun e w' => e = .returned (.tuple #[.agg #[.slice none 0 0, .slice none 0 0, .int .i64 0, .int .i64 0], .bool false]) ∧ Below w.heap.size w w' := by
  have HPF : Hid (∀ w1, Below w.heap.size w w1 → Calls Tryz.prog 7 #[.string textF, .slice none 0 0] w1 fun e w' => ∃ q, e = .returned (.tuple #[.iface 86 (.pointer (some ⟨q, 0, none⟩)), .nilIface]) ∧ w1.heap.size ≤ q ∧ LAt w' q 110 (frest 1000 1000000 false []) (.slice none 0 0) [] ∧ Below w1.heap.size w1 w') := fun w1 h1 => parseF w1 (hG.below h1)
  have HRN : Hid (∀ w1 q, Below w.heap.size w w1 → Calls Tryz.prog 26 #[.iface 86 (.pointer (some ⟨q, 0, none⟩)), .agg #[.int .i64 n, .int .i64 t], .slice x items.length cap, .int .i64 u] w1 fun e w' => ∃ ey ev, e = .returned (.tuple #[.agg #[.slice none 0 0, .slice none 0 0, .int .i64 0, .int .i64 0], .iface ey ev]) ∧ Below w1.heap.size w1 w') := by
    intro w1 q h1
    refine run_no _ _ _ _ _ _ _ _ _ (fun W hW => ?_)
    have hW1 : Below w.heap.size w W := h1.trans (hW.mono h1.size)
    cases hr : okRate n t with
    | false => exact (lkcheck_rate _ _ _ _ _ _ _ _ _ hr).mono fun e w' ⟨h1, h2⟩ => ⟨_, _, h1, h2⟩
    | true => exact lkcheck_list _ _ _ _ _ _ _ _ _ hr (fun h => hbad ⟨hr, h⟩) (hL.below hW1) (hit.below hW1) hm
  clear hG hL hbad hit hm
  go_enter Tryz.func11, Tryz.ntmps11
  go_wp2_with (go_at_call 7; fail)
  have hb0 : Below w.heap.size w ((w.alloc (.cells #[.int .i64 n, .int .i64 t] 37)).alloc (.cells #[.slice none 0 0, .slice none 0 0, .int .i64 0, .int .i64 0] 41)) := below_alloc_ (below_alloc_ (Below.refl _ _) _) _
  have hx0 : ((w.alloc (.cells #[.int .i64 n, .int .i64 t] 37)).alloc (.cells #[.slice none 0 0, .slice none 0 0, .int .i64 0, .int .i64 0] 41)).heap[w.heap.size]? = some (.cells #[.int .i64 n, .int .i64 t] 37 (0, 0)) := (Below.heap_alloc _ _ _ (by simp)).trans (new_block _ _)
  have hx1 : ((w.alloc (.cells #[.int .i64 n, .int .i64 t] 37)).alloc (.cells #[.slice none 0 0, .slice none 0 0, .int .i64 0, .int .i64 0] 41)).heap[w.heap.size + 1]? = some (.cells #[.slice none 0 0, .slice none 0 0, .int .i64 0, .int .i64 0] 41 (0, 0)) := new_block_ (by simp)
  have hs0 : ((w.alloc (.cells #[.int .i64 n, .int .i64 t] 37)).alloc (.cells #[.slice none 0 0, .slice none 0 0, .int .i64 0, .int .i64 0] 41)).heap.size = w.heap.size + 2 := by simp
  generalize (w.alloc (.cells #[.int .i64 n, .int .i64 t] 37)).alloc (.cells #[.slice none 0 0, .slice none 0 0, .int .i64 0, .int .i64 0] 41) = w0 at *
  refine (HPF.out w0 hb0).mono ?_
  rintro e w1 ⟨q, rfl, hq, hla, hb1⟩
  have hb01 : Below w.heap.size w w1 := hb0.trans (hb1.mono hb0.size)
  have hx01 := (hb1.block w.heap.size (by omega)).trans hx0
  have hx11 := (hb1.block (w.heap.size + 1) (by omega)).trans hx1
  have r0 : w1.cell? ⟨w.heap.size, 0, none⟩ = some (.int .i64 n) := by simp [World.cell?, hx01]
  have r1 : w1.cell? ⟨w.heap.size, 1, none⟩ = some (.int .i64 t) := by simp [World.cell?, hx01]
  have HB01 : Hid (Below w.heap.size w w1) := hb01
  have HX11 : Hid (w1.heap[w.heap.size + 1]? = some (.cells #[.slice none 0 0, .slice none 0 0, .int .i64 0, .int .i64 0] 41 (0, 0))) := hx11
  have HLA : Hid (LAt w1 q 110 (frest 1000 1000000 false []) (.slice none 0 0) []) := hla
  have hs1 := hb1.size
  clear hb0 hx0 hx1 hb1 hb01 hx01 hx11 hla HPF
  go_wp2_with (go_at_call 26; fail)
  refine (HRN.out w1 q HB01.out).mono ?_
  rintro e w2 ⟨ey, ev, rfl, hb2⟩
  have hx2 : w2.heap[w.heap.size + 1]? = some (.cells #[.slice none 0 0, .slice none 0 0, .int .i64 0, .int .i64 0] 41 (0, 0)) := (hb2.block (w.heap.size + 1) (by omega)).trans HX11.out
  have hs2 := hb2.size
  have HB02 : Hid (Below w.heap.size w w2) := HB01.out.trans (hb2.mono HB01.out.size)
  have HX2 : Hid (w2.heap[w.heap.size + 1]? = some (.cells #[.slice none 0 0, .slice none 0 0, .int .i64 0, .int .i64 0] 41 (0, 0))) := hx2
  have z0 : w2.cell? ⟨w.heap.size + 1, 0, none⟩ = some (.slice none 0 0) := by simp [World.cell?, hx2]
  have z1 : w2.cell? ⟨w.heap.size + 1, 1, none⟩ = some (.slice none 0 0) := by simp [World.cell?, hx2]
  have z2 : w2.cell? ⟨w.heap.size + 1, 2, none⟩ = some (.int .i64 0) := by simp [World.cell?, hx2]
  have z3 : w2.cell? ⟨w.heap.size + 1, 3, none⟩ = some (.int .i64 0) := by simp [World.cell?, hx2]
  have y0 : w2.frozen? ⟨w.heap.size + 1, 0, none⟩ = false := by simp [World.frozen?, hx2]
  have y1 : w2.frozen? ⟨w.heap.size + 1, 1, none⟩ = false := by simp [World.frozen?, hx2]
  have y2 : w2.frozen? ⟨w.heap.size + 1, 2, none⟩ = false := by simp [World.frozen?, hx2]
  have y3 : w2.frozen? ⟨w.heap.size + 1, 3, none⟩ = false := by simp [World.frozen?, hx2]
  have hbl2 := lt_of_block hx2
  clear hx2 r0 r1 HRN hb2
  go_wp2_with fail
  go_region
  all_goals go_wp2
  all_goals (try simp only [Exit.inBlock, Exit.then])
  have hz : (((((w2.setCell ⟨w.heap.size + 1, 0, none⟩ (.slice none 0 0)).setCell ⟨w.heap.size + 1, 1, none⟩ (.slice none 0 0)).setCell ⟨w.heap.size + 1, 2, none⟩ (.int .i64 0)).setCell ⟨w.heap.size + 1, 3, none⟩ (.int .i64 0)).alloc (.cells #[.slice none 0 0, .slice none 0 0, .int .i64 0, .int .i64 0] 41)).drew.heap[w.heap.size + 1]? = some (.cells #[.slice none 0 0, .slice none 0 0, .int .i64 0, .int .i64 0] 41 (0, 0)) := by
    refine (Below.heap_alloc _ _ _ (by simp; omega)).trans ?_
    rw [heap_setCell_here (heap_setCell_here (heap_setCell_here (heap_setCell_here HX2.out _) _) _) _]
    simp
  have hot : Ot (fun k => k = w.heap.size + 1) w2 (((((w2.setCell ⟨w.heap.size + 1, 0, none⟩ (.slice none 0 0)).setCell ⟨w.heap.size + 1, 1, none⟩ (.slice none 0 0)).setCell ⟨w.heap.size + 1, 2, none⟩ (.int .i64 0)).setCell ⟨w.heap.size + 1, 3, none⟩ (.int .i64 0)).alloc (.cells #[.slice none 0 0, .slice none 0 0, .int .i64 0, .int .i64 0] 41)).drew := by
    repeat' (first | with_reducible exact Ot.refl _ _ | with_reducible refine Ot.drew ?_ | with_reducible refine Ot.setCell ?_ (by simp) _ | with_reducible refine Ot.alloc ?_ _)
  refine bodyPost_ret (v := .tuple #[.agg #[.slice none 0 0, .slice none 0 0, .int .i64 0, .int .i64 0], .bool false]) ?_ rfl ⟨rfl, HB02.out.trans (hot.below HB02.out.size (fun k hk => by omega))⟩
  rw [results_cell_tmp rfl]
  simp [asAddr, Result.andThen, load_log hz]
end Go.Proofs.YtfakjedolecdcaaGreatDoor
