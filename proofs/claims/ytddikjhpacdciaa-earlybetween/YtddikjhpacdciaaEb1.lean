/-
  early.Red between Low and High: what Put throws away against what a plain queue would; the rounds of millracekeep.EarlyBetween. Mathematics alone.
-/
import Derived.Test.YtddikjhpacdciaaRd8
import Derived.Test.YtddikjhpacdciaaKq
namespace Go.Proofs.Ytddikjhpacdciaa
open Go.RowKit Go.Extern.Stop Go.Stop Go.Extern

/-- A plain queue has no room for so many bytes more. -/
def fullB (P : Int) (L : List Hd) (l : Int) : Bool := decide (P ≤ (L.length : Int)) || decide (1000000 < sumL L + l)
theorem fullB_eq (P : Int) (L : List Hd) (x : Hd) : (decide (P ≤ (L.length : Int)) || decide (1000000 - sumL L < x.l)) = fullB P L x.l := by
  unfold fullB
  congr 1
  simp only [decide_eq_decide]
  omega
theorem putF_is (P : Int) (L : List Hd) (x : Hd) : (fullB P L x.l = true ∧ putF P 1000000 false L x = ([x], L)) ∨ (fullB P L x.l = false ∧ putF P 1000000 false L x = ([], L ++ [x])) := by
  cases h : fullB P L x.l with
  | true => exact Or.inl ⟨rfl, putF_full (by rw [fullB_eq]; exact h)⟩
  | false => exact Or.inr ⟨rfl, putF_room (by rw [fullB_eq]; exact h)⟩
/-- What Put told of a packet: nothing, and it waits; or itself, and nothing waits more. -/
structure PutT (P : Int) (q : RSet) (s : RdS) (x : Hd) (s' : RdS) (gone : List Hd) : Prop where
  two : (gone.length = 0 ∧ fullB P s.L x.l = false ∧ ∃ y : Hd, y.n = x.n ∧ y.l = x.l ∧ s'.L = s.L ++ [y]) ∨ (gone.length = 1 ∧ s'.L = s.L)
  low : meanR q s'.sum < q.lo → gone.length = 1 → fullB P s.L x.l = true
  high : q.hi ≤ meanR q s'.sum → q.mrk = false → gone.length = 1
  mark : q.mrk = true → gone.length = 1 → fullB P s.L x.l = true
theorem putR_told (P : Int) (q : RSet) (hq : q.Ok) (s : RdS) (x : Hd) (h0 : 0 ≤ s.since) : PutT P q s x (putR P 1000000 q s x).1 (putR P 1000000 q s x).2 := by
  obtain ⟨e1, e2, e3, e4⟩ := hitR_L q (sumR q s) h0
  have e1' : (hitR q (sumR q s)).2.L = s.L := e1
  have hlh := hq.lohi
  have hml : (marked x).l = x.l := rfl
  cases hh : (hitR q (sumR q s)).1 with
  | true =>
    have hnl : ¬ meanR q (sumR q s).sum < q.lo := fun h => by
      have : (hitR q (sumR q s)).1 = false := by unfold hitR; rw [if_pos h]
      rw [hh] at this; cases this
    cases hm : q.mrk with
    | true =>
      have e : putR P 1000000 q s x = ({ (hitR q (sumR q s)).2 with L := (putF P 1000000 false s.L (marked x)).2 }, (putF P 1000000 false s.L (marked x)).1) := by unfold putR; rw [hh, hm]; rfl
      rw [e]
      rcases putF_is P s.L (marked x) with ⟨f1, f2⟩ | ⟨f1, f2⟩
      · rw [hml] at f1
        rw [f2]
        exact ⟨Or.inr ⟨rfl, rfl⟩, fun _ _ => f1, fun _ h => (by cases h.symm.trans hm), fun _ _ => f1⟩
      · rw [hml] at f1
        rw [f2]
        exact ⟨Or.inl ⟨rfl, f1, marked x, rfl, rfl, rfl⟩, fun _ h => by simp at h, fun _ h => (by cases h.symm.trans hm), fun _ h => by simp at h⟩
    | false =>
      have e : putR P 1000000 q s x = ((hitR q (sumR q s)).2, [x]) := by unfold putR; rw [hh, hm]; rfl
      rw [e]
      refine ⟨Or.inr ⟨rfl, e1'⟩, fun h => ?_, fun _ _ => rfl, fun h => by cases h.symm.trans hm⟩
      have h' : meanR q (hitR q (sumR q s)).2.sum < q.lo := h
      rw [e2] at h'
      exact absurd h' hnl
  | false =>
    have hnh : ¬ q.hi ≤ meanR q (sumR q s).sum := fun h => by
      have : (hitR q (sumR q s)).1 = true := by unfold hitR; rw [if_neg (by omega), if_pos h]
      rw [hh] at this; cases this
    have e : putR P 1000000 q s x = ({ (hitR q (sumR q s)).2 with L := (putF P 1000000 false s.L x).2 }, (putF P 1000000 false s.L x).1) := by unfold putR; rw [hh]; rfl
    rw [e]
    have hhi : ∀ {A : Prop}, q.hi ≤ meanR q ({ (hitR q (sumR q s)).2 with L := (putF P 1000000 false s.L x).2 } : RdS).sum → A := fun h => by
      have h' : q.hi ≤ meanR q (hitR q (sumR q s)).2.sum := h
      rw [e2] at h'
      exact absurd h' hnh
    rcases putF_is P s.L x with ⟨f1, f2⟩ | ⟨f1, f2⟩
    · refine ⟨Or.inr ⟨by rw [f2]; rfl, by rw [f2]⟩, fun _ _ => f1, fun h => hhi h, fun _ _ => f1⟩
    · refine ⟨Or.inl ⟨by rw [f2]; rfl, f1, x, rfl, rfl, by rw [f2]⟩, fun _ h => by rw [f2] at h; simp at h, fun h => hhi h, fun _ h => by rw [f2] at h; simp at h⟩
/-- A round of the law. -/
structure EbR (b : Nat) (P : Int) (q : RSet) (w5 : World) (F0 : Nat → Prop) (t : Int) (k n : Nat) (s : RdS) (F : Nat → Prop) (lv : Value) (ls : List Int) (wr : World) : Prop where
  pos : (RedM b P 1000000 q).At wr F s
  inv : (RedM b P 1000000 q).inv t n s
  nk : n ≤ k
  lens : Ins wr lv ls
  llen : ls.length = n
  lnew : ∀ j, lv.ownBlock = some j → w5.heap.size ≤ j ∧ ¬ F j
  each : ∀ y ∈ s.L, 0 ≤ y.n ∧ y.n < n ∧ ls[y.n.toNat]? = some y.l
  fnew : ∀ j, F j → F0 j ∨ w5.heap.size ≤ j
  ot : Ot F0 w5 wr
end Go.Proofs.Ytddikjhpacdciaa
