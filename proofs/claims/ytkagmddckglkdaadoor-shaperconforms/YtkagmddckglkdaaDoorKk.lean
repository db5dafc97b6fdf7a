/-
  millracekeep.QueueKeeps: it returns true at every room, at either end, and for all steps; nothing that was there before is otherwise. Conditions: the steps lie in memory.
-/
import Derived.Test.YtkagmddckglkdaaDoorKq
namespace Go.Proofs.YtkagmddckglkdaaDoor
open Go.RowKit Go.Extern.Stop Go.Stop Go.Extern

/-- Who waits came in order, behind l; there is room. -/
structure OrdF (P R l : Int) (L : List Hd) (n : Nat) : Prop where
  sorted : (L.map Hd.n).Pairwise (· < ·)
  each : ∀ x ∈ L, l < x.n ∧ x.n < n ∧ 0 ≤ x.n ∧ 0 ≤ x.l
  last : l < n
  room : over P R L = false
theorem over_cut {P R : Int} (hP : 0 ≤ P) (hR : 0 ≤ R) (L : List Hd) : over P R (cutL P R L).2 = false := by
  induction L with
  | nil => exact over_nil hP hR
  | cons x L ih =>
    cases h : over P R (x :: L) with
    | true => rw [cutL_yes h]; exact ih
    | false => rw [cutL_no h]; exact h
theorem over_iff {P R : Int} {L : List Hd} : over P R L = false ↔ (L.length : Int) ≤ P ∧ sumL L ≤ R := by
  simp only [over, Bool.or_eq_false_iff, decide_eq_false_iff_not]
  omega
theorem sumL_tail {x : Hd} {L : List Hd} (h : 0 ≤ x.l) : sumL L ≤ sumL (x :: L) := by simp only [sumL]; omega
theorem OrdF.snoc {P R l : Int} {L : List Hd} {n : Nat} (h : OrdF P R l L n) {x : Hd} (hx : x.n = n) (hl : 0 ≤ x.l) : ((L ++ [x]).map Hd.n).Pairwise (· < ·) ∧ ∀ y ∈ L ++ [x], l < y.n ∧ y.n < (n + 1 : Nat) ∧ 0 ≤ y.n ∧ 0 ≤ y.l := by
  constructor
  · rw [List.map_append, List.pairwise_append]
    refine ⟨h.sorted, by simp, ?_⟩
    intro a ha b hb
    simp only [List.map_cons, List.map_nil, List.mem_singleton] at hb
    obtain ⟨y, hy, rfl⟩ := List.mem_map.1 ha
    have := (h.each y hy).2.1
    omega
  · intro y hy
    rcases List.mem_append.1 hy with hy | hy
    · have := h.each y hy; omega
    · simp at hy; subst hy; have := h.last; omega
theorem OrdF.suffix {P R l : Int} {A B : List Hd} {n : Nat} (h1 : ((A ++ B).map Hd.n).Pairwise (· < ·)) (h2 : ∀ y ∈ A ++ B, l < y.n ∧ y.n < (n : Nat) ∧ 0 ≤ y.n ∧ 0 ≤ y.l) (hl : l < n) (ho : over P R B = false) : OrdF P R l B n := by
  rw [List.map_append, List.pairwise_append] at h1
  exact ⟨h1.2.1, fun y hy => h2 y (List.mem_append_right _ hy), hl, ho⟩
theorem ordF_put {P R l : Int} {hd : Bool} {L : List Hd} {n : Nat} (h : OrdF P R l L n) (hP : 0 ≤ P) (hR : 0 ≤ R) {x : Hd} (hx : x.n = n) (hl : 0 ≤ x.l) : OrdF P R l (putF P R hd L x).2 (n + 1) := by
  obtain ⟨h1, h2⟩ := h.snoc hx hl
  have hlast := h.last
  unfold putF
  split
  · have hc := cutL_parts P R (L ++ [x])
    rw [← hc] at h1 h2
    exact OrdF.suffix h1 h2 (by omega) (over_cut hP hR _)
  · split
    · exact ⟨h.sorted, fun y hy => by have := h.each y hy; omega, by omega, h.room⟩
    · rename_i h3
      simp only [Bool.or_eq_true, decide_eq_true_eq] at h3
      refine ⟨h1, h2, by omega, over_iff.2 ⟨?_, ?_⟩⟩
      · show (((L ++ [x]).length : Nat) : Int) ≤ P
        rw [List.length_append]
        simp only [List.length_cons, List.length_nil]
        omega
      · show sumL (L ++ [x]) ≤ R
        rw [sumL_append]
        simp only [sumL]
        omega
theorem ordF_step {b : Nat} {P R l : Int} {hd : Bool} {L : List Hd} {n : Nat} (h : OrdF P R l L n) (hP : 0 ≤ P) (hR : 0 ≤ R) {st : Stp} (hok : st.what = 0 → 0 ≤ st.l) :
    OrdF P R (if 0 ≤ (stepQ (FifoM b P R hd) L n st).2.taken then (stepQ (FifoM b P R hd) L n st).2.taken else l) (stepQ (FifoM b P R hd) L n st).1.1 (stepQ (FifoM b P R hd) L n st).1.2 ∧ (0 ≤ (stepQ (FifoM b P R hd) L n st).2.taken → l < (stepQ (FifoM b P R hd) L n st).2.taken) := by
  by_cases hw : st.what = 0
  · have hstep : stepQ (FifoM b P R hd) L n st = (((putF P R hd L (hdOf st n)).2, n + 1), ⟨-1, 0, -1, ((putF P R hd L (hdOf st n)).2.length : Nat), sumL (putF P R hd L (hdOf st n)).2, (putF P R hd L (hdOf st n)).1.map Hd.n⟩) := by simp only [stepQ, if_pos hw]; rfl
    rw [hstep]
    exact ⟨ordF_put h hP hR rfl (hok hw), fun h => absurd h (by show ¬ (0 : Int) ≤ -1; decide)⟩
  · by_cases hw1 : st.what = 1
    · have hstep : stepQ (FifoM b P R hd) L n st = ((L.tail, n), ⟨if !L.isEmpty then (hdOr L).n else -1, if !L.isEmpty then (hdOr L).m else 0, -1, (L.tail.length : Nat), sumL L.tail, []⟩) := by simp only [stepQ, if_neg hw, if_pos hw1]; rfl
      rw [hstep]
      cases L with
      | nil => exact ⟨h, fun h => absurd h (by show ¬ (0 : Int) ≤ -1; decide)⟩
      | cons x L =>
        have hx := h.each x (by simp)
        have hs := h.sorted
        simp only [List.map_cons, List.pairwise_cons] at hs
        have e : (if !(x :: L).isEmpty then (hdOr (x :: L)).n else -1) = x.n := rfl
        simp only [e, if_pos hx.2.2.1]
        refine ⟨⟨hs.2, fun y hy => ?_, hx.2.1, ?_⟩, fun _ => hx.1⟩
        · have h1 := h.each y (List.mem_cons_of_mem x hy)
          have h2 := hs.1 y.n (List.mem_map.2 ⟨y, hy, rfl⟩)
          exact ⟨h2, h1.2⟩
        · have h1 := over_iff.1 h.room
          have h2 := sumL_tail (L := L) hx.2.2.2
          refine over_iff.2 ⟨?_, by show sumL L ≤ R; omega⟩
          have h3 := h1.1
          simp only [List.length_cons] at h3
          show (L.length : Int) ≤ P
          omega
    · have hstep : stepQ (FifoM b P R hd) L n st = ((L, n), ⟨-1, 0, if !L.isEmpty then st.lt else -1, (L.length : Nat), sumL L, []⟩) := by simp only [stepQ, if_neg hw, if_neg hw1]; rfl
      rw [hstep]
      exact ⟨h, fun h => absurd h (by show ¬ (0 : Int) ≤ -1; decide)⟩
/-- Which was taken last. -/
def lastS (ss : List Sn) : Nat → Int
  | 0 => -1
  | k + 1 => match ss[k]? with
    | none => lastS ss k
    | some sn => if 0 ≤ sn.taken then sn.taken else lastS ss k
theorem lastS_succ {ss : List Sn} {k : Nat} {sn : Sn} (h : ss[k]? = some sn) : lastS ss (k + 1) = if 0 ≤ sn.taken then sn.taken else lastS ss k := by simp only [lastS, h]
theorem timesL_okl {xs : List Stp} {i : Nat} {st : Stp} (h : (timesL 0 xs)[i]? = some st) (hw : st.what = 0) : 0 ≤ st.l := by
  have hi := (List.getElem?_eq_some_iff.1 h).1
  rw [timesL_length] at hi
  obtain ⟨y, hy⟩ : ∃ y, xs[i]? = some y := ⟨_, List.getElem?_eq_getElem hi⟩
  rw [timesL_at hy] at h
  obtain rfl := Option.some.inj h
  have h1 := timed_ok (t := nowAt 0 xs (i + 1)) (s := y) hw
  simp only [It.ok, Bool.and_eq_true, wth_iff] at h1
  show 0 ≤ y.l
  omega
theorem fifo_order (b : Nat) {P R : Int} (hd : Bool) (hP : 0 ≤ P) (hR : 0 ≤ R) (xs : List Stp) (s0 : (FifoM b P R hd).σ) (h0 : OrdF P R (-1) s0 0) : ∀ i sn, (playFrom (FifoM b P R hd) s0 0 (timesL 0 xs))[i]? = some sn → (0 ≤ sn.taken → lastS (playFrom (FifoM b P R hd) s0 0 (timesL 0 xs)) i < sn.taken) ∧ sn.len ≤ P ∧ sn.bytes ≤ R := by
  have hall : ∀ i, i ≤ (timesL 0 xs).length → OrdF P R (lastS (playFrom (FifoM b P R hd) s0 0 (timesL 0 xs)) i) (stFrom (FifoM b P R hd) s0 0 (timesL 0 xs) i).1 (stFrom (FifoM b P R hd) s0 0 (timesL 0 xs) i).2 := by
    intro i
    induction i with
    | zero =>
      intro _
      have e := stFrom_zero (FifoM b P R hd) s0 0 (timesL 0 xs)
      rw [e]
      exact h0
    | succ i ih =>
      intro hi
      obtain ⟨st, hst⟩ : ∃ st, (timesL 0 xs)[i]? = some st := ⟨_, List.getElem?_eq_getElem (by omega)⟩
      have e := stFrom_succ (M := FifoM b P R hd) (s := s0) (n := 0) hst
      rw [e, lastS_succ (playFrom_at hst)]
      exact (ordF_step (ih (by omega)) hP hR (timesL_okl hst)).1
  intro i sn hsn
  have hi := (List.getElem?_eq_some_iff.1 hsn).1
  rw [playFrom_length] at hi
  obtain ⟨st, hst⟩ : ∃ st, (timesL 0 xs)[i]? = some st := ⟨_, List.getElem?_eq_getElem hi⟩
  rw [playFrom_at hst] at hsn
  obtain rfl := Option.some.inj hsn
  obtain ⟨h1, h2⟩ := ordF_step (b := b) (hd := hd) (hall i (by omega)) hP hR (timesL_okl hst)
  obtain ⟨h3, h4⟩ := stepQ_len (FifoM b P R hd) (stFrom (FifoM b P R hd) s0 0 (timesL 0 xs) i).1 (stFrom (FifoM b P R hd) s0 0 (timesL 0 xs) i).2 st
  have h5 := over_iff.1 h1.room
  exact ⟨h2, by rw [h3]; exact h5.1, by rw [h4]; exact h5.2⟩
theorem ordF_nil {P R : Int} (hP : 0 ≤ P) (hR : 0 ≤ R) : OrdF P R (-1) [] 0 := ⟨by simp, by simp, by decide, over_nil hP hR⟩

theorem kept_any (xs : List Stp) (ss : List Sn) (us : List Value) (G : Nat → LS) (G2 : Nat → LS) (x : Option Addr) (cap : Nat) (v : Value) (base : Nat) (F : Nat → Prop) (w : World) (hl : Lies w x (flt Stp.cs xs)) (hn : xs.length ≤ 1000) (hs : Sns w base F v ss us) (hlen : ss.length = xs.length)
    (h0 : G 0 = ls0) (hG : ∀ i t sn, (timesL 0 xs)[i]? = some t → ss[i]? = some sn → LStep (G i) t sn (G2 i) (G (i + 1))) :
    Calls Tryd.prog 11 #[.slice x xs.length cap, v] w fun e w' => e = .returned (.bool true) ∧ Below w.heap.size w w' := by
  have HC := left_any xs ss us G G2 x cap v base F w hl hn hs hlen h0 hG
  clear hl hs hG h0
  go_enter Tryd.func11, Tryd.ntmps11
  go_wp2_with (go_at_call 25; refine HC.mono ?_; rintro e w1 ⟨rfl, hb1⟩)
  go_ret
  exact ⟨rfl, hb1⟩

end Go.Proofs.YtkagmddckglkdaaDoor
