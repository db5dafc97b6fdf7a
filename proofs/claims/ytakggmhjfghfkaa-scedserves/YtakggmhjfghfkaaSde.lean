/-
  What the law ScedServes asks of the plan, and what it holds while it goes. Nothing of the program is claimed here by itself.
-/
import Derived.Test.YtakggmhjfghfkaaSdd
import Derived.Test.YtakggmhjfghfkaaSvn
namespace Go.Proofs.Ytakggmhjfghfkaa
open Go.RowKit Go.Extern.Stop Go.Stop Go.Extern

theorem tot_add (f g : Nat → Int) : ∀ n, tot (fun j => f j + g j) n = tot f n + tot g n := by
  intro n
  induction n with
  | zero => simp [tot]
  | succ n ih => simp only [tot]; omega
theorem tot_zero {f : Nat → Int} : ∀ n, (∀ j, j < n → f j = 0) → tot f n = 0 := by
  intro n h
  have h1 := tot_congr (c := f) (c' := fun _ => 0) n h
  rw [h1]
  clear h1 h
  induction n with
  | zero => rfl
  | succ n ih => simp only [tot]; omega
theorem tot_pos {f : Nat → Int} : ∀ n, (∀ j, j < n → 0 ≤ f j) → ∀ j, j < n → f j ≤ tot f n := by
  intro n
  induction n with
  | zero => intro _ j hj; omega
  | succ n ih =>
    intro h j hj
    have h1 : 0 ≤ tot f n := by
      have := tot_mono (c := f) (n := n) (fun i hi => h i (by omega)) n 0 (by omega) (Nat.le_refl _)
      simpa [tot] using this
    have h2 := h n (by omega)
    simp only [tot]
    by_cases e : j = n
    · subst e; omega
    · have := ih (fun i hi => h i (by omega)) j (by omega); omega
/-- How many wait ahead of a tick. -/
def wtB (P : Nat → Nat → Int) (C : Nat → Nat → Int) (m t : Nat) : Int := tot (fun i => tot (C i) t - (gon P C m t i : Int)) m
/-- .. and at it, with what comes of the first j flows. -/
def wtJ (P : Nat → Nat → Int) (C : Nat → Nat → Int) (m t j : Nat) : Int := wtB P C m t + tot (fun i => C i t) j
variable {P C : Nat → Nat → Int} {m : Nat}
theorem wtJ_all (t : Nat) : wtJ P C m t m = tot (fun i => tot (C i) (t + 1) - (gon P C m t i : Int)) m := by
  unfold wtJ wtB
  rw [← tot_add]
  congr 1
  funext i
  simp only [tot]
  omega
theorem wt_none (hc : ∀ i, i < m → ∀ t, 0 ≤ C i t) (t : Nat) (h : pik P C m t < 0) : wtJ P C m t m = 0 := by
  rw [wtJ_all]
  refine tot_zero m fun j hj => ?_
  have h1 := bst_none m h j hj
  unfold waitQ hre at h1
  simp only [decide_eq_false_iff_not] at h1
  have h2 := gon_le (P := P) hc t j hj
  have h3 := hc j hj t
  simp only [tot] at *
  omega
theorem wt_some (hc : ∀ i, i < m → ∀ t, 0 ≤ C i t) (t j : Nat) (h : pik P C m t = j) : 0 < wtJ P C m t m ∧ j < m := by
  rw [wtJ_all]
  rcases pik_range (P := P) (c := C) (m := m) t with h1 | ⟨i, hi, h1, h2⟩
  · omega
  · obtain rfl : i = j := by omega
    have := tot_pos (f := fun i => tot (C i) (t + 1) - (gon P C m t i : Int)) m (fun j hj => by
      have h2 := gon_le (P := P) hc t j hj
      have h3 := hc j hj t
      simp only [tot]
      omega) i hi
    exact ⟨by omega, hi⟩
theorem wt_next (t : Nat) : wtB P C m (t + 1) = if pik P C m t < 0 then wtJ P C m t m else wtJ P C m t m - 1 := by
  rw [wtJ_all]
  unfold wtB
  rcases pik_range (P := P) (c := C) (m := m) t with h1 | ⟨i, hi, h1, h2⟩
  · rw [if_pos (by omega)]
    congr 1
    funext j
    rw [gon_succ, if_neg (by omega)]
  · rw [if_neg (by omega)]
    have := tot_one (f := fun j => tot (C j) (t + 1) - (gon P C m (t + 1) j : Int)) (g := fun j => tot (C j) (t + 1) - (gon P C m t j : Int)) (i := i) m hi (fun j hj => by
      rw [gon_succ, if_neg (by omega)]) (by
      rw [gon_succ, if_pos h1]
      push_cast
      omega)
    omega
theorem wtJ_bd (hc : ∀ i, i < m → ∀ t, 0 ≤ C i t ∧ C i t ≤ 100) (hs : ∀ i, i < m → ∀ t, tot (C i) t ≤ 100) (hm : m ≤ 8) (t j : Nat) (hj : j ≤ m) : 0 ≤ wtJ P C m t j ∧ wtJ P C m t j ≤ 1600 := by
  have h1 := tot_bd (c := fun i => C i t) (n := m) (B := 100) (fun i hi => hc i hi t) j hj
  have h2 := tot_bd (c := fun i => tot (C i) t - (gon P C m t i : Int)) (n := m) (B := 100) (fun i hi => by
    have h2 := gon_le (P := P) (fun i hi t => (hc i hi t).1) t i hi
    have h3 := hs i hi t
    omega) m (Nat.le_refl _)
  unfold wtJ wtB
  omega
/-- Each flow has got what its promise would have it get. -/
theorem serves_math {Tk : Nat} {F : Nat → Flw} (hok : FsOk m F) (h2 : Tk < rch F m) (hf : fitsB m F = true) {t i : Nat} (ht : t ≤ Tk) (hi : i < m) : conv (tot (cF F i)) (F i).p t ≤ gon (pF F Tk) (cF F) m t i := by
  have hq : fitsQ m F := by
    apply Classical.byContradiction
    intro hn
    rw [fitsB_no hn] at hf
    cases hf
  have hp : ∀ i, i < m → PadOk (cF F i) := fun i hi => padOk (hok.ok i hi).come
  have hr : ∀ i, i < m → Tk < (F i).m := fun i hi => by have := rch_le (F := F) m i hi; omega
  exact edf (P := pF F Tk) (c := cF F) (m := m) (b := fun i => (F i).p) (T := Tk) (fun i hi t => (hp i hi).lo t) (fun i hi t ht => (hok.ok i hi).cv.low t (by have := hr i hi; omega)) (fun i hi s t hs ht => (hok.ok i hi).cv.mono t s hs (by have := hr i hi; omega)) (fun t ht => hq t (by omega)) (fun i hi k => rfl) t ht i hi

/-! ### In memory -/
/-- A row of ints in a block. -/
def GnAt (w : World) (gb m : Nat) (f : Nat → Int) : Prop := ∃ cur, w.heap[gb]? = some (.cells cur 3 (0, 0)) ∧ cur.size = m ∧ ∀ i, i < m → cur[i]? = some (.int .i64 (f i))
theorem GnAt.cell {w : World} {gb m : Nat} {f : Nat → Int} (h : GnAt w gb m f) {i : Nat} (hi : i < m) : w.cell? ⟨gb, i, none⟩ = some (.int .i64 (f i)) ∧ w.frozen? ⟨gb, i, none⟩ = false ∧ gb < w.heap.size := by
  obtain ⟨cur, h1, _, h3⟩ := h
  exact ⟨by simp only [World.cell?, h1]; exact h3 i hi, by simp [World.frozen?, h1], lt_of_block h1⟩
theorem GnAt.kept {w w' : World} {gb m : Nat} {f : Nat → Int} (h : GnAt w gb m f) (hb : w'.heap[gb]? = w.heap[gb]?) : GnAt w' gb m f := by
  obtain ⟨cur, h1, h2⟩ := h
  exact ⟨cur, hb.trans h1, h2⟩
theorem GnAt.set {w : World} {gb m : Nat} {f f' : Nat → Int} (h : GnAt w gb m f) (i : Nat) (u : Int) (hf : ∀ j, j < m → f' j = if j = i then u else f j) : GnAt (w.setCell ⟨gb, i, none⟩ (.int .i64 u)) gb m f' := by
  obtain ⟨cur, h1, h2, h3⟩ := h
  refine ⟨cur.setIfInBounds i (.int .i64 u), heap_setCell_here h1 _, by simp [h2], fun j hj => ?_⟩
  rw [hf j hj]
  by_cases e : j = i
  · subst e
    rw [if_pos rfl, Array.getElem?_setIfInBounds_self_of_lt (by omega)]
  · rw [if_neg e, Array.getElem?_setIfInBounds_ne (fun x => e x.symm)]
    exact h3 j hj
theorem GnAt.congr {w : World} {gb m : Nat} {f f' : Nat → Int} (h : GnAt w gb m f) (hf : ∀ j, j < m → f j = f' j) : GnAt w gb m f' := by
  obtain ⟨cur, h1, h2, h3⟩ := h
  exact ⟨cur, h1, h2, fun j hj => by rw [← hf j hj]; exact h3 j hj⟩
theorem gnAt_made (w : World) (n : Nat) : GnAt (w.alloc (.cells (madeCells #[Value.int .i64 0] n) 3)) w.heap.size n (fun _ => 0) := ⟨_, new_block _ _, size_madeCells _ _, fun i hi => madeI n i hi⟩
/-- What is served to the first j flows. -/
structure ByR (w3 wr : World) (gb yb m n : Nat) (S : Nat → Nat → Int) (j : Nat) : Prop where
  bel : Below gb w3 wr
  gn : GnAt wr gb m (fun _ => 0)
  ex : ∃ (cur : Array Value) (s : Nat → Nat), wr.heap[yb]? = some (.cells cur 23 (0, 0)) ∧ cur.size = m ∧ ∀ i, i < j → cur[i]? = some (.slice (some ⟨s i, 0, none⟩) n n) ∧ Row wr (some ⟨s i, 0, none⟩) n (S i) ∧ yb < s i
theorem ByR.step {w3 wr w4 w5 : World} {gb yb m n j s : Nat} {S : Nat → Nat → Int} (H : ByR w3 wr gb yb m n S j) (h4 : Below wr.heap.size wr w4) (h5 : Below w4.heap.size w4 w5) (hgy : gb < yb) (hr : Row w5 (some ⟨s, 0, none⟩) n (S j)) (hs : w4.heap.size ≤ s) (hjm : j < m) :
    ByR w3 (w5.setCell ⟨yb, j, none⟩ (.slice (some ⟨s, 0, none⟩) n n)) gb yb m n S (j + 1) := by
  obtain ⟨cur, s', k1, k2, k3⟩ := H.ex
  have hy := lt_of_block k1
  obtain ⟨gc, g1, _⟩ := H.gn
  have hgl := lt_of_block g1
  have h45 : Below wr.heap.size wr w5 := below_after h4 h5
  have k1' : w5.heap[yb]? = some (.cells cur 23 (0, 0)) := (h45.block yb hy).trans k1
  have hO : Ot (fun b => b = yb) w5 (w5.setCell ⟨yb, j, none⟩ (.slice (some ⟨s, 0, none⟩) n n)) := Ot.setCell (S := fun b => b = yb) (p := ⟨yb, j, none⟩) (Ot.refl _ _) (Or.inl rfl) _
  have h4s := h4.size
  refine ⟨?_, (H.gn.kept (h45.block gb hgl)).kept (Below.heap_setCell _ _ _ _ (by show gb ≠ yb; omega)), cur.setIfInBounds j (.slice (some ⟨s, 0, none⟩) n n), fun i => if i = j then s else s' i, heap_setCell_here k1' _, by simp [k2], fun i hi => ?_⟩
  · refine Below.setCell (p := ⟨yb, j, none⟩) (H.bel.trans (h45.mono (by omega))) (show gb ≤ yb by omega) _
  · by_cases e : i = j
    · subst e
      simp only [if_true]
      exact ⟨by rw [Array.getElem?_setIfInBounds_self_of_lt (by omega)], row_ot hr hO (by omega), by omega⟩
    · simp only [if_neg e]
      obtain ⟨z1, z2, z3⟩ := k3 i (by omega)
      refine ⟨by rw [Array.getElem?_setIfInBounds_ne (fun x => e x.symm)]; exact z1, row_ot (z2.below h45) hO (by omega), z3⟩
end Go.Proofs.Ytakggmhjfghfkaa
