/-
  millraceref.ItemParse's memory and its mathematics: what is left to be read, the line's words and numbers, the list that grows. Conditions: none.
-/
import Derived.Test.YtcdcplocpdmjaaaDoorIp6
namespace Go.Proofs.YtcdcplocpdmjaaaDoor
open Go.RowKit Go.Shelf Go.Extern.Stop Go.Stop Go.Extern

def sumC (xs : List (List UInt8)) : Nat := (xs.map fun x => x.length + 1).sum
theorem cutL_sum (c : UInt8) : ∀ t : List UInt8, sumC (cutL c t) = t.length + 1
  | [] => by simp [cutL, sumC]
  | y :: l => by
    have ih := cutL_sum c l
    rw [cutL]
    split
    · simp only [sumC, List.map_cons, List.sum_cons, List.length_nil, List.length_cons] at ih ⊢
      omega
    · have hm := (cutL_many c l).2
      split
      · rename_i p ps hp
        rw [hp] at ih
        simp only [sumC, List.map_cons, List.sum_cons, List.length_cons] at ih ⊢
        omega
      · rename_i hp
        rw [hp] at hm
        simp at hm
/-- What is left from the i-th line on, which begins at p, is all that is left to say. -/
def LeftI (xs : List (List UInt8)) (R : Except (Int × Nat) (List It)) (l : List It) (p i : Nat) : Prop := R = readL l (plc p (xs.drop i)) ∧ p + sumC (xs.drop i) ≤ 20001 ∧ l.length ≤ i
section
variable {xs : List (List UInt8)} {R : Except (Int × Nat) (List It)} {l : List It} {p i : Nat} {x : List UInt8} {y : It}
theorem drop_at (hx : xs[i]? = some x) : xs.drop i = x :: xs.drop (i + 1) := by
  obtain ⟨h, rfl⟩ := List.getElem?_eq_some_iff.1 hx
  exact List.drop_eq_getElem_cons h
theorem LeftI.bound (h : LeftI xs R l p i) (hx : xs[i]? = some x) : p + x.length + 1 ≤ 20001 := by
  have h2 := h.2.1
  rw [drop_at hx] at h2
  simp only [sumC, List.map_cons, List.sum_cons] at h2
  omega
theorem LeftI.skip (h : LeftI xs R l p i) (hx : xs[i]? = some []) : LeftI xs R l (p + 1) (i + 1) := by
  obtain ⟨h1, h2, h3⟩ := h
  rw [drop_at hx] at h1 h2
  simp only [sumC, List.map_cons, List.sum_cons, List.length_nil] at h2
  refine ⟨?_, by unfold sumC; omega, by omega⟩
  rw [h1, plc]
  simp
theorem LeftI.one (h : LeftI xs R l p i) (hx : xs[i]? = some x) (hn : x ≠ []) : R = readL l ((p, x) :: plc (p + x.length + 1) (xs.drop (i + 1))) := by
  rw [h.1, drop_at hx, plc, if_neg hn]
  rfl
theorem LeftI.form (h : LeftI xs R l p i) (hx : xs[i]? = some x) (hn : x ≠ []) (hr : rowL x = none) : R = .error (3, p) := by
  rw [h.one hx hn, readL, hr]
theorem LeftI.bad (h : LeftI xs R l p i) (hx : xs[i]? = some x) (hn : x ≠ []) (hr : rowL x = some y) (he : (listE (l ++ [y])).1 ≠ 0) : R = .error ((listE (l ++ [y])).1, p) := by
  rw [h.one hx hn, readL, hr]
  simp only [he, if_false]
theorem LeftI.good (h : LeftI xs R l p i) (hx : xs[i]? = some x) (hn : x ≠ []) (hr : rowL x = some y) (he : (listE (l ++ [y])).1 = 0) : LeftI xs R (l ++ [y]) (p + x.length + 1) (i + 1) := by
  have h0 := h.one hx hn
  obtain ⟨h1, h2, h3⟩ := h
  rw [drop_at hx] at h2
  simp only [sumC, List.map_cons, List.sum_cons] at h2
  refine ⟨?_, by unfold sumC; omega, by simp; omega⟩
  rw [h0, readL, hr]
  simp only [he, if_true]
theorem LeftI.all (h : LeftI xs R l p xs.length) : R = .ok l := by
  rw [h.1, List.drop_length, plc, readL]
theorem LeftI.start (t : List UInt8) (ht : t.length ≤ 20000) : LeftI (cutL 10 t) (parseI t) [] 0 0 := ⟨by rw [List.drop_zero]; rfl, by rw [List.drop_zero, cutL_sum]; omega, by simp⟩
end
/-- The reference under way: the result's box, the lines, the list so far. -/
structure RpI (w : World) (xs : List (List UInt8)) (lv : Value) (l : List It) (W : World) : Prop where
  res : W.heap[w.heap.size]? = some (.cells #[.int .i64 0, .int .i64 0] 25 (0, 0))
  wds : ∀ (j : Nat) x, xs[j]? = some x → W.cell? ⟨w.heap.size + 1, 0 + j, none⟩ = some (.string ⟨x.toArray⟩)
  row : Seg W 39 5 lv l.length (flt itC l)
  own : ∀ j, lv.ownBlock = some j → w.heap.size + 2 ≤ j
  bel : Below w.heap.size w W
  siz : w.heap.size + 2 ≤ W.heap.size
section
variable {w W W' : World} {xs : List (List UInt8)} {lv : Value} {l : List It}
theorem RpI.below (h : RpI w xs lv l W) (hb : Below W.heap.size W W') : RpI w xs lv l W' :=
  ⟨(hb.block _ (lt_of_block h.res)).trans h.res, fun j x hj => (hb.cell (p := ⟨w.heap.size + 1, 0 + j, none⟩) (cell_ltN (h.wds j x hj))).trans (h.wds j x hj), h.row.below hb, h.own, h.bel.trans (hb.mono h.bel.size), Nat.le_trans h.siz hb.size⟩
/-- One more packet: W is ahead of it, X with the one that is added, w5 with the longer list. -/
theorem RpI.step (h : RpI w xs lv l W) {X w5 : World} (hX : Below W.heap.size W X) (hg : X.grownBy w5 lv.ownBlock) {g off cap : Nat} {x : It} (hs : Seg w5 39 5 (.slice (some ⟨g, off, none⟩) (l.length + 1) cap) (l.length + 1) (flt itC l ++ itC x)) (ha : lv.ownBlock = some g ∨ X.heap.size ≤ g) :
    RpI w xs (.slice (some ⟨g, off, none⟩) (l.length + 1) cap) (l ++ [x]) w5 := by
  have hz := h.siz
  have hxs := hX.size
  have kept : ∀ k, k < w.heap.size + 2 → w5.heap[k]? = W.heap[k]? := fun k hk => (hg.block k (by omega) (fun e => by have := h.own k e.symm; omega)).trans (hX.block k (by omega))
  refine ⟨(kept _ (by omega)).trans h.res, fun j y hj => (World.cell?_of_block (kept (w.heap.size + 1) (by omega))).trans (h.wds j y hj), ?_, ?_, ?_, ?_⟩
  · rw [List.length_append, flt_append, flt_one]
    exact hs
  · intro j hj
    simp only [Value.ownBlock, Option.some.injEq] at hj
    rcases ha with ha | ha
    · exact hj ▸ h.own g ha
    · omega
  · exact (h.bel.trans (hX.mono h.bel.size)).grown hg (h.bel.trans (hX.mono h.bel.size)).size (fun k e => by have := h.own k e; omega)
  · have := hg.size
    omega
end
/-- The array of a line's numbers in block A behind world M, its words in block B: i numbers are read. -/
structure AwI (M : World) (A B : Nat) (xs : List (List UInt8)) (n0 n1 n2 n3 n4 : Int) (i : Nat) (wx : World) : Prop where
  arr : wx.heap[A]? = some (.cells #[.int .i64 (if 0 < i then n0 else 0), .int .i64 (if 1 < i then n1 else 0), .int .i64 (if 2 < i then n2 else 0), .int .i64 (if 3 < i then n3 else 0), .int .i64 (if 4 < i then n4 else 0)] 44 (0, 0))
  wds : ∀ (j : Nat) x, xs[j]? = some x → wx.cell? ⟨B, 0 + j, none⟩ = some (.string ⟨x.toArray⟩)
  far : A ≠ B ∧ M.heap.size ≤ A
  bel : Below M.heap.size M wx
section
variable {M wx w2 : World} {A B : Nat} {xs : List (List UInt8)} {n0 n1 n2 n3 n4 : Int} {i : Nat}
theorem AwI.below (h : AwI M A B xs n0 n1 n2 n3 n4 i wx) (hb : Below wx.heap.size wx w2) : AwI M A B xs n0 n1 n2 n3 n4 i w2 :=
  ⟨(hb.block _ (lt_of_block h.arr)).trans h.arr, fun j x hj => (hb.cell (p := ⟨B, 0 + j, none⟩) (cell_ltN (h.wds j x hj))).trans (h.wds j x hj), h.far, h.bel.trans (hb.mono h.bel.size)⟩
theorem AwI.cells (h : AwI M A B xs n0 n1 n2 n3 n4 i wx) : (∀ j, j < 5 → wx.frozen? ⟨A, j, none⟩ = false) ∧ (∀ j, j < 5 → (wx.cell? ⟨A, j, none⟩).isSome = true) := by
  have hb := h.arr
  refine ⟨fun j hj => by simp [World.frozen?, hb], fun j hj => ?_⟩
  match j, hj with
  | 0, _ => simp [World.cell?, hb]
  | 1, _ => simp [World.cell?, hb]
  | 2, _ => simp [World.cell?, hb]
  | 3, _ => simp [World.cell?, hb]
  | 4, _ => simp [World.cell?, hb]
theorem AwI.set (h : AwI M A B xs n0 n1 n2 n3 n4 i wx) (hi : i < 5) (v : Int) (hv : v = [n0, n1, n2, n3, n4].getD i 0) : AwI M A B xs n0 n1 n2 n3 n4 (i + 1) (wx.setCell ⟨A, i, none⟩ (.int .i64 v)) := by
  have hf := h.far
  refine ⟨?_, fun j x hj => ?_, h.far, h.bel.setCell hf.2 _⟩
  · rw [heap_setCell_here h.arr]
    subst hv
    match i, hi with
    | 0, _ => simp
    | 1, _ => simp
    | 2, _ => simp
    | 3, _ => simp
    | 4, _ => simp
  · rw [← h.wds j x hj]
    exact World.cell?_of_block (heap_setCell_other _ ⟨A, i, none⟩ B _ (fun e => hf.1 e.symm))
end
end Go.Proofs.YtcdcplocpdmjaaaDoor
