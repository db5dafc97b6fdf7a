/-
  Plain numbers as lists of 32-bit words, the least first; how they, and whole numbers with a sign, lie in memory (millracebig's Int); what stays where one of them is written. Nothing is claimed here by itself.
-/
import Derived.Test.YtebahbcmlhdleaaDoorErrs
namespace Go.Proofs.YtebahbcmlhdleaaDoor
open Go.RowKit

/-- The number that words tell. -/
def val : List Nat → Nat
  | [] => 0
  | u :: r => u + 4294967296 * val r
/-- Each word is one, and the last is not 0. -/
def canon (ws : List Nat) : Prop := (∀ u ∈ ws, u < 4294967296) ∧ ws.getLast? ≠ some 0

theorem val_append (a b : List Nat) : val (a ++ b) = val a + 4294967296 ^ a.length * val b := by
  induction a with
  | nil => simp [val]
  | cons u r ih => simp only [List.cons_append, val, ih, List.length_cons, Nat.pow_succ]; rw [Nat.mul_add, ← Nat.mul_assoc, Nat.mul_comm 4294967296 (4294967296 ^ r.length)]; omega
theorem val_zeros (n : Nat) : val (List.replicate n 0) = 0 := by
  induction n with
  | zero => rfl
  | succ n ih => simp [List.replicate_succ, val, ih]
theorem val_lt {ws : List Nat} (h : ∀ u ∈ ws, u < 4294967296) : val ws < 4294967296 ^ ws.length := by
  induction ws with
  | nil => simp [val]
  | cons u r ih =>
    have h1 := h u (by simp)
    have h2 := ih fun x hx => h x (by simp [hx])
    simp only [val, List.length_cons, Nat.pow_succ]
    have : 4294967296 * (val r + 1) ≤ 4294967296 * 4294967296 ^ r.length := Nat.mul_le_mul_left _ h2
    rw [Nat.mul_comm (4294967296 ^ r.length)]
    omega
theorem val_le_take (ws : List Nat) (k : Nat) (h : ∀ i, k ≤ i → i < ws.length → ws[i]? = some 0) : val (ws.take k) = val ws := by
  have hd : ws.drop k = List.replicate (ws.length - k) 0 := by
    apply List.ext_getElem?
    intro i
    rw [List.getElem?_drop, List.getElem?_replicate]
    split
    · exact h (k + i) (by omega) (by omega)
    · rw [List.getElem?_eq_none (by omega)]
  have hs : ws.take k ++ ws.drop k = ws := List.take_append_drop k ws
  have := val_append (ws.take k) (ws.drop k)
  rw [hs, hd, val_zeros] at this
  simpa using this.symm

theorem canon_nil : canon [] := ⟨by simp, by simp⟩
theorem canon_zero {ws : List Nat} (h : canon ws) (h0 : val ws = 0) : ws = [] := by
  induction ws with
  | nil => rfl
  | cons u r ih =>
    exfalso
    simp only [val] at h0
    have hu : u = 0 := by omega
    have hr : val r = 0 := by omega
    cases r with
    | nil => exact h.2 (by simp [hu])
    | cons x s =>
      have := ih ⟨fun y hy => h.1 y (by simp [hy]), by have := h.2; simpa using this⟩ hr
      cases this
/-- A number of at most two words. -/
theorem canon_two {ws : List Nat} (h : canon ws) (h2 : val ws < 18446744073709551616) :
    (ws = [] ∧ val ws = 0) ∨ (∃ u, ws = [u] ∧ 0 < u ∧ u < 4294967296 ∧ val ws = u) ∨ (∃ u v, ws = [u, v] ∧ u < 4294967296 ∧ 0 < v ∧ v < 4294967296 ∧ val ws = u + 4294967296 * v) := by
  match ws, h, h2 with
  | [], _, _ => exact Or.inl ⟨rfl, rfl⟩
  | [u], h, _ =>
    have h1 := h.1 u (by simp)
    have h0 : u ≠ 0 := by have := h.2; simpa using this
    exact Or.inr (Or.inl ⟨u, rfl, by omega, h1, by simp [val]⟩)
  | [u, v], h, _ =>
    have h1 := h.1 u (by simp)
    have h3 := h.1 v (by simp)
    have h0 : v ≠ 0 := by have := h.2; simpa using this
    exact Or.inr (Or.inr ⟨u, v, rfl, h1, by omega, h3, by simp [val]⟩)
  | u :: v :: x :: r, h, h2 =>
    exfalso
    have hx : val (x :: r) ≠ 0 := by
      intro h0
      have := canon_zero (ws := x :: r) ⟨fun y hy => h.1 y (List.mem_cons_of_mem _ (List.mem_cons_of_mem _ hy)), by have := h.2; simpa using this⟩ h0
      cases this
    simp only [val] at h2 hx
    omega

/-- Words lie in memory, as a slice. -/
def WordsAt (w : World) (v : Value) (ws : List Nat) : Prop :=
  ∃ x cap, v = .slice x ws.length cap ∧ ws.length ≤ cap ∧ cap ≤ maxLen ∧ (ws = [] ∨ ∃ b off, x = some ⟨b, off, none⟩ ∧ ∀ (i u : Nat), ws[i]? = some u → w.cell? ⟨b, off + i, none⟩ = some (.int .u32 (u : Int)))
/-- A number lies in memory, by its words. -/
def NatAt (w : World) (v : Value) (n : Nat) : Prop := ∃ ws, WordsAt w v ws ∧ canon ws ∧ val ws = n ∧ ws.length ≤ 1000000
/-- A whole number lies at an address (millracebig's Int). -/
def IntAt (w : World) (b o : Nat) (z : Int) : Prop := w.cell? ⟨b, o, none⟩ = some (.bool (decide (z < 0))) ∧ ∃ v, w.cell? ⟨b, o + 1, none⟩ = some v ∧ NatAt w v z.natAbs
/-- A variable of that type lies there, and may be written. -/
def Slot (w : World) (b o : Nat) : Prop := (∃ c, w.cell? ⟨b, o, none⟩ = some (.bool c)) ∧ (∃ x n c, w.cell? ⟨b, o + 1, none⟩ = some (.slice x n c)) ∧ w.frozen? ⟨b, o, none⟩ = false ∧ w.frozen? ⟨b, o + 1, none⟩ = false

/-- All is as it was but for the variable at this address, and for new blocks. -/
structure Upd (zb zo : Nat) (w w' : World) : Prop where
  os : w'.os = w.os
  tape : w'.tape = w.tape
  output : w'.output = w.output
  size : w.heap.size ≤ w'.heap.size
  block : ∀ k, k < w.heap.size → k ≠ zb → w'.heap[k]? = w.heap[k]?
  cell : ∀ b o, b < w.heap.size → ¬ (b = zb ∧ (o = zo ∨ o = zo + 1)) → w'.cell? ⟨b, o, none⟩ = w.cell? ⟨b, o, none⟩
  frozen : ∀ b o, b < w.heap.size → w'.frozen? ⟨b, o, none⟩ = w.frozen? ⟨b, o, none⟩

theorem Upd.of_below {zb zo : Nat} {w w' : World} (h : Below w.heap.size w w') : Upd zb zo w w' :=
  ⟨h.os, h.tape, h.output, h.size, fun k hk _ => h.block k hk, fun b o hb _ => h.cell (p := ⟨b, o, none⟩) hb, fun b o hb => h.frozen (p := ⟨b, o, none⟩) hb⟩
theorem Upd.trans {zb zo : Nat} {a b c : World} (h : Upd zb zo a b) (k : Upd zb zo b c) : Upd zb zo a c :=
  ⟨k.os.trans h.os, k.tape.trans h.tape, k.output.trans h.output, Nat.le_trans h.size k.size, fun i hi hn => (k.block i (Nat.lt_of_lt_of_le hi h.size) hn).trans (h.block i hi hn),
    fun i o hi hn => (k.cell i o (Nat.lt_of_lt_of_le hi h.size) hn).trans (h.cell i o hi hn), fun i o hi => (k.frozen i o (Nat.lt_of_lt_of_le hi h.size)).trans (h.frozen i o hi)⟩
/-- Where the variable is new, nothing that was there is otherwise. -/
theorem Upd.below {B zb zo : Nat} {w w' : World} (h : Upd zb zo w w') (hB : B ≤ zb) (hw : B ≤ w.heap.size) : Below B w w' :=
  ⟨h.os, h.tape, h.output, h.size, fun k hk => h.block k (by omega) (by omega)⟩

theorem WordsAt.cells {w w' : World} {v : Value} {ws : List Nat} (h : WordsAt w v ws) (hc : ∀ b o (u : Int), w.cell? ⟨b, o, none⟩ = some (.int .u32 u) → w'.cell? ⟨b, o, none⟩ = some (.int .u32 u)) : WordsAt w' v ws := by
  obtain ⟨x, cap, hv, h1, h2, h3⟩ := h
  refine ⟨x, cap, hv, h1, h2, ?_⟩
  rcases h3 with h3 | ⟨b, off, hx, h3⟩
  · exact Or.inl h3
  · exact Or.inr ⟨b, off, hx, fun i u hu => hc _ _ _ (h3 i u hu)⟩
theorem NatAt.cells {w w' : World} {v : Value} {n : Nat} (h : NatAt w v n) (hc : ∀ b o (u : Int), w.cell? ⟨b, o, none⟩ = some (.int .u32 u) → w'.cell? ⟨b, o, none⟩ = some (.int .u32 u)) : NatAt w' v n := by
  obtain ⟨ws, h1, h2⟩ := h
  exact ⟨ws, h1.cells hc, h2⟩
theorem NatAt.below {w w' : World} {v : Value} {n : Nat} (h : NatAt w v n) (hb : Below w.heap.size w w') : NatAt w' v n :=
  h.cells fun b o u hu => by rw [hb.cell (lt_of_cell hu)]; exact hu
theorem WordsAt.below {w w' : World} {v : Value} {ws : List Nat} (h : WordsAt w v ws) (hb : Below w.heap.size w w') : WordsAt w' v ws :=
  h.cells fun b o u hu => by rw [hb.cell (lt_of_cell hu)]; exact hu
theorem IntAt.below {w w' : World} {b o : Nat} {z : Int} (h : IntAt w b o z) (hb : Below w.heap.size w w') : IntAt w' b o z := by
  obtain ⟨h1, v, h2, h3⟩ := h
  exact ⟨by rw [hb.cell (lt_of_cell h1)]; exact h1, v, by rw [hb.cell (lt_of_cell h2)]; exact h2, h3.below hb⟩
theorem Slot.below {w w' : World} {b o : Nat} (h : Slot w b o) (hb : Below w.heap.size w w') : Slot w' b o := by
  obtain ⟨⟨c, h1⟩, ⟨x, n, k, h2⟩, h3, h4⟩ := h
  exact ⟨⟨c, by rw [hb.cell (lt_of_cell h1)]; exact h1⟩, ⟨x, n, k, by rw [hb.cell (lt_of_cell h2)]; exact h2⟩, by rw [hb.frozen (p := ⟨b, o, none⟩) (lt_of_cell h1)]; exact h3, by rw [hb.frozen (p := ⟨b, o + 1, none⟩) (lt_of_cell h2)]; exact h4⟩
/-- Words elsewhere stay: a variable's two cells hold no words. -/
theorem NatAt.upd {zb zo : Nat} {w w' : World} {v : Value} {n : Nat} (h : NatAt w v n) (hs : Slot w zb zo) (hu : Upd zb zo w w') : NatAt w' v n := by
  refine h.cells fun b o u hw => ?_
  obtain ⟨⟨c, h1⟩, ⟨x, m, k, h2⟩, _⟩ := hs
  rw [hu.cell b o (lt_of_cell hw) ?_]
  · exact hw
  · rintro ⟨rfl, rfl | rfl⟩
    · rw [h1] at hw; cases hw
    · rw [h2] at hw; cases hw
theorem IntAt.upd {zb zo b o : Nat} {w w' : World} {z : Int} (h : IntAt w b o z) (hs : Slot w zb zo) (hu : Upd zb zo w w') (hne : b ≠ zb ∨ (o ≠ zo ∧ o ≠ zo + 1 ∧ o + 1 ≠ zo)) : IntAt w' b o z := by
  obtain ⟨h1, v, h2, h3⟩ := h
  refine ⟨?_, v, ?_, h3.upd hs hu⟩
  · rw [hu.cell b o (lt_of_cell h1) (by omega)]; exact h1
  · rw [hu.cell b (o + 1) (lt_of_cell h2) (by omega)]; exact h2
theorem Slot.upd {zb zo b o : Nat} {w w' : World} (h : Slot w b o) (hu : Upd zb zo w w') (hne : b ≠ zb ∨ (o ≠ zo ∧ o ≠ zo + 1 ∧ o + 1 ≠ zo)) : Slot w' b o := by
  obtain ⟨⟨c, h1⟩, ⟨x, n, k, h2⟩, h3, h4⟩ := h
  exact ⟨⟨c, by rw [hu.cell b o (lt_of_cell h1) (by omega)]; exact h1⟩, ⟨x, n, k, by rw [hu.cell b (o + 1) (lt_of_cell h2) (by omega)]; exact h2⟩, by rw [hu.frozen b o (lt_of_cell h1)]; exact h3, by rw [hu.frozen b (o + 1) (lt_of_cell h2)]; exact h4⟩
end Go.Proofs.YtebahbcmlhdleaaDoor
