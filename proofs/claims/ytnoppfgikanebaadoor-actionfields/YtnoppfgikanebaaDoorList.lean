/-
  item.List: of any packets the error, and its place, that the document tells: more than 100; the first that may not be; the first that is out of order; nothing that was there before is otherwise. Conditions: errors.errorType holds its handle; the packets lie in memory.
-/
import Derived.Test.YtnoppfgikanebaaDoorItem
namespace Go.Proofs.YtnoppfgikanebaaDoor
open Go.RowKit Go.Extern.Stop Go.Stop Go.Extern

/-- What is wrong with packet i behind those ahead (0: nothing). -/
def faultAt (xs : List It) (i : Nat) : Int :=
  match xs[i]? with
  | none => 0
  | some x => if x.ok = false then 2 else if i = 0 then 0 else match xs[i - 1]? with
    | none => 0
    | some y => if x.a < y.a then 10 else 0
def firstBad (xs : List It) : Option Nat := (List.range xs.length).find? fun i => faultAt xs i != 0
/-- The error of a list, and its place. -/
def listE (xs : List It) : Int × Int := if 100 < xs.length then (4, -1) else match firstBad xs with | none => (0, -1) | some i => (faultAt xs i, i)

theorem faultAt_val (xs : List It) (i : Nat) : faultAt xs i = 0 ∨ faultAt xs i = 2 ∨ faultAt xs i = 10 := by
  unfold faultAt
  repeat' split
  all_goals simp
theorem firstBad_none {xs : List It} (h : ∀ j, j < xs.length → faultAt xs j = 0) : firstBad xs = none := by
  unfold firstBad; simp; exact h
theorem firstBad_some {xs : List It} {i : Nat} (hi : i < xs.length) (h : ∀ j, j < i → faultAt xs j = 0) (hb : faultAt xs i ≠ 0) : firstBad xs = some i := by
  unfold firstBad
  rw [List.find?_range_eq_some]
  exact ⟨by simpa using hb, by simpa using hi, fun j hj => by simpa using h j hj⟩
theorem listE_long {xs : List It} (h : 100 < xs.length) : listE xs = (4, -1) := by simp [listE, h]
theorem listE_fine {xs : List It} (h : ¬ 100 < xs.length) (hb : ∀ j, j < xs.length → faultAt xs j = 0) : listE xs = (0, -1) := by simp [listE, h, firstBad_none hb]
theorem listE_bad {xs : List It} {i : Nat} (h : ¬ 100 < xs.length) (hi : i < xs.length) (hj : ∀ j, j < i → faultAt xs j = 0) (hb : faultAt xs i ≠ 0) : listE xs = (faultAt xs i, (i : Int)) := by
  simp [listE, h, firstBad_some hi hj hb]
theorem fault_range {xs : List It} {i : Nat} {x : It} (hx : xs[i]? = some x) (h : x.ok = false) : faultAt xs i = 2 := by simp [faultAt, hx, h]
theorem fault_first {xs : List It} {x : It} (hx : xs[0]? = some x) (h : x.ok = true) : faultAt xs 0 = 0 := by simp [faultAt, hx, h]
theorem fault_order {xs : List It} {i : Nat} {x y : It} (hx : xs[i + 1]? = some x) (hy : xs[i]? = some y) (h : x.ok = true) (ho : x.a < y.a) : faultAt xs (i + 1) = 10 := by simp [faultAt, hx, hy, h, ho]
theorem fault_none {xs : List It} {i : Nat} {x y : It} (hx : xs[i + 1]? = some x) (hy : xs[i]? = some y) (h : x.ok = true) (ho : ¬ x.a < y.a) : faultAt xs (i + 1) = 0 := by simp [faultAt, hx, hy, h, ho]

/-- An error value, its number and its place. -/
def ErrIs (w : World) (v : Value) (E P : Int) : Prop :=
  (v = .nilIface ∧ E = 0 ∧ P = -1) ∨ (v = .iface 34 (.int .i64 E) ∧ E ≠ 0 ∧ P = -1) ∨
  ∃ a, v = .iface 59 (.pointer (some ⟨a, 0, none⟩)) ∧ w.cell? ⟨a, 0, none⟩ = some (.int .i64 E) ∧ w.cell? ⟨a, 0 + 1, none⟩ = some (.int .i64 P) ∧ E ≠ 0 ∧ 0 ≤ P

theorem ErrIs.below {w w' : World} {v : Value} {E P : Int} (h : ErrIs w v E P) (hb : Below w.heap.size w w') : ErrIs w' v E P := by
  rcases h with h | h | ⟨a, h1, h2, h3, h4⟩
  · exact Or.inl h
  · exact Or.inr (Or.inl h)
  · exact Or.inr (Or.inr ⟨a, h1, by rw [hb.cell (lt_of_cell h2)]; exact h2, by rw [hb.cell (lt_of_cell h3)]; exact h3, h4⟩)

theorem tell_any {v : Value} {E P : Int} (w : World) (h : ErrIs w v E P) (hL : Laid w) : Calls Tryd.prog 8 #[v] w fun e w' => e = .returned (.int .i64 E) ∧ Below w.heap.size w w' := by
  rcases h with ⟨rfl, rfl, _⟩ | ⟨rfl, _⟩ | ⟨a, rfl, h2, _⟩
  · exact (tell_nil w).mono (by rintro e w' ⟨rfl, rfl⟩; exact ⟨rfl, Below.refl _ _⟩)
  · exact tell_errno E w hL
  · exact tell_at a 0 E w h2 hL

/-- Packets lie in memory, one behind the other. -/
def Items (w : World) (b off : Nat) (xs : List It) : Prop := ∀ i x, xs[i]? = some x →
  w.cell? ⟨b, off + i * 5, none⟩ = some (.int .i64 x.a) ∧ w.cell? ⟨b, off + i * 5 + 1, none⟩ = some (.int .i64 x.l) ∧ w.cell? ⟨b, off + i * 5 + 2, none⟩ = some (.int .i64 x.f) ∧ w.cell? ⟨b, off + i * 5 + 3, none⟩ = some (.int .i64 x.b) ∧ w.cell? ⟨b, off + i * 5 + 4, none⟩ = some (.int .i64 x.m)

theorem Items.below {w w' : World} {b off : Nat} {xs : List It} (h : Items w b off xs) (hb : Below w.heap.size w w') : Items w' b off xs := by
  intro i x hx
  obtain ⟨h1, h2, h3, h4, h5⟩ := h i x hx
  have hl := lt_of_cell h1
  refine ⟨?_, ?_, ?_, ?_, ?_⟩
  · rw [hb.cell hl]; exact h1
  · rw [hb.cell (lt_of_cell h2)]; exact h2
  · rw [hb.cell (lt_of_cell h3)]; exact h3
  · rw [hb.cell (lt_of_cell h4)]; exact h4
  · rw [hb.cell (lt_of_cell h5)]; exact h5



end Go.Proofs.YtnoppfgikanebaaDoor
