/-
  millracebig's Rat: Quo of two fractions: what lies behind the call, and what stays.
-/
import Derived.Test.YtebahbcmlhdleaaDoorOrd
namespace Go.Proofs.YtebahbcmlhdleaaDoor
open Go.RowKit Go.Deep

theorem alloc_below (w : World) (c : Array Value) (t : TypeId) : Below w.heap.size w (w.alloc (.cells c t)) := (Below.refl _ _).alloc (Nat.le_refl _) _
theorem lt_of_slot {w : World} {b o : Nat} (h : Slot w b o) : b < w.heap.size := by
  obtain ⟨⟨c, h1⟩, _⟩ := h
  exact lt_of_cell h1
theorem lt_of_int {w : World} {b o : Nat} {z : Int} (h : IntAt w b o z) : b < w.heap.size := lt_of_cell h.1

end Go.Proofs.YtebahbcmlhdleaaDoor
