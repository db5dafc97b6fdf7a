/-
  package filter: which packets a filter means: what Meant returns, of whatever filter. Conditions: the filter lies in memory.
-/
import Derived.Test.YtibecinojkkjpaaGreatDoorFl2
import Derived.Deep.RegionHeld3
namespace Go.Proofs.YtibecinojkkjpaaGreatDoor
open Go.RowKit Go.Extern.Stop Go.Stop Go.Extern

theorem seg_slice {w : World} {e : TypeId} {sl : Value} {n : Nat} {vs : List Value} (h : Seg w e 1 sl n vs) : ∃ x c, sl = .slice x n c ∧ ∀ (i : Nat) u, vs[i]? = some u → ∃ g off, x = some ⟨g, off, none⟩ ∧ w.cell? ⟨g, off + i, none⟩ = some u ∧ g < w.heap.size := by
  rcases h.form with ⟨h1, h2, h3⟩ | ⟨b, off, cap, h1, h2, h3, h4, h5⟩
  · exact ⟨none, 0, by rw [h1, h2], fun i u hi => by rw [h3] at hi; simp at hi⟩
  · exact ⟨_, _, h1, fun i u hi => ⟨b, off, rfl, h5 i u hi, h4⟩⟩
end Go.Proofs.YtibecinojkkjpaaGreatDoor
