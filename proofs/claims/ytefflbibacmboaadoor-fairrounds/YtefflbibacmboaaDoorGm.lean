/-
  A list at the head of a block, its other cells; what a call hands back. Nothing of the program is claimed here by itself.
-/
import Derived.Test.YtefflbibacmboaaDoorQf
namespace Go.Proofs.YtefflbibacmboaaDoor
open Go.RowKit Go.Extern.Stop Go.Stop Go.Extern

theorem LAt.cell {w : World} {b : Nat} {T : TypeId} {rest : List Value} {v : Value} {L : List Hd} (h : LAt w b T rest v L) {i : Nat} {u : Value} (hi : (v :: .int .i64 (sumL L) :: rest)[i]? = some u) : w.cell? ⟨b, i, none⟩ = some u ∧ w.frozen? ⟨b, i, none⟩ = false := by
  have := h.blk
  constructor
  · simp only [World.cell?, this]; simpa using hi
  · simp [World.frozen?, this]
/-- A cell behind the list is written. -/
theorem LAt.rest {w : World} {b : Nat} {T : TypeId} {rest rest' : List Value} {v : Value} {L : List Hd} (h : LAt w b T rest v L) (i : Nat) (u : Value) (hr : rest' = rest.set i u) : LAt (w.setCell ⟨b, i + 2, none⟩ u) b T rest' v L := by
  subst hr
  refine ⟨?_, h.row.setCell (p := ⟨b, i + 2, none⟩) h.ne _, h.ne⟩
  rw [heap_setCell_here h.blk u]
  simp
theorem LAt.six {w : World} {b : Nat} {T : TypeId} {rest : List Value} {v : Value} {L : List Hd} (h : LAt w b T rest v L) {r : Nat} (hr : r ≠ b) (hv : ∀ k, v.ownBlock = some k → k ≠ r) (a0 a1 a2 a3 a4 a5 : Value) :
    LAt ((((((w.setCell ⟨r, 0, none⟩ a0).setCell ⟨r, 1, none⟩ a1).setCell ⟨r, 2, none⟩ a2).setCell ⟨r, 3, none⟩ a3).setCell ⟨r, 4, none⟩ a4).setCell ⟨r, 5, none⟩ a5) b T rest v L := by
  refine h.ot (S := (· = r)) ?_ (fun e => hr e.symm) hv
  repeat' (first | with_reducible exact Ot.refl _ _ | with_reducible refine Ot.setCell ?_ (by simp) _)
theorem heap_other {w : World} {b i r : Nat} {u : Value} {o : Option Obj} (hr : r ≠ b) (h : w.heap[r]? = o) : (w.setCell ⟨b, i, none⟩ u).heap[r]? = o := by
  rw [Below.heap_setCell _ _ _ _ hr]
  exact h
theorem ret_held2 {fn : Func} {p u u2 : Tmp} (h : fn.results = #[.cell p 124, .tmp u, .tmp u2]) {tmps : Array Value} {w : World} {r : Nat} {x : Hd} {t : TypeId} {fr : Nat × Nat} {v1 v2 : Value} (hp : tmps.getD p undef = .pointer (some ⟨r, 0, none⟩)) (hx : w.heap[r]? = some (.cells #[.int .i64 x.a, .int .i64 x.l, .int .i64 x.f, .int .i64 x.b, .int .i64 x.m, .int .i64 x.n] t fr)) (h1 : tmps.getD u undef = v1) (h2 : tmps.getD u2 undef = v2) :
    (results fn tmps).run Tryd.prog w = .ok (.tuple #[x.val, v1, v2]) w := by
  rw [results_cell_tmp2 h, hp, h1, h2]
  simp [asAddr, Result.andThen, load_held hx]
theorem heap_drew {w : World} {q r : Nat} {o : Option Obj} (h : w.heap[r]? = o) : (w.drewN q).heap[r]? = o := h
theorem heap_six {w : World} {r j : Nat} {o : Option Obj} {a0 a1 a2 a3 a4 a5 : Value} (hne : j ≠ r) (h : w.heap[j]? = o) : ((((((w.setCell ⟨r, 0, none⟩ a0).setCell ⟨r, 1, none⟩ a1).setCell ⟨r, 2, none⟩ a2).setCell ⟨r, 3, none⟩ a3).setCell ⟨r, 4, none⟩ a4).setCell ⟨r, 5, none⟩ a5).heap[j]? = o :=
  heap_other hne (heap_other hne (heap_other hne (heap_other hne (heap_other hne (heap_other hne h)))))
end Go.Proofs.YtefflbibacmboaaDoor
