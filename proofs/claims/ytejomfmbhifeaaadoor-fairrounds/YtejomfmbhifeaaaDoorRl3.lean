/-
  millraceref.Delayed: what is left of it when a cell of its own is written. Conditions: the queue lies in memory, few packets; times within bounds.
-/
import Derived.Test.YtejomfmbhifeaaaDoorRl2
namespace Go.Proofs.YtejomfmbhifeaaaDoor
open Go.RowKit Go.Extern.Stop Go.Stop Go.Extern

theorem QP.kept {w w' : World} {b : Nat} {P R T S : Int} {v av : Value} {s : DlS} (h : QP w b P R T S v av s) (hs : w.heap.size ≤ w'.heap.size) (hb : w'.heap[b]? = w.heap[b]?) (hv : ∀ k, v.ownBlock = some k → w'.heap[k]? = w.heap[k]?) (ha : ∀ k, av.ownBlock = some k → w'.heap[k]? = w.heap[k]?) : QP w' b P R T S v av s := by
  refine ⟨RAt.kept h.pos hb hv, h.anone, fun hl => ?_, h.nb, h.nv, fun k hk => Nat.lt_of_lt_of_le (h.low k hk) hs⟩
  obtain ⟨g, rfl, hg⟩ := h.asome hl
  exact ⟨g, rfl, (ha g rfl).trans hg⟩
theorem QP.below {w w' : World} {b : Nat} {P R T S : Int} {v av : Value} {s : DlS} (h : QP w b P R T S v av s) (hb : Below w.heap.size w w') : QP w' b P R T S v av s := h.kept hb.size (hb.block b (RAt.lt h.pos)) (fun k hk => hb.block k (h.pos.row.lt hk)) (fun k hk => hb.block k (h.low k hk))
/-- D is written. -/
theorem QP.throws {w : World} {b : Nat} {P R T S : Int} {v av : Value} {s : DlS} (h : QP w b P R T S v av s) (d : Bool) : QP (w.setCell ⟨b, 7, none⟩ (.bool d)) b P R T S v av { s with throws := d } := by
  refine ⟨RAt.rest h.pos 3 (.bool d) rfl, h.anone, fun hl => ?_, h.nb, h.nv, fun k hk => by simpa using h.low k hk⟩
  obtain ⟨g, rfl, hg⟩ := h.asome hl
  exact ⟨g, rfl, heap_other (fun e => h.nb (by rw [e]; rfl)) hg⟩
/-- N is written. -/
theorem QP.count {w : World} {b : Nat} {P R T S : Int} {v av : Value} {s : DlS} (h : QP w b P R T S v av s) (c : Int) : QP (w.setCell ⟨b, 8, none⟩ (.int .i64 c)) b P R T S v av { s with count := c } := by
  refine ⟨RAt.rest h.pos 4 (.int .i64 c) rfl, h.anone, fun hl => ?_, h.nb, h.nv, fun k hk => by simpa using h.low k hk⟩
  obtain ⟨g, rfl, hg⟩ := h.asome hl
  exact ⟨g, rfl, heap_other (fun e => h.nb (by rw [e]; rfl)) hg⟩
/-- X is written. -/
theorem QP.next {w : World} {b : Nat} {P R T S : Int} {v av : Value} {s : DlS} (h : QP w b P R T S v av s) (c : Int) : QP (w.setCell ⟨b, 9, none⟩ (.int .i64 c)) b P R T S v av { s with next := c } := by
  refine ⟨RAt.rest h.pos 5 (.int .i64 c) rfl, h.anone, fun hl => ?_, h.nb, h.nv, fun k hk => by simpa using h.low k hk⟩
  obtain ⟨g, rfl, hg⟩ := h.asome hl
  exact ⟨g, rfl, heap_other (fun e => h.nb (by rw [e]; rfl)) hg⟩
theorem QP.drewN {w : World} {b : Nat} {P R T S : Int} {v av : Value} {s : DlS} (h : QP w b P R T S v av s) (n : Nat) : QP (w.drewN n) b P R T S v av s := h.kept (Nat.le_refl _) rfl (fun _ _ => rfl) (fun _ _ => rfl)
end Go.Proofs.YtejomfmbhifeaaaDoor
