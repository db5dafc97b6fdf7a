/-
  millracelaw.QueueBands: both rows as one round of its loop leaves them. Conditions: none.
-/
import Derived.Test.YtpjhiioecigfhaaDoorSi
import Derived.Test.YtpjhiioecigfhaaDoorIr
namespace Go.Proofs.YtpjhiioecigfhaaDoor
open Go.RowKit Go.Extern.Stop Go.Stop Go.Extern

/-- The room of a band. -/
def psOf (f : Nat → Int) (i : Nat) : Int := wrap64 ((IntKind.u64.wrap (f i)).tmod 9)
theorem psOf_le (f : Nat → Int) (i : Nat) : 0 ≤ psOf f i ∧ psOf f i ≤ 8 := by
  unfold psOf
  rw [IntKind.wrap_u64, Int.tmod_eq_emod_of_nonneg (by omega)]
  unfold wrap64
  omega
theorem infoRQueue : (Tryd.prog.info? 86).map (fun i => (i.zero, i.size, i.bytes)) = some (some .nilIface, 1, 16) := by kernel_rfl
/-- Both rows behind k rounds. -/
structure MadeT (ps : Nat → Int) (w : World) (k : Nat) (v : Value) (wr : World) (u : Value) (bs cs : Nat → Nat) : Prop where
  p : MadeP ps w k v wr bs
  q : MadeQ ps w w.heap.size k u wr cs
  sep : ∀ j, fA v bs k j → ¬ fB w.heap.size u cs k j
theorem madeT_a {ps : Nat → Int} {w wr w1 w4 : World} {k : Nat} {v v' u : Value} {bs cs : Nat → Nat} (h : MadeT ps w k v wr u bs cs) {o1 o2 : Obj} (hl1 : LAt w1 wr.heap.size 67 (frest (ps k) 1000000 false []) (.slice none 0 0) []) (hw1 : w1 = wr.alloc o1)
    (hg : (w1.alloc o2).grownBy w4 v.ownBlock) (hs : Seg w4 76 1 v' (k + 1) (qcells k (fun i => (30, .pointer (some ⟨bs i, 0, none⟩))) ++ [.iface 30 (.pointer (some ⟨wr.heap.size, 0, none⟩))])) (ha : ∀ b, v'.ownBlock = some b → v.ownBlock = some b ∨ w1.heap.size ≤ b) :
    MadeP ps w (k + 1) v' w4 (fun i => if i = k then wr.heap.size else bs i) ∧ MadeQ ps w w.heap.size k u w4 cs ∧ ∀ j, fA v' (fun i => if i = k then wr.heap.size else bs i) (k + 1) j → ¬ fB w.heap.size u cs k j := by
  have hO : Ot (fun j => v.ownBlock = some j) wr w4 := by
    subst hw1
    exact Ot.grown (S := fun j => v.ownBlock = some j) (row := v.ownBlock) (Ot.alloc (Ot.alloc (Ot.refl _ _) _) _) hg (fun j e => Or.inl e)
  refine ⟨madeP_next h.p hl1 hw1 hg hs ha, h.q.kept (fun j hj => hO.block j (h.q.lt j hj) (fun e => h.sep j (Or.inl e) hj)), fun j hj hB => ?_⟩
  have hm : wr.heap.size ≤ w1.heap.size := by subst hw1; simp
  rcases madeP_foot (k := k) (bs := bs) ha hm j hj with h' | h'
  · exact h.sep j h' hB
  · have := h.q.lt j hB; omega
theorem madeT_b {ps : Nat → Int} {w wr w1 w4 : World} {k : Nat} {v u u' : Value} {bs cs : Nat → Nat} (p : MadeP ps w (k + 1) v wr bs) (q : MadeQ ps w w.heap.size k u wr cs) (sep : ∀ j, fA v bs (k + 1) j → ¬ fB w.heap.size u cs k j) {o2 : Obj} (hw1 : w1 = wr.alloc (.cells #[.int .i64 (ps k), .int .i64 1000000, .bool false, .slice none 0 0] 38))
    (hg : (w1.alloc o2).grownBy w4 u.ownBlock) (hs : Seg w4 86 1 u' (k + 1) (qcells k (fun i => (35, .pointer (some ⟨cs i, 0, none⟩))) ++ [.iface 35 (.pointer (some ⟨wr.heap.size, 0, none⟩))])) (ha : ∀ b, u'.ownBlock = some b → u.ownBlock = some b ∨ w1.heap.size ≤ b) :
    MadeT ps w (k + 1) v (w4.setCell ⟨w.heap.size, 0, none⟩ u') u' bs (fun i => if i = k then wr.heap.size else cs i) := by
  obtain ⟨h1, h2, h3⟩ := madeQ_next q p.below.size hw1 hg hs ha
  refine ⟨p.kept (fun j hj => h3.block j (p.lt j hj) (sep j hj)) (p.below.trans (h3.below p.below.size (fun j hj => ?_))), h1, fun j hj hB => ?_⟩
  · rcases hj with e | e | ⟨i, hi, e⟩
    · omega
    · exact (q.own j e).1
    · rw [e]; exact (q.new i hi).1
  · rcases h2 j hB with h' | h'
    · exact sep j hj h'
    · have := p.lt j hj; omega
theorem madeT_blk {ps : Nat → Int} {w wr w1 w4 : World} {k : Nat} {u : Value} {cs : Nat → Nat} (q : MadeQ ps w w.heap.size k u wr cs) {o1 o2 : Obj} (hw1 : w1 = wr.alloc o1) (hg : (w1.alloc o2).grownBy w4 u.ownBlock) : w4.heap[w.heap.size]? = some (.cells #[u] 28 (0, 0)) := by
  subst hw1
  have hO : Ot (fun j => u.ownBlock = some j) wr w4 := Ot.grown (S := fun j => u.ownBlock = some j) (row := u.ownBlock) (Ot.alloc (Ot.alloc (Ot.refl _ _) _) _) hg (fun j e => Or.inl e)
  rw [hO.block _ (lt_of_block q.blk) (fun e => (q.own _ e).2 rfl)]
  exact q.blk
end Go.Proofs.YtpjhiioecigfhaaDoor
