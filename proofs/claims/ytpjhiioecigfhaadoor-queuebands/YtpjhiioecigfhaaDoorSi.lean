/-
  Fifos of the program and of the reference that are made one behind the other, two rows side by side. Conditions: none.
-/
import Derived.Test.YtpjhiioecigfhaaDoorSf
import Derived.Test.YtpjhiioecigfhaaDoorSh
import Derived.Test.YtpjhiioecigfhaaDoorQg
namespace Go.Proofs.YtpjhiioecigfhaaDoor
open Go.RowKit Go.Extern.Stop Go.Stop Go.Extern

def GQ (ps : Nat → Int) (bs : Nat → Nat) (i : Nat) : QM := FifoM (bs i) (ps i) 1000000 false
def HQ (ps : Nat → Int) (cs : Nat → Nat) (i : Nat) : RM := RFifoM (cs i) (ps i) 1000000 false
theorem GQ_small (ps : Nat → Int) (bs : Nat → Nat) {N : Nat} (h1 : 1 ≤ N) (h8 : N ≤ 8) (hp : ∀ i, 0 ≤ ps i) : Small (GQ ps bs) N where
  fine := fun i _ => fifoM_fine _ _ _ _ (hp i) (by decide) (by decide)
  mono := by
    intro i _ t t' n n' s h _ hn
    exact ⟨Nat.le_trans h.1 hn, h.2⟩
  len := by
    intro i _ t n s h hn
    have hf := fit_of (n := n) h (by omega)
    have h2 := Fit.sum hf.2
    have h3 := h.1
    have e1 : (GQ ps bs i).len s = (List.length (α := Hd) s : Int) := rfl
    have e2 : (GQ ps bs i).bytes s = sumL s := rfl
    rw [e1, e2]
    omega
  few := by
    intro i _ t n s now _ _
    exact Nat.zero_le _
  one := h1
  eight := h8
theorem HQ_small (ps : Nat → Int) (cs : Nat → Nat) {N : Nat} (h1 : 1 ≤ N) (h8 : N ≤ 8) (hp : ∀ i, 0 ≤ ps i) : RSmall (HQ ps cs) N where
  fine := fun i _ => rfifoM_fine _ _ _ _ (hp i) (by decide)
  mono := by
    intro i _ t t' n n' s h _ hn
    exact ⟨Nat.le_trans h.1 hn, h.2⟩
  few := by
    intro i _ t n s now _ _
    exact Nat.zero_le _
  wait := by
    intro i _ t n s h hn
    have h3 := h.1
    show List.length (α := Hd) s ≤ _
    omega
  one := h1
  eight := h8
theorem GH_each (ps : Nat → Int) (bs cs : Nat → Nat) {N : Nat} (h1 : 1 ≤ N) (h8 : N ≤ 8) (hp : ∀ i, 0 ≤ ps i) : Each (GQ ps bs) (HQ ps cs) N (fun _ (s : List Hd) (r : List Hd) => s = r) where
  ag := fun i _ => fifo_agree (bs i) (cs i) (ps i) 1000000 false
  sm := GQ_small ps bs h1 h8 hp
  rs := HQ_small ps cs h1 h8 hp
/-- Fifos that were made one behind the other: in which block each lies. -/
structure MadeP (ps : Nat → Int) (w : World) (k : Nat) (v : Value) (wr : World) (bs : Nat → Nat) : Prop where
  row : Seg wr 76 1 v k (qcells k (fun i => (30, .pointer (some ⟨bs i, 0, none⟩))))
  each : ∀ i, i < k → LAt wr (bs i) 67 (frest (ps i) 1000000 false []) (.slice none 0 0) []
  dis : ∀ i j, i < k → j < k → bs i = bs j → i = j
  new : ∀ i, i < k → w.heap.size ≤ bs i ∧ v.ownBlock ≠ some (bs i)
  own : ∀ b, v.ownBlock = some b → w.heap.size ≤ b
  below : Below w.heap.size w wr
theorem qcells_succ (k : Nat) (Q : Nat → TypeId × Value) : qcells (k + 1) Q = qcells k Q ++ [.iface (Q k).1 (Q k).2] := by simp [qcells, List.range_succ]
theorem qcells_congr {k : Nat} {Q Q' : Nat → TypeId × Value} (h : ∀ i, i < k → Q i = Q' i) : qcells k Q = qcells k Q' := by
  unfold qcells
  exact List.map_congr_left fun i hi => by rw [h i (List.mem_range.1 hi)]
theorem madeP_next {ps : Nat → Int} {w wr w1 w4 : World} {k : Nat} {v v' : Value} {bs : Nat → Nat} (h : MadeP ps w k v wr bs) {o1 o2 : Obj} (hl1 : LAt w1 wr.heap.size 67 (frest (ps k) 1000000 false []) (.slice none 0 0) []) (hw1 : w1 = wr.alloc o1)
    (hg : (w1.alloc o2).grownBy w4 v.ownBlock) (hs : Seg w4 76 1 v' (k + 1) (qcells k (fun i => (30, .pointer (some ⟨bs i, 0, none⟩))) ++ [.iface 30 (.pointer (some ⟨wr.heap.size, 0, none⟩))])) (ha : ∀ b, v'.ownBlock = some b → v.ownBlock = some b ∨ w1.heap.size ≤ b) :
    MadeP ps w (k + 1) v' w4 (fun i => if i = k then wr.heap.size else bs i) := by
  subst hw1
  have hsz : (wr.alloc o1).heap.size = wr.heap.size + 1 := by simp
  have hvl : ∀ b, v.ownBlock = some b → b < wr.heap.size := fun b hb => h.row.lt hb
  have hbl : ∀ i, i < k → bs i < wr.heap.size := fun i hi => (h.each i hi).lt
  have hkeep : ∀ b, b < wr.heap.size + 1 → v.ownBlock ≠ some b → w4.heap[b]? = (wr.alloc o1).heap[b]? := fun b hb hne => (hg.block b (by simp; omega) (fun e => hne e.symm)).trans (Below.heap_alloc _ _ _ (by simp; omega))
  have hws := h.below.size
  refine ⟨?_, fun i hi => ?_, fun i j hi hj => ?_, fun i hi => ?_, fun b hb => ?_, ?_⟩
  · rw [qcells_succ]
    have e1 : qcells k (fun i => ((30 : TypeId), Value.pointer (some ⟨if i = k then wr.heap.size else bs i, 0, none⟩))) = qcells k (fun i => (30, .pointer (some ⟨bs i, 0, none⟩))) := qcells_congr fun i hi => by rw [if_neg (by omega)]
    rw [e1]
    simpa using hs
  · by_cases e : i = k
    · simp only [if_pos e]
      subst e
      exact hl1.kept (hkeep _ (by omega) (fun e => by have := hvl _ e; omega)) (fun b hb => by simp [Value.ownBlock] at hb)
    · simp only [if_neg e]
      have hi' : i < k := by omega
      refine (h.each i hi').kept ((hkeep _ (by have := hbl i hi'; omega) (h.new i hi').2).trans (Below.heap_alloc _ _ _ (hbl i hi'))) (fun b hb => by simp [Value.ownBlock] at hb)
  · intro e
    by_cases ei : i = k
    · by_cases ej : j = k
      · rw [ei, ej]
      · simp only [if_pos ei, if_neg ej] at e
        have := hbl j (by omega); omega
    · by_cases ej : j = k
      · simp only [if_neg ei, if_pos ej] at e
        have := hbl i (by omega); omega
      · simp only [if_neg ei, if_neg ej] at e
        exact h.dis i j (by omega) (by omega) e
  · by_cases e : i = k
    · simp only [if_pos e]
      refine ⟨hws, fun e' => ?_⟩
      rcases ha _ e' with h' | h'
      · have := hvl _ h'; omega
      · omega
    · simp only [if_neg e]
      have hi' : i < k := by omega
      refine ⟨(h.new i hi').1, fun e' => ?_⟩
      rcases ha _ e' with h' | h'
      · exact (h.new i hi').2 h'
      · have := hbl i hi'; omega
  · rcases ha b hb with h' | h'
    · exact h.own b h'
    · omega
  · exact below_grown_ (below_alloc_ (below_alloc_ h.below _) _) hg h.own
/-- Bands of Fifos that were just made. -/
theorem madeP_bands {ps : Nat → Int} {w wr w2 : World} {N B g goff gcap : Nat} {v : Value} {bs : Nat → Nat} (h : MadeP ps w N v wr bs) (hb : Below wr.heap.size wr w2) (hblk : w2.heap[B]? = some (.cells #[.slice (some ⟨g, goff, none⟩) N gcap] 80 (0, 0))) (hrow : QRowAt w2 g goff N (fun i => (30, .pointer (some ⟨bs i, 0, none⟩)))) (hg : wr.heap.size ≤ g) (hgB : g < B) :
    BAt (GQ ps bs) N B g goff gcap w2 (fun i k => k = bs i) (fun _ => ([] : List Hd)) := by
  have hbl : ∀ i, i < N → bs i < wr.heap.size := fun i hi => (h.each i hi).lt
  refine ⟨hblk, hrow, by have := lt_of_block hblk; omega, fun i hi => ⟨.slice none 0 0, (h.each i hi).below hb, fun k => by simp [Value.ownBlock]⟩, fun i j k hi hj e1 e2 => h.dis i j hi hj (e1.symm.trans e2), fun i hi => ?_⟩
  have := hbl i hi
  omega
/-- The reference's Fifos, and the row of them in the cell of Bands. -/
structure MadeQ (ps : Nat → Int) (w : World) (B : Nat) (k : Nat) (u : Value) (wr : World) (cs : Nat → Nat) : Prop where
  blk : wr.heap[B]? = some (.cells #[u] 28 (0, 0))
  row : Seg wr 86 1 u k (qcells k (fun i => (35, .pointer (some ⟨cs i, 0, none⟩))))
  each : ∀ i, i < k → RAt wr (cs i) 38 (ps i) 1000000 false [] (.slice none 0 0) []
  dis : ∀ i j, i < k → j < k → cs i = cs j → i = j
  new : ∀ i, i < k → w.heap.size ≤ cs i ∧ u.ownBlock ≠ some (cs i) ∧ cs i ≠ B
  own : ∀ b, u.ownBlock = some b → w.heap.size ≤ b ∧ b ≠ B
  low : w.heap.size ≤ B
def fA (v : Value) (bs : Nat → Nat) (k j : Nat) : Prop := v.ownBlock = some j ∨ ∃ i, i < k ∧ j = bs i
def fB (B : Nat) (u : Value) (cs : Nat → Nat) (k j : Nat) : Prop := j = B ∨ u.ownBlock = some j ∨ ∃ i, i < k ∧ j = cs i
theorem MadeQ.lt {ps : Nat → Int} {w : World} {B k : Nat} {u : Value} {wr : World} {cs : Nat → Nat} (h : MadeQ ps w B k u wr cs) : ∀ j, fB B u cs k j → j < wr.heap.size := by
  rintro j (rfl | e | ⟨i, hi, rfl⟩)
  · exact lt_of_block h.blk
  · exact h.row.lt e
  · exact (h.each i hi).lt
theorem MadeP.lt {ps : Nat → Int} {w : World} {k : Nat} {v : Value} {wr : World} {bs : Nat → Nat} (h : MadeP ps w k v wr bs) : ∀ j, fA v bs k j → j < wr.heap.size := by
  rintro j (e | ⟨i, hi, rfl⟩)
  · exact h.row.lt e
  · exact (h.each i hi).lt
theorem MadeQ.kept {ps : Nat → Int} {w : World} {B k : Nat} {u : Value} {wr w' : World} {cs : Nat → Nat} (h : MadeQ ps w B k u wr cs) (hk : ∀ j, fB B u cs k j → w'.heap[j]? = wr.heap[j]?) : MadeQ ps w B k u w' cs :=
  ⟨(hk B (Or.inl rfl)).trans h.blk, h.row.kept (fun b hb => hk b (Or.inr (Or.inl hb))), fun i hi => (h.each i hi).kept (hk _ (Or.inr (Or.inr ⟨i, hi, rfl⟩))) (fun b hb => by simp [Value.ownBlock] at hb), h.dis, h.new, h.own, h.low⟩
theorem MadeP.kept {ps : Nat → Int} {w : World} {k : Nat} {v : Value} {wr w' : World} {bs : Nat → Nat} (h : MadeP ps w k v wr bs) (hk : ∀ j, fA v bs k j → w'.heap[j]? = wr.heap[j]?) (hb : Below w.heap.size w w') : MadeP ps w k v w' bs :=
  ⟨h.row.kept (fun b hb => hk b (Or.inl hb)), fun i hi => (h.each i hi).kept (hk _ (Or.inr ⟨i, hi, rfl⟩)) (fun b hb => by simp [Value.ownBlock] at hb), h.dis, h.new, h.own, hb⟩
/-- One more of the reference's. -/
theorem madeQ_next {ps : Nat → Int} {w wr w1 w4 : World} {B k : Nat} {u u' : Value} {cs : Nat → Nat} (h : MadeQ ps w B k u wr cs) (hws : w.heap.size ≤ wr.heap.size) {o2 : Obj} (hw1 : w1 = wr.alloc (.cells #[.int .i64 (ps k), .int .i64 1000000, .bool false, .slice none 0 0] 38))
    (hg : (w1.alloc o2).grownBy w4 u.ownBlock) (hs : Seg w4 86 1 u' (k + 1) (qcells k (fun i => (35, .pointer (some ⟨cs i, 0, none⟩))) ++ [.iface 35 (.pointer (some ⟨wr.heap.size, 0, none⟩))])) (ha : ∀ b, u'.ownBlock = some b → u.ownBlock = some b ∨ w1.heap.size ≤ b) :
    MadeQ ps w B (k + 1) u' (w4.setCell ⟨B, 0, none⟩ u') (fun i => if i = k then wr.heap.size else cs i) ∧ (∀ j, fB B u' (fun i => if i = k then wr.heap.size else cs i) (k + 1) j → fB B u cs k j ∨ wr.heap.size ≤ j) ∧ Ot (fB B u cs k) wr (w4.setCell ⟨B, 0, none⟩ u') := by
  subst hw1
  have hul : ∀ b, u.ownBlock = some b → b < wr.heap.size := fun b hb => h.row.lt hb
  have hcl : ∀ i, i < k → cs i < wr.heap.size := fun i hi => (h.each i hi).lt
  have hBl := lt_of_block h.blk
  have hsz : (wr.alloc (.cells #[.int .i64 (ps k), .int .i64 1000000, .bool false, .slice none 0 0] 38)).heap.size = wr.heap.size + 1 := by simp
  have hkeep : ∀ b, b < wr.heap.size + 1 → u.ownBlock ≠ some b → w4.heap[b]? = (wr.alloc (.cells #[.int .i64 (ps k), .int .i64 1000000, .bool false, .slice none 0 0] 38)).heap[b]? := fun b hb hne => (hg.block b (by simp; omega) (fun e => hne e.symm)).trans (Below.heap_alloc _ _ _ (by simp; omega))
  have hB4 : w4.heap[B]? = some (.cells #[u] 28 (0, 0)) := ((hkeep B (by omega) (fun e => (h.own B e).2 rfl)).trans (Below.heap_alloc _ _ _ hBl)).trans h.blk
  have hne : ∀ b, u'.ownBlock = some b → b ≠ B := by
    intro b hb
    rcases ha b hb with h' | h'
    · exact (h.own b h').2
    · omega
  have hoth : ∀ b, b ≠ B → (w4.setCell ⟨B, 0, none⟩ u').heap[b]? = w4.heap[b]? := fun b hb => Below.heap_setCell _ _ _ _ hb
  refine ⟨⟨blk1 hB4 u', ?_, fun i hi => ?_, fun i j hi hj => ?_, fun i hi => ?_, fun b hb => ⟨?_, hne b hb⟩, h.low⟩, ?_, ?_⟩
  · rw [qcells_succ]
    have e1 : qcells k (fun i => ((35 : TypeId), Value.pointer (some ⟨if i = k then wr.heap.size else cs i, 0, none⟩))) = qcells k (fun i => (35, .pointer (some ⟨cs i, 0, none⟩))) := qcells_congr fun i hi => by rw [if_neg (by omega)]
    rw [e1]
    refine Seg.kept (w := w4) (by simpa using hs) (fun b hb => hoth b (hne b hb))
  · by_cases e : i = k
    · simp only [if_pos e]
      subst e
      refine ⟨?_, Ps.nil _, by simp [Value.ownBlock]⟩
      rw [hoth _ (by omega), hkeep _ (by omega) (fun e => by have := hul _ e; omega)]
      exact new_block _ _
    · simp only [if_neg e]
      have hi' : i < k := by omega
      have := hcl i hi'
      exact (h.each i hi').kept ((hoth _ (h.new i hi').2.2).trans ((hkeep _ (by omega) (h.new i hi').2.1).trans (Below.heap_alloc _ _ _ (hcl i hi')))) (fun b hb => by simp [Value.ownBlock] at hb)
  · intro e
    by_cases ei : i = k
    · by_cases ej : j = k
      · rw [ei, ej]
      · simp only [if_pos ei, if_neg ej] at e
        have := hcl j (by omega); omega
    · by_cases ej : j = k
      · simp only [if_neg ei, if_pos ej] at e
        have := hcl i (by omega); omega
      · simp only [if_neg ei, if_neg ej] at e
        exact h.dis i j (by omega) (by omega) e
  · by_cases e : i = k
    · simp only [if_pos e]
      refine ⟨hws, fun e' => ?_, by omega⟩
      rcases ha _ e' with h' | h'
      · have := hul _ h'; omega
      · omega
    · simp only [if_neg e]
      have hi' : i < k := by omega
      refine ⟨(h.new i hi').1, fun e' => ?_, (h.new i hi').2.2⟩
      rcases ha _ e' with h' | h'
      · exact (h.new i hi').2.1 h'
      · have := hcl i hi'; omega
  · rcases ha b hb with h' | h'
    · exact (h.own b h').1
    · omega
  · rintro j (e | e | ⟨i, hi, e⟩)
    · exact Or.inl (Or.inl e)
    · rcases ha j e with h' | h'
      · exact Or.inl (Or.inr (Or.inl h'))
      · right; omega
    · by_cases ei : i = k
      · simp only [if_pos ei] at e
        right; omega
      · simp only [if_neg ei] at e
        exact Or.inl (Or.inr (Or.inr ⟨i, by omega, e⟩))
  · exact Ot.setCell (S := fB B u cs k) (p := ⟨B, 0, none⟩) (Ot.grown (row := u.ownBlock) (Ot.alloc (Ot.alloc (Ot.refl _ _) _) _) hg (fun j e => Or.inl (Or.inr (Or.inl e)))) (Or.inl (Or.inl rfl)) _
theorem madeP_foot {v v' : Value} {bs : Nat → Nat} {k n m : Nat} (ha : ∀ b, v'.ownBlock = some b → v.ownBlock = some b ∨ n ≤ b) (hm : m ≤ n) : ∀ j, fA v' (fun i => if i = k then m else bs i) (k + 1) j → fA v bs k j ∨ m ≤ j := by
  rintro j (e | ⟨i, hi, e⟩)
  · rcases ha j e with h' | h'
    · exact Or.inl (Or.inl h')
    · right; omega
  · by_cases ei : i = k
    · simp only [if_pos ei] at e
      right; omega
    · simp only [if_neg ei] at e
      exact Or.inl (Or.inr ⟨i, by omega, e⟩)
theorem madeQ_bands {ps : Nat → Int} {w wr : World} {N B b off cap : Nat} {cs : Nat → Nat} (h : MadeQ ps w B N (.slice (some ⟨b, off, none⟩) N cap) wr cs) :
    RBAt (HQ ps cs) N B b off cap wr (fun i k => k = cs i) (fun _ => ([] : List Hd)) := by
  have hbl : b < wr.heap.size := h.row.lt rfl
  refine ⟨h.blk, fun i hi => ?_, hbl, fun i hi => ⟨.slice none 0 0, h.each i hi, fun k => by simp [Value.ownBlock]⟩, fun i j k hi hj e1 e2 => h.dis i j hi hj (e1.symm.trans e2), fun i hi => ⟨fun e => (h.new i hi).2.2 e.symm, fun e => (h.new i hi).2.1 (by rw [← e]; rfl)⟩⟩
  rcases h.row.form with ⟨h1, _, _⟩ | ⟨b', off', cap', h1, _, _, _, hc⟩
  · simp at h1
  · simp only [Value.slice.injEq, Option.some.injEq, Addr.mk.injEq, and_true] at h1
    obtain ⟨⟨rfl, rfl⟩, _⟩ := h1
    exact hc i _ (qcells_get hi)
end Go.Proofs.YtpjhiioecigfhaaDoor
