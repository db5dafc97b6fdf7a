/-
  millracekeep.left and kept: true where each packet that was put in is taken, lost, or waits, each just once. Conditions: the steps and what was seen lie in memory; the count goes as a fold tells (a premise).
-/
import Derived.Test.YtefflbibacmboaaDoorLf
import Derived.Test.YtefflbibacmboaaDoorOrd
namespace Go.Proofs.YtefflbibacmboaaDoor
open Go.RowKit Go.Extern.Stop Go.Stop Go.Extern

def takenS (s : LS) (sn : Sn) : Option LS := if 0 ≤ sn.taken then outS s sn.taken else some s
/-- One step of the count. -/
structure LStep (s : LS) (t : Stp) (sn : Sn) (s2 s3 : LS) : Prop where
  outs : outsS (addS s t) sn.lost = some s2
  taken : takenS s2 sn = some s3
  wait : sn.len = s3.wait
  bytes : sn.bytes = s3.bytes
/-- Steps of which what is seen lies in memory. -/
theorem Sns.lies {w : World} {base : Nat} {F : Nat → Prop} {v : Value} {ss : List Sn} {us : List Value} (h : Sns w base F v ss us) : ∃ x cap, v = .slice x ss.length cap ∧ Lies w x (flt Sn.cs (ss.zip us)) := h.row.lies
theorem zip_at {α β : Type} {a : List α} {b : List β} {i : Nat} {x : α} {y : β} (h1 : a[i]? = some x) (h2 : b[i]? = some y) : (a.zip b)[i]? = some (x, y) := by
  rw [List.getElem?_zip_eq_some]
  exact ⟨h1, h2⟩
theorem Lies.seen {w : World} {x : Option Addr} {l : List (Sn × Value)} (h : Lies w x (flt Sn.cs l)) {k : Nat} {p : Sn × Value} (hk : l[k]? = some p) : ∃ b off, x = some ⟨b, off, none⟩ ∧ b < w.heap.size ∧ w.cell? ⟨b, off + k * 6, none⟩ = some (.int .i64 p.1.taken) ∧ w.cell? ⟨b, off + k * 6 + 1, none⟩ = some (.int .i64 p.1.mark) ∧ w.cell? ⟨b, off + k * 6 + 2, none⟩ = some (.int .i64 p.1.when) ∧ w.cell? ⟨b, off + k * 6 + 3, none⟩ = some (.int .i64 p.1.len) ∧ w.cell? ⟨b, off + k * 6 + 4, none⟩ = some (.int .i64 p.1.bytes) ∧ w.cell? ⟨b, off + k * 6 + 5, none⟩ = some p.2 := by
  have hat : ∀ j, j < 6 → (flt Sn.cs l)[k * 6 + j]? = (Sn.cs p)[j]? := fun j hj => flt_at Sn.cs 6 Sn.len6 hk hj
  rcases h with h | ⟨b, off, e, hl, h⟩
  · have := hat 0 (by omega)
    rw [h] at this
    simp [Sn.cs] at this
  · refine ⟨b, off, e, hl, ?_, ?_, ?_, ?_, ?_, ?_⟩
    · exact h _ _ (hat 0 (by omega))
    · exact h _ _ (hat 1 (by omega))
    · exact h _ _ (hat 2 (by omega))
    · exact h _ _ (hat 3 (by omega))
    · exact h _ _ (hat 4 (by omega))
    · exact h _ _ (hat 5 (by omega))
theorem Lies.below' {w w' : World} {x : Option Addr} {cells : List Value} {B : Nat} (h : Lies w x cells) (hb : Below B w w') (hB : w.heap.size ≤ B) : Lies w' x cells := h.below (hb.mono hB)
def ls0 : LS := ⟨[], [], 0, 0⟩
theorem ls0_ok : ls0.Ok 0 := ⟨rfl, Nat.le_refl _, by simp [ls0], rfl, rfl⟩
theorem outsS_ok {n : Nat} : ∀ {l : List Int} {s s' : LS}, s.Ok n → outsS s l = some s' → s'.Ok n := by
  intro l
  induction l with
  | nil => intro s s' h ho; simp [outsS] at ho; exact ho ▸ h
  | cons k r ih =>
    intro s s' h ho
    simp only [outsS] at ho
    split at ho
    · simp at ho
    · rename_i s1 h1; exact ih (h.out h1) ho

theorem one_at {w : World} {p : Nat} {v : Value} (h : w.cell? ⟨p, 0, none⟩ = some v) : ∀ (j : Nat) (u : Value), [v][j]? = some u → w.cell? ((⟨p, 0, none⟩ : Addr).add j) = some u := by
  intro j u hj
  match j, hj with
  | 0, hj => simp at hj; subst hj; simpa [Addr.add] using h
theorem outsS_wait : ∀ {l : List Int} {s s' : LS}, outsS s l = some s' → s'.wait = s.wait - l.length := by
  intro l
  induction l with
  | nil => intro s s' ho; simp [outsS] at ho; subst ho; simp
  | cons k r ih =>
    intro s s' ho
    simp only [outsS] at ho
    split at ho
    · simp at ho
    · rename_i s1 h1
      have h2 := ih ho
      unfold outS at h1
      split at h1
      · simp only [Option.some.injEq] at h1
        subst h1
        simp only [List.length_cons] at h2 ⊢
        omega
      · simp at h1
theorem outsS_len {n : Nat} {l : List Int} {s s' : LS} (h : s.Ok n) (ho : outsS s l = some s') : l.length ≤ n := by
  have h1 := outsS_wait ho
  have h2 := h.bounds.1
  have h3 := (outsS_ok h ho).bounds.1
  omega
theorem below_drewN_ {B : Nat} {a w : World} (h : Below B a w) (n : Nat) : Below B a (w.drewN n) := h.trans ⟨rfl, rfl, rfl, Nat.le_refl _, fun _ _ => rfl⟩
theorem cell_al {w : World} {a : Addr} {v : Value} (h : w.cell? a = some v) (o : Obj) : (w.alloc o).cell? a = some v := by rw [World.cell?_alloc_lt _ _ a (World.block_lt_of_cell? _ _ h)]; exact h
/-- Within 'size, state = append(size, l), append(state, 0)': what holds whichever has come up. -/
structure AppI (wr : World) (B zn vn : Nat) (zs' vs' : List Value) (zv sv lc : Value) (l0 l6 l7 l8 l9 l10 l11 l12 l13 : Prop) (t35 t41 t42 t43 t44 t45 t46 : Value) (pA pB : Nat) (W0 W : World) : Prop where
  c7 : l7 → l6
  c8 : l8 → l0 ∧ l7
  c11 : l11 → l9 ∧ l10
  c12 : l12 → l8 ∧ l11
  c13 : l13 → l12
  f0 : l0 → t35 = zv
  f6 : l6 → t41 = lc
  f9 : l9 → t44 = sv
  f7 : l7 → t42 = .slice (some ⟨pA, 0, none⟩) 1 1 ∧ wr.heap.size ≤ pA ∧ W0.cell? ⟨pA, 0, none⟩ = some lc
  f10 : l10 → t45 = .slice (some ⟨pB, 0, none⟩) 1 1 ∧ wr.heap.size ≤ pB ∧ W0.cell? ⟨pB, 0, none⟩ = some (.int .i64 0)
  f8 : l8 → Seg W0 3 1 t43 (zn + 1) (zs' ++ [lc]) ∧ ∀ k, t43.ownBlock = some k → zv.ownBlock = some k ∨ wr.heap.size ≤ k
  f11 : l11 → Seg W0 3 1 t46 (vn + 1) (vs' ++ [.int .i64 0]) ∧ ∀ k, t46.ownBlock = some k → sv.ownBlock = some k ∨ wr.heap.size ≤ k
  ne : l8 → l11 → ∀ k, t43.ownBlock = some k → t46.ownBlock ≠ some k
  s8 : ¬ l8 → Seg W0 3 1 zv zn zs'
  s11 : ¬ l11 → Seg W0 3 1 sv vn vs'
  ot : Ot (fun j => zv.ownBlock = some j ∨ sv.ownBlock = some j) wr W0
  w0 : ¬ l12 → W = W0
  w1 : l12 → ¬ l13 → W = W0.setCell ⟨B, 0, none⟩ t43
  w2 : l13 → W = (W0.setCell ⟨B, 0, none⟩ t43).setCell ⟨B + 1, 0, none⟩ t46
theorem LSAt.appended {wr W0 : World} {B : Nat} {s : LS} {zv sv t43 t46 : Value} {l : Int} (h : LSAt wr B s zv sv) (ho : Ot (fun j => zv.ownBlock = some j ∨ sv.ownBlock = some j) wr W0) (hz : Seg W0 3 1 t43 (s.size.length + 1) (s.size.map (Value.int .i64) ++ [.int .i64 l])) (hv : Seg W0 3 1 t46 (s.st.length + 1) (s.st.map (Value.int .i64) ++ [.int .i64 0]))
    (hzk : ∀ k, t43.ownBlock = some k → zv.ownBlock = some k ∨ wr.heap.size ≤ k) (hvk : ∀ k, t46.ownBlock = some k → sv.ownBlock = some k ∨ wr.heap.size ≤ k) (hne : ∀ k, t43.ownBlock = some k → t46.ownBlock ≠ some k) : LSAt ((W0.setCell ⟨B, 0, none⟩ t43).setCell ⟨B + 1, 0, none⟩ t46) B ⟨s.size ++ [l], s.st ++ [0], s.wait, s.bytes⟩ t43 t46 := by
  have hlow : B + 4 ≤ wr.heap.size := lt_of_block h.vb
  have h43 : ∀ k, t43.ownBlock = some k → B + 4 ≤ k := fun k hk => by
    rcases hzk k hk with h' | h'
    · exact (h.nz k h').1
    · omega
  have h46 : ∀ k, t46.ownBlock = some k → B + 4 ≤ k := fun k hk => by
    rcases hvk k hk with h' | h'
    · exact h.ns k h'
    · omega
  have hno : ∀ j, j < B + 4 → ¬ (zv.ownBlock = some j ∨ sv.ownBlock = some j) := by
    rintro j hj (h' | h')
    · have := (h.nz j h').1; omega
    · have := h.ns j h'; omega
  have hblk : ∀ j, j < B + 4 → W0.heap[j]? = wr.heap[j]? := fun j hj => ho.block j (by omega) (hno j hj)
  refine ⟨?_, ?_, ?_, ?_, ?_, ?_, fun k hk => ⟨h43 k hk, hne k hk⟩, h46⟩
  · rw [Below.heap_setCell _ _ _ _ (by show B ≠ B + 1; omega), heap_setCell_here ((hblk B (by omega)).trans h.vz)]
    rfl
  · rw [heap_setCell_here ((Below.heap_setCell _ _ _ _ (by show B + 1 ≠ B; omega)).trans ((hblk (B + 1) (by omega)).trans h.vs))]
    rfl
  · rw [Below.heap_setCell _ _ _ _ (by show B + 2 ≠ B + 1; omega), Below.heap_setCell _ _ _ _ (by show B + 2 ≠ B; omega), hblk _ (by omega)]
    exact h.vw
  · rw [Below.heap_setCell _ _ _ _ (by show B + 3 ≠ B + 1; omega), Below.heap_setCell _ _ _ _ (by show B + 3 ≠ B; omega), hblk _ (by omega)]
    exact h.vb
  · have : Ins W0 t43 (s.size ++ [l]) := by unfold Ins; rw [List.length_append, List.map_append]; exact hz
    exact (Seg.setCell this (p := ⟨B, 0, none⟩) (fun e => by have := h43 _ e; first | omega | (simp at this; done) | (simp at this; omega)) _).setCell (p := ⟨B + 1, 0, none⟩) (fun e => by have := h43 _ e; first | omega | (simp at this; done) | (simp at this; omega)) _
  · have : Ins W0 t46 (s.st ++ [0]) := by unfold Ins; rw [List.length_append, List.map_append]; exact hv
    exact (Seg.setCell this (p := ⟨B, 0, none⟩) (fun e => by have := h46 _ e; first | omega | (simp at this; done) | (simp at this; omega)) _).setCell (p := ⟨B + 1, 0, none⟩) (fun e => by have := h46 _ e; first | omega | (simp at this; done) | (simp at this; omega)) _
theorem LSAt.count {w : World} {B : Nat} {z v : List Int} {a c : Int} {zv sv : Value} (h : LSAt w B ⟨z, v, a, c⟩ zv sv) (a' c' : Int) : LSAt ((w.setCell ⟨B + 1 + 1, 0, none⟩ (.int .i64 a')).setCell ⟨B + 1 + 1 + 1, 0, none⟩ (.int .i64 c')) B ⟨z, v, a', c'⟩ zv sv := by
  refine ⟨?_, ?_, ?_, ?_, ?_, ?_, h.nz, h.ns⟩
  · rw [Below.heap_setCell _ _ _ _ (by show B ≠ B + 3; omega), Below.heap_setCell _ _ _ _ (by show B ≠ B + 2; omega)]
    exact h.vz
  · rw [Below.heap_setCell _ _ _ _ (by show B + 1 ≠ B + 3; omega), Below.heap_setCell _ _ _ _ (by show B + 1 ≠ B + 2; omega)]
    exact h.vs
  · rw [Below.heap_setCell _ _ _ _ (by show B + 2 ≠ B + 3; omega), heap_setCell_here h.vw]
    rfl
  · rw [heap_setCell_here ((Below.heap_setCell _ _ _ _ (by show B + 3 ≠ B + 2; omega)).trans h.vb)]
    rfl
  · exact (Seg.setCell h.rz (p := ⟨B + 2, 0, none⟩) (fun e => by have := (h.nz _ e).1; first | omega | (simp at this; done) | (simp at this; omega)) _).setCell (p := ⟨B + 3, 0, none⟩) (fun e => by have := (h.nz _ e).1; first | omega | (simp at this; done) | (simp at this; omega)) _
  · exact (Seg.setCell h.rs (p := ⟨B + 2, 0, none⟩) (fun e => by have := h.ns _ e; first | omega | (simp at this; done) | (simp at this; omega)) _).setCell (p := ⟨B + 3, 0, none⟩) (fun e => by have := h.ns _ e; first | omega | (simp at this; done) | (simp at this; omega)) _
theorem LSAt.start (w : World) : LSAt ((((w.alloc (.cells #[.slice none 0 0] 24)).alloc (.cells #[.slice none 0 0] 24)).alloc (.cells #[.int .i64 0] 3)).alloc (.cells #[.int .i64 0] 3)) w.heap.size ls0 (.slice none 0 0) (.slice none 0 0) := by
  refine ⟨?_, ?_, ?_, ?_, Ins.nil _, Ins.nil _, fun k hk => by simp [Value.ownBlock] at hk, fun k hk => by simp [Value.ownBlock] at hk⟩
  · rw [Below.heap_alloc _ _ _ (by simp <;> omega), Below.heap_alloc _ _ _ (by simp <;> omega), Below.heap_alloc _ _ _ (by simp)]
    exact heap_alloc_new w _
  · rw [Below.heap_alloc _ _ _ (by simp <;> omega), Below.heap_alloc _ _ _ (by simp)]
    exact new_block_ (by simp)
  · rw [Below.heap_alloc _ _ _ (by simp)]
    exact new_block_ (by simp)
  · exact new_block_ (by simp)
theorem LSAt.low {w : World} {B : Nat} {s : LS} {zv sv : Value} (h : LSAt w B s zv sv) : B + 4 ≤ w.heap.size := lt_of_block h.vb
end Go.Proofs.YtefflbibacmboaaDoor
