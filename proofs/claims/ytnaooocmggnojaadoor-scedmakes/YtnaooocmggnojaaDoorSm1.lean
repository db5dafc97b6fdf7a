/-
  Cells of the document's own plan in memory. Nothing of the program is claimed here by itself; millraceref.key of a cell. Conditions: the cell lies in memory.
-/
import Derived.Test.YtnaooocmggnojaaDoorSdb
import Derived.Test.YtnaooocmggnojaaDoorScN
import Derived.Test.YtnaooocmggnojaaDoorSf2
namespace Go.Proofs.YtnaooocmggnojaaDoor
open Go.RowKit Go.Extern.Stop Go.Stop Go.Extern

/-- A cell in memory. -/
def CelAt (w : World) (b : Nat) (i t d h : Int) : Prop := w.heap[b]? = some (.cells #[.int .i64 i, .int .i64 t, .int .i64 d, .int .i64 h] 66 (0, 0))
theorem CelAt.cells {w : World} {b : Nat} {i t d h : Int} (H : CelAt w b i t d h) : (w.cell? ⟨b, 0, none⟩ = some (.int .i64 i) ∧ w.cell? ⟨b, 1, none⟩ = some (.int .i64 t) ∧ w.cell? ⟨b, 2, none⟩ = some (.int .i64 d) ∧ w.cell? ⟨b, 3, none⟩ = some (.int .i64 h)) ∧ (w.frozen? ⟨b, 2, none⟩ = false ∧ w.frozen? ⟨b, 3, none⟩ = false) ∧ b < w.heap.size := by
  unfold CelAt at H
  refine ⟨⟨?_, ?_, ?_, ?_⟩, ⟨?_, ?_⟩, lt_of_block H⟩ <;> simp [World.cell?, World.frozen?, H]
theorem CelAt.kept {w w' : World} {b : Nat} {i t d h : Int} (H : CelAt w b i t d h) (hb : w'.heap[b]? = w.heap[b]?) : CelAt w' b i t d h := hb.trans H
theorem CelAt.setD {w : World} {b : Nat} {i t d h : Int} (H : CelAt w b i t d h) (u : Int) : CelAt (w.setCell ⟨b, 2, none⟩ (.int .i64 u)) b i t u h := heap_setCell_here H _
theorem CelAt.setH {w : World} {b : Nat} {i t d h : Int} (H : CelAt w b i t d h) (u : Int) : CelAt (w.setCell ⟨b, 3, none⟩ (.int .i64 u)) b i t d u := heap_setCell_here H _
/-- The pointers to cells. -/
def cptrs (B : Nat → Nat) (M : Nat) : List Value := (List.range M).map fun q => .pointer (some ⟨B q, 0, none⟩)
theorem cptrs_succ (B : Nat → Nat) (k : Nat) : cptrs B (k + 1) = cptrs B k ++ [.pointer (some ⟨B k, 0, none⟩)] := by simp [cptrs, List.range_succ]
theorem cptrs_at (B : Nat → Nat) {M q : Nat} (hq : q < M) : (cptrs B M)[q]? = some (.pointer (some ⟨B q, 0, none⟩)) := by simp [cptrs, hq]
/-- Cells one behind the other. -/
structure CelsR (w : World) (M : Nat) (B fi ki : Nat → Nat) (A D H : Nat → Int) (v : Value) : Prop where
  seg : Seg w 64 1 v M (cptrs B M)
  cel : ∀ q, q < M → CelAt w (B q) (fi q) (A q) (D q) (H q)
  inc : ∀ q r, q < r → r < M → B q < B r
variable {w w' : World} {M : Nat} {B fi ki : Nat → Nat} {A D H : Nat → Int} {v : Value}
theorem CelsR.below (h : CelsR w M B fi ki A D H v) (hb : Below w.heap.size w w') : CelsR w' M B fi ki A D H v := ⟨h.seg.below hb, fun q hq => (h.cel q hq).kept (hb.block _ (lt_of_block (h.cel q hq))), h.inc⟩
theorem CelsR.ot {S : Nat → Prop} (h : CelsR w M B fi ki A D H v) (ho : Ot S w w') (hv : ∀ b, v.ownBlock = some b → ¬ S b) (hc : ∀ q, q < M → ¬ S (B q)) : CelsR w' M B fi ki A D H v := ⟨h.seg.oth ho hv, fun q hq => (h.cel q hq).kept (ho.block _ (lt_of_block (h.cel q hq)) (hc q hq)), h.inc⟩
/-- Blocks of other types are none of theirs. -/
theorem CelsR.ne (h : CelsR w M B fi ki A D H v) {b : Nat} {u : Array Value} {t : TypeId} {fr : Nat × Nat} (hb : w.heap[b]? = some (.cells u t fr)) (h1 : 64 ≠ t) (h2 : 66 ≠ t) : v.ownBlock ≠ some b ∧ ∀ q, q < M → B q ≠ b := ⟨h.seg.ne hb h1, fun q hq => ty_ne4 (h.cel q hq) hb h2⟩
/-- One is through. -/
theorem CelsR.setH (h : CelsR w M B fi ki A D H v) {q : Nat} (hq : q < M) (u : Int) {H' : Nat → Int} (hH : ∀ r, r < M → H' r = if r = q then u else H r) : CelsR (w.setCell ⟨B q, 3, none⟩ (.int .i64 u)) M B fi ki A D H' v ∧ Ot (fun b => b = B q) w (w.setCell ⟨B q, 3, none⟩ (.int .i64 u)) := by
  have hO : Ot (fun b => b = B q) w (w.setCell ⟨B q, 3, none⟩ (.int .i64 u)) := Ot.setCell (S := fun b => b = B q) (p := ⟨B q, 3, none⟩) (Ot.refl _ _) (Or.inl rfl) _
  refine ⟨⟨h.seg.oth hO (fun b e e' => ?_), fun r hr => ?_, h.inc⟩, hO⟩
  · subst e'; exact h.seg.ne (h.cel q hq) (by decide) e
  · rw [hH r hr]
    by_cases e : r = q
    · subst e; rw [if_pos rfl]; exact (h.cel r hr).setH u
    · rw [if_neg e]
      refine (h.cel r hr).kept (hO.block _ (lt_of_block (h.cel r hr)) (fun e' => ?_))
      have h3 : r < q ∨ q < r := by omega
      rcases h3 with h3 | h3
      · have := h.inc r q h3 hq; omega
      · have := h.inc q r h3 hr; omega
/-- One cell more. -/
theorem CelsR.snoc {w w2 w5 : World} (h : CelsR w M B fi ki A D H v) {b : Nat} {g off cap : Nat} {i t d hh : Int} {k f : Nat} {o : Obj} (hw : Below w.heap.size w w2) (hb : CelAt w2 b i t d hh) (hbw : w.heap.size ≤ b) (hi : i = f)
    (hs : Seg w5 64 1 (.slice (some ⟨g, off, none⟩) (M + 1) cap) (M + 1) (cptrs B M ++ [.pointer (some ⟨b, 0, none⟩)])) (hg : (w2.alloc o).grownBy w5 v.ownBlock) :
    CelsR w5 (M + 1) (updN B M b) (updN fi M f) (updN ki M k) (fun q => if q = M then t else A q) (fun q => if q = M then d else D q) (fun q => if q = M then hh else H q) (.slice (some ⟨g, off, none⟩) (M + 1) cap) := by
  have h2 : CelsR (w2.alloc o) M B fi ki A D H v := (h.below hw).below (below_alloc_ (Below.refl _ _) _)
  have hO : Ot (fun b => v.ownBlock = some b) (w2.alloc o) w5 := Ot.grown (Ot.refl _ _) hg (fun _ e => Or.inl e)
  have hb2 : CelAt (w2.alloc o) b i t d hh := hb.kept (Below.heap_alloc _ _ _ (lt_of_block hb))
  have hp : cptrs (updN B M b) (M + 1) = cptrs B M ++ [.pointer (some ⟨b, 0, none⟩)] := by
    rw [cptrs_succ, updN_same]
    congr 1
    unfold cptrs
    apply List.map_congr_left
    intro q hq
    rw [updN_ne (by have : q < M := by simpa using hq
                    omega)]
  refine ⟨by rw [hp]; exact hs, fun q hq => ?_, fun q r hqr hr => ?_⟩
  · by_cases e : q = M
    · subst e
      rw [updN_same, updN_same, if_pos rfl, if_pos rfl, if_pos rfl, ← hi]
      exact hb2.kept (hO.block b (lt_of_block hb2) (fun e => h2.seg.ne hb2 (by decide) e))
    · rw [updN_ne e, updN_ne e, if_neg e, if_neg e, if_neg e]
      have hc := h2.cel q (by omega)
      exact hc.kept (hO.block _ (lt_of_block hc) (fun e => h2.seg.ne hc (by decide) e))
  · by_cases e : r = M
    · subst e
      rw [updN_same, updN_ne (by omega)]
      have := lt_of_block (h.cel q hqr)
      omega
    · rw [updN_ne e, updN_ne (by omega)]
      exact h.inc q r hqr (by omega)
theorem CelsR.ptr (h : CelsR w M B fi ki A D H v) {q : Nat} (hq : q < M) : ∃ b off cap, v = .slice (some ⟨b, off, none⟩) M cap ∧ w.cell? ⟨b, off + q, none⟩ = some (.pointer (some ⟨B q, 0, none⟩)) ∧ b < w.heap.size := by
  obtain ⟨b, off, cap, e, _, _, hl, hc⟩ := h.seg.some (by omega)
  exact ⟨b, off, cap, e, hc q _ (cptrs_at B hq), hl⟩
theorem CelsR.congr (h : CelsR w M B fi ki A D H v) {D' H' : Nat → Int} (hD : ∀ q, q < M → D q = D' q) (hH : ∀ q, q < M → H q = H' q) : CelsR w M B fi ki A D' H' v := ⟨h.seg, fun q hq => by rw [← hD q hq, ← hH q hq]; exact h.cel q hq, h.inc⟩
/-- Cells as they are made: all of the flows ahead of i, and k of flow i. -/
structure BuI (w wr : World) (F : Nat → Flw) (Tk m : Nat) (K : Nat → Nat) (v : Value) : Prop where
  ex : ∃ (M : Nat) (B fi ki : Nat → Nat) (A : Nat → Int), CelsR wr M B fi ki A (fun q => pF F Tk (fi q) (ki q)) (fun _ => -1) v ∧ CelOk m M K fi ki ∧ (∀ q, q < M → ∀ t : Nat, A q ≤ t ↔ (ki q : Int) < tot (cF F (fi q)) (t + 1)) ∧ (∀ q, q < M → w.heap.size ≤ B q) ∧ M ≤ 1000
  ov : ∀ b, v.ownBlock = some b → w.heap.size ≤ b
  bel : Below w.heap.size w wr
theorem BuI.nil (w : World) (F : Nat → Flw) (Tk : Nat) (K : Nat → Nat) : BuI w w F Tk 0 K (.slice none 0 0) :=
  ⟨⟨0, fun _ => 0, fun _ => 0, fun _ => 0, fun _ => 0, ⟨Seg.nil _ _ _, fun q hq => by omega, fun q r _ hr => by omega⟩, ⟨fun q hq => by omega, fun q r _ hr => by omega, fun i hi => by omega⟩, fun q hq => by omega, fun q hq => by omega, by omega⟩, fun b e => by simp [Value.ownBlock] at e, Below.refl _ _⟩
theorem BuI.below {w wr wx : World} {F : Nat → Flw} {Tk m : Nat} {K : Nat → Nat} {v : Value} (h : BuI w wr F Tk m K v) (hb : Below wr.heap.size wr wx) : BuI w wx F Tk m K v := by
  obtain ⟨M, B, fi, ki, A, h1, h2⟩ := h.ex
  exact ⟨⟨M, B, fi, ki, A, h1.below hb, h2⟩, h.ov, h.bel.trans (hb.mono h.bel.size)⟩
theorem BuI.next {w wr : World} {F : Nat → Flw} {Tk i : Nat} {K : Nat → Nat} {v : Value} (h : BuI w wr F Tk i K v) : BuI w wr F Tk (i + 1) (updN K i 0) v := by
  obtain ⟨M, B, fi, ki, A, h1, h2, h3⟩ := h.ex
  exact ⟨⟨M, B, fi, ki, A, h1, h2.next, h3⟩, h.ov, h.bel⟩
theorem BuI.done {w wr : World} {F : Nat → Flw} {Tk i : Nat} {K : Nat → Nat} {v : Value} (h : BuI w wr F Tk (i + 1) (updN K i (K i)) v) : BuI w wr F Tk (i + 1) K v := by
  obtain ⟨M, B, fi, ki, A, h1, h2, h3⟩ := h.ex
  exact ⟨⟨M, B, fi, ki, A, h1, h2.done, h3⟩, h.ov, h.bel⟩
/-- One cell more. -/
theorem BuI.snoc {w wr w2 w5 : World} {F : Nat → Flw} {Tk i k t : Nat} {K : Nat → Nat} {v : Value} {b g off cap : Nat} {o : Obj} {M : Nat} {B fi ki : Nat → Nat} {A : Nat → Int} (hov : ∀ b, v.ownBlock = some b → w.heap.size ≤ b) (hbel : Below w.heap.size w wr)
    (h1 : CelsR wr M B fi ki A (fun q => pF F Tk (fi q) (ki q)) (fun _ => -1) v) (h2 : CelOk (i + 1) M (updN K i k) fi ki) (h3 : ∀ q, q < M → ∀ t : Nat, A q ≤ t ↔ (ki q : Int) < tot (cF F (fi q)) (t + 1)) (h4 : ∀ q, q < M → w.heap.size ≤ B q)
    (hw : Below wr.heap.size wr w2) (hb : CelAt w2 b i t (pF F Tk i k) (-1)) (hbw : wr.heap.size ≤ b)
    (hat : ∀ s : Nat, t ≤ s ↔ (k : Int) < tot (cF F i) (s + 1)) (hM : M + 1 ≤ 1000)
    (hs : Seg w5 64 1 (.slice (some ⟨g, off, none⟩) (M + 1) cap) (M + 1) (cptrs B M ++ [.pointer (some ⟨b, 0, none⟩)])) (hg : (w2.alloc o).grownBy w5 v.ownBlock) (ha : v.ownBlock = some g ∨ w2.heap.size ≤ g) : BuI w w5 F Tk (i + 1) (updN K i (k + 1)) (.slice (some ⟨g, off, none⟩) (M + 1) cap) := by
  have hsz := hw.size
  have hwb := hbel.size
  refine ⟨⟨M + 1, updN B M b, updN fi M i, updN ki M k, fun q => if q = M then (t : Int) else A q, ?_, h2.snoc, fun q hq s => ?_, fun q hq => ?_, hM⟩, fun b' e => ?_, ?_⟩
  · refine (h1.snoc (k := k) (f := i) hw hb hbw rfl hs hg).congr (fun q hq => ?_) (fun q hq => ?_)
    · by_cases e : q = M
      · subst e; rw [if_pos rfl, updN_same, updN_same]
      · rw [if_neg e, updN_ne e, updN_ne e]
    · split <;> rfl
  · show (if q = M then (t : Int) else A q) ≤ s ↔ _
    by_cases e : q = M
    · subst e; rw [if_pos rfl, updN_same, updN_same]; have := hat s; omega
    · rw [if_neg e, updN_ne e, updN_ne e]; exact h3 q (by omega) s
  · by_cases e : q = M
    · subst e; rw [updN_same]; omega
    · rw [updN_ne e]; exact h4 q (by omega)
  · simp only [Value.ownBlock, Option.some.injEq] at e
    subst e
    rcases ha with e | e
    · exact hov g e
    · omega
  · exact ((hbel.trans (hw.mono hwb)).alloc (by omega) _).grown hg (by simp; omega) (fun b' e => hov b' e)
/-- .. with what is served beside them. -/
structure BuZ (w wr : World) (F : Nat → Flw) (Tk i : Nat) (k : Nat) (v : Value) (zb zo : Nat) (S : Nat → Int) : Prop where
  bu : BuI w wr F Tk (i + 1) (updN (kF F Tk) i k) v
  nz : v.ownBlock ≠ some zb
  row : Row wr (some ⟨zb, zo, none⟩) (Tk + 1) S
theorem row_ot' {w w' : World} {S : Nat → Prop} {s o n : Nat} {f : Nat → Int} (h : Row w (some ⟨s, o, none⟩) n f) (ho : Ot S w w') (hs : ¬ S s) : Row w' (some ⟨s, o, none⟩) n f := by
  rcases h with h | ⟨b, off, e, hc⟩
  · exact Or.inl h
  · simp only [Option.some.injEq, Addr.mk.injEq, and_true] at e
    obtain ⟨rfl, rfl⟩ := e
    refine Or.inr ⟨s, o, rfl, fun i hi => ?_⟩
    exact (ho.cell (World.block_lt_of_cell? w _ (hc i hi)) hs).trans (hc i hi)
theorem key_any {b : Nat} {i t d h : Int} (T : Nat) (w : World) (H : CelAt w b i t d h) (hT : T ≤ 1000) (P : Nat → Nat → Int) (f k : Nat) (hd : d = P f k) :
    Calls Tryd.prog 23 #[.pointer (some ⟨b, 0, none⟩), .int .i64 T] w fun e w' => e = .returned (.int .i64 (keyF P T f k)) ∧ w' = w := by
  obtain ⟨⟨_, _, c2, _⟩, _, hl⟩ := H.cells
  have HK : Hid (keyF P T f k = if d < 0 then (T : Int) + 1 else d) := by show _ = _; rw [hd]; rfl
  clear H hd
  by_cases h0 : d < 0
  · rw [if_pos h0] at HK
    go_enter Tryd.func23, Tryd.ntmps23
    go_wp2
    go_ret
    exact ⟨by rw [HK.out]; rfl, rfl⟩
  · rw [if_neg h0] at HK
    go_enter Tryd.func23, Tryd.ntmps23
    go_wp2
    go_ret
    exact ⟨by rw [HK.out]; rfl, rfl⟩
end Go.Proofs.YtnaooocmggnojaaDoor
