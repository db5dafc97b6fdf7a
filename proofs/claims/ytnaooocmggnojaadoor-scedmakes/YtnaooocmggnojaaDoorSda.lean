/-
  What sced.Make holds while it goes: the rows, the plan so far. Nothing of the program is claimed here by itself.
-/
import Derived.Test.YtnaooocmggnojaaDoorSd9
namespace Go.Proofs.YtnaooocmggnojaaDoor
open Go.RowKit Go.Extern.Stop Go.Stop Go.Extern

theorem ty_ne4 {w : World} {a b : Nat} {u v : Array Value} {s t : TypeId} {fr gr : Nat × Nat} (ha : w.heap[a]? = some (.cells u s fr)) (hb : w.heap[b]? = some (.cells v t gr)) (hne : s ≠ t) : a ≠ b := by
  rintro rfl
  rw [ha] at hb
  simp only [Option.some.injEq, Obj.cells.injEq] at hb
  exact hne hb.2.1
theorem Seg.ne {w : World} {e : TypeId} {q : Nat} {v : Value} {k : Nat} {xs : List Value} (h : Seg w e q v k xs) {b : Nat} {u : Array Value} {t : TypeId} {fr : Nat × Nat} (hb : w.heap[b]? = Option.some (.cells u t fr)) (hne : e ≠ t) : v.ownBlock ≠ Option.some b := fun he => by
  obtain ⟨cur, hc⟩ := h.ty he
  exact ty_ne4 hc hb hne rfl
theorem Seg.ne2 {w : World} {e e' : TypeId} {q q' : Nat} {v v' : Value} {k k' : Nat} {xs xs' : List Value} (h : Seg w e q v k xs) (h' : Seg w e' q' v' k' xs') (hne : e ≠ e') {b : Nat} (hb : v.ownBlock = Option.some b) : v'.ownBlock ≠ Option.some b := fun he => by
  obtain ⟨cur, hc⟩ := h.ty hb
  obtain ⟨cur', hc'⟩ := h'.ty he
  exact ty_ne4 hc hc' hne rfl
/-- What does not change: where the result and the plan lie. -/
structure Fix (w : World) (rb pb m : Nat) (lo : Nat → Nat) : Prop where
  f0 : rb < lo 0
  f1 : lo m ≤ pb
  f2 : w.heap.size ≤ rb
  f3 : rb < pb
structure MkR (w wr : World) (rb pb m : Nat) (lo : Nat → Nat) (B : Nat → Rb) (n : Nat) (C : Nat → Nat → Int) (K : Nat → Nat) (P : Nat → Nat → Int) (t : Nat) (sv v : Value) : Prop where
  rs : RsAt wr m lo B n C K P (thr P C m t) (fun i => tot (C i) t) (gon P C m t)
  ptr : Seg wr 72 1 v m (ptrs B m)
  pl : wr.heap[pb]? = some (.cells #[sv, .slice none 0 0, .slice none 0 0] 43 (0, 0))
  rs0 : wr.heap[rb]? = some (.cells #[.slice none 0 0, .slice none 0 0, .slice none 0 0] 43 (0, 0))
  snt : Seg wr 3 1 sv t (vals (pik P C m) t)
  os : ∀ b, sv.ownBlock = some b → pb ≤ b
  bel : Below w.heap.size w wr
variable {w wr wd w1 w2 : World} {rb pb m : Nat} {lo : Nat → Nat} {B : Nat → Rb} {n : Nat} {C : Nat → Nat → Int} {K : Nat → Nat} {P T : Nat → Nat → Int} {h : Nat → Int} {gg : Nat → Nat} {t : Nat} {sv v : Value}
theorem RsAt.out (H : RsAt w m lo B n C K P T h gg) {b i : Nat} (hb : b < lo 0 ∨ lo m ≤ b) (hi : i < m) : ¬ (B i).Own b := fun ho => by
  have h1 := H.inn i hi b ho
  have h2 := H.mono i 0 (by omega) (by omega)
  have h3 := H.mono m (i + 1) (by omega) (Nat.le_refl _)
  omega
theorem MkR.step {g off cap : Nat} {o : Obj} (M : MkR w wr rb pb m lo B n C K P t sv v) (f : Fix w rb pb m lo) (hd : Below wr.heap.size wr wd)
    (S : StR wd w1 m lo B n C K P (thr P C m (t + 1)) (fun i => tot (C i) (t + 1)) (gon P C m (t + 1)) v)
    (hs2 : Seg w2 3 1 (.slice (some ⟨g, off, none⟩) (t + 1) cap) (t + 1) (vals (pik P C m) t ++ [.int .i64 (pik P C m t)])) (hg : (w1.alloc o).grownBy w2 sv.ownBlock) (ha : sv.ownBlock = some g ∨ w1.heap.size ≤ g) :
    MkR w (w2.setCell ⟨pb, 0, none⟩ (.slice (some ⟨g, off, none⟩) (t + 1) cap)) rb pb m lo B n C K P (t + 1) (.slice (some ⟨g, off, none⟩) (t + 1) cap) v := by
  have pl := lt_of_block M.pl
  have rl := lt_of_block M.rs0
  have hds := hd.size
  have hS1 := S.ot.size
  have hRd : RsAt wd m lo B n C K P _ _ _ := M.rs.below hd
  have n1 : ∀ b, (b < lo 0 ∨ lo m ≤ b) → ¬ ∃ i, i < m ∧ (B i).Own b := fun b hb => by
    rintro ⟨i, hi, ho⟩
    exact hRd.out hb hi ho
  have f0 := f.f0
  have f1 := f.f1
  have f2 := f.f2
  have f3 := f.f3
  have e1 : w1.heap[pb]? = some (.cells #[sv, .slice none 0 0, .slice none 0 0] 43 (0, 0)) := (S.ot.block pb (by omega) (n1 pb (by omega))).trans ((hd.block pb pl).trans M.pl)
  have e2 : w1.heap[rb]? = some (.cells #[.slice none 0 0, .slice none 0 0, .slice none 0 0] 43 (0, 0)) := (S.ot.block rb (by omega) (n1 rb (by omega))).trans ((hd.block rb rl).trans M.rs0)
  have sns : sv.ownBlock ≠ some pb := M.snt.ne M.pl (by decide)
  have snr : sv.ownBlock ≠ some rb := M.snt.ne M.rs0 (by decide)
  have e1' : w2.heap[pb]? = some (.cells #[sv, .slice none 0 0, .slice none 0 0] 43 (0, 0)) := ((hg.block pb (by simp; omega) (fun e => sns e.symm)).trans (Below.heap_alloc _ _ _ (by omega))).trans e1
  have e2' : w2.heap[rb]? = some (.cells #[.slice none 0 0, .slice none 0 0, .slice none 0 0] 43 (0, 0)) := ((hg.block rb (by simp; omega) (fun e => snr e.symm)).trans (Below.heap_alloc _ _ _ (by omega))).trans e2
  have gne : g ≠ pb := by
    rintro rfl
    rcases ha with e | e
    · exact sns e
    · omega
  have hO : Ot (fun b => sv.ownBlock = some b) w1 w2 := Ot.grown ((Ot.refl _ _).alloc _) hg (fun _ e => Or.inl e)
  have hO2 : Ot (fun b => b = pb ∨ sv.ownBlock = some b) w1 (w2.setCell ⟨pb, 0, none⟩ (.slice (some ⟨g, off, none⟩) (t + 1) cap)) := Ot.setCell (p := ⟨pb, 0, none⟩) (hO.mono (T := fun b => b = pb ∨ sv.ownBlock = some b) (fun _ _ e => Or.inr e)) (Or.inl (Or.inl rfl)) _
  have hno : ∀ i, i < m → ∀ b, (B i).Own b → ¬ (b = pb ∨ sv.ownBlock = some b) := fun i hi b ho => by
    rintro (e | e)
    · exact S.rs.out (Or.inr (by omega)) hi ho
    · exact S.rs.out (Or.inr (by have := M.os b e; omega)) hi ho
  have hbel1 : Below w.heap.size w w1 := (M.bel.trans (hd.mono M.bel.size)).trans (S.ot.below (by have := M.bel.size; omega) (fun b hb => by
    obtain ⟨i, hi, ho⟩ := hb
    have := S.rs.inn i hi b ho
    have := S.rs.mono i 0 (by omega) (by omega)
    omega))
  refine ⟨S.rs.ot hO2 hno, S.ptr.oth hO2 (fun b e => ?_), heap_setCell_here e1' _, (Below.heap_setCell _ _ _ _ (show rb ≠ pb by omega)).trans e2', ?_, fun b e => ?_, ?_⟩
  · rintro (e' | e')
    · subst e'
      exact S.ptr.ne e1 (by decide) e
    · have hsv : Seg w1 3 1 sv t (vals (pik P C m) t) := (M.snt.below hd).oth S.ot (fun b' e'' => n1 b' (Or.inr (by have := M.os b' e''; omega)))
      exact S.ptr.ne2 hsv (by decide) e e'
  · have hs3 : Seg w2 3 1 (.slice (some ⟨g, off, none⟩) (t + 1) cap) (t + 1) (vals (pik P C m) (t + 1)) := by rw [vals_succ]; exact hs2
    exact hs3.setCell (by simpa [Value.ownBlock] using gne) _
  · simp only [Value.ownBlock, Option.some.injEq] at e
    subst e
    rcases ha with e | e
    · exact M.os g e
    · omega
  · refine Below.setCell (p := ⟨pb, 0, none⟩) ?_ (show w.heap.size ≤ pb by omega) _
    refine (hbel1.alloc hbel1.size _).grown hg (by simp; have := hbel1.size; omega) (fun b e => ?_)
    have := M.os b e
    omega

/-- What the end of Make holds. -/
structure CoR (w wr : World) (rb pb m : Nat) (lo : Nat → Nat) (B : Nat → Rb) (n : Nat) (C : Nat → Nat → Int) (K : Nat → Nat) (P : Nat → Nat → Int) (t : Nat) (sv v prv thv : Value) (k l : Nat) : Prop where
  rs : RsAt wr m lo B n C K P (thr P C m t) (fun i => tot (C i) t) (gon P C m t)
  ptr : Seg wr 72 1 v m (ptrs B m)
  pl : wr.heap[pb]? = some (.cells #[sv, prv, thv] 43 (0, 0))
  rs0 : wr.heap[rb]? = some (.cells #[.slice none 0 0, .slice none 0 0, .slice none 0 0] 43 (0, 0))
  snt : Seg wr 3 1 sv t (vals (pik P C m) t)
  pro : Seg wr 36 1 prv k ((List.range k).map fun i => (B i).pv)
  thh : Seg wr 36 1 thv l ((List.range l).map fun i => (B i).tv)
  op : ∀ b, prv.ownBlock = some b → w.heap.size ≤ b
  ot : ∀ b, thv.ownBlock = some b → w.heap.size ≤ b
  dpt : ∀ b, prv.ownBlock = some b → thv.ownBlock ≠ some b
  bel : Below w.heap.size w wr
theorem MkR.co (M : MkR w wr rb pb m lo B n C K P t sv v) : CoR w wr rb pb m lo B n C K P t sv v (.slice none 0 0) (.slice none 0 0) 0 0 :=
  ⟨M.rs, M.ptr, M.pl, M.rs0, M.snt, Seg.nil _ _ _, Seg.nil _ _ _, fun b e => by simp [Value.ownBlock] at e, fun b e => by simp [Value.ownBlock] at e, fun b e => by simp [Value.ownBlock] at e, M.bel⟩
theorem own_ne {w : World} {r cb k : Nat} {pv tv : Value} {n : Nat} {c P T : Nat → Int} {h g : Int} {v : Value} {q : Nat} {xs : List Value} (H : RwAt w r cb pv tv n c k P T h g) (hv : Seg w 36 1 v q xs) {b : Nat} (hb : v.ownBlock = some b) : ¬ (Rb.mk r cb pv tv).Own b := by
  obtain ⟨cur, hc⟩ := hv.ty hb
  rintro (e | e | e | e)
  · exact ty_ne4 hc H.blk (by decide) e
  · obtain ⟨cu, h1, _⟩ := H.cty
    exact ty_ne4 hc h1 (by decide) e
  · obtain ⟨cu, h1⟩ := H.prom.ty e
    exact ty_ne4 hc h1 (by decide) rfl
  · obtain ⟨cu, h1⟩ := H.thru.ty e
    exact ty_ne4 hc h1 (by decide) rfl
/-- One more list of Promised. -/
theorem CoR.pstep {prv thv : Value} {k l g off cap : Nat} {o : Obj} (M : CoR w wr rb pb m lo B n C K P t sv v prv thv k l) (f : Fix w rb pb m lo) (hd : Below wr.heap.size wr wd)
    (hs2 : Seg w2 36 1 (.slice (some ⟨g, off, none⟩) (k + 1) cap) (k + 1) (((List.range k).map fun i => (B i).pv) ++ [(B k).pv])) (hg : (wd.alloc o).grownBy w2 prv.ownBlock) (ha : prv.ownBlock = some g ∨ wd.heap.size ≤ g) :
    CoR w (w2.setCell ⟨pb, 1, none⟩ (.slice (some ⟨g, off, none⟩) (k + 1) cap)) rb pb m lo B n C K P t sv v (.slice (some ⟨g, off, none⟩) (k + 1) cap) thv (k + 1) l := by
  have pl := lt_of_block M.pl
  have rl := lt_of_block M.rs0
  have hds := hd.size
  have f0 := f.f0
  have f1 := f.f1
  have f2 := f.f2
  have f3 := f.f3
  have sns : prv.ownBlock ≠ some pb := M.pro.ne M.pl (by decide)
  have hO : Ot (fun b => prv.ownBlock = some b) wr w2 := Ot.grown (Ot.of_below (below_alloc_ hd _)) hg (fun _ e => Or.inl e)
  have hO2 : Ot (fun b => b = pb ∨ prv.ownBlock = some b) wr (w2.setCell ⟨pb, 1, none⟩ (.slice (some ⟨g, off, none⟩) (k + 1) cap)) := Ot.setCell (p := ⟨pb, 1, none⟩) (hO.mono (T := fun b => b = pb ∨ prv.ownBlock = some b) (fun _ _ e => Or.inr e)) (Or.inl (Or.inl rfl)) _
  have e1 : w2.heap[pb]? = some (.cells #[sv, prv, thv] 43 (0, 0)) := (hO.block pb pl sns).trans M.pl
  have gne : g ≠ pb := by
    rintro rfl
    rcases ha with e | e
    · exact sns e
    · omega
  refine ⟨M.rs.ot hO2 (fun i hi b ho => ?_), M.ptr.oth hO2 (fun b e => ?_), heap_setCell_here e1 _, (hO2.block rb rl ?_).trans M.rs0, M.snt.oth hO2 (fun b e => ?_), ?_, M.thh.oth hO2 (fun b e => ?_), fun b e => ?_, M.ot, fun b e => ?_, ?_⟩
  · rintro (e | e)
    · exact M.rs.out (Or.inr (by omega)) hi ho
    · exact own_ne (M.rs.row i hi) M.pro e ho
  · rintro (e' | e')
    · subst e'; exact M.ptr.ne M.pl (by decide) e
    · exact M.ptr.ne2 M.pro (by decide) e e'
  · rintro (e | e)
    · omega
    · exact M.pro.ne M.rs0 (by decide) e
  · rintro (e' | e')
    · subst e'; exact M.snt.ne M.pl (by decide) e
    · exact M.snt.ne2 M.pro (by decide) e e'
  · have hs3 : Seg w2 36 1 (.slice (some ⟨g, off, none⟩) (k + 1) cap) (k + 1) ((List.range (k + 1)).map fun i => (B i).pv) := by rw [List.range_succ, List.map_append]; exact hs2
    exact hs3.setCell (by simpa [Value.ownBlock] using gne) _
  · rintro (e' | e')
    · subst e'; exact M.thh.ne M.pl (by decide) e
    · exact M.dpt b e' e
  · simp only [Value.ownBlock, Option.some.injEq] at e
    subst e
    rcases ha with e | e
    · exact M.op g e
    · have := M.bel.size; omega
  · simp only [Value.ownBlock, Option.some.injEq] at e
    subst e
    rcases ha with e | e
    · exact M.dpt g e
    · exact fun e' => by have := M.thh.lt e'; omega
  · refine Below.setCell (p := ⟨pb, 1, none⟩) ?_ (show w.heap.size ≤ pb by omega) _
    have hbd : Below w.heap.size w wd := M.bel.trans (hd.mono M.bel.size)
    refine (hbd.alloc hbd.size _).grown hg (by simp; have := hbd.size; omega) (fun b e => M.op b e)
/-- One more list of Through. -/
theorem CoR.tstep {prv thv : Value} {k l g off cap : Nat} {o : Obj} (M : CoR w wr rb pb m lo B n C K P t sv v prv thv k l) (f : Fix w rb pb m lo) (hd : Below wr.heap.size wr wd)
    (hs2 : Seg w2 36 1 (.slice (some ⟨g, off, none⟩) (l + 1) cap) (l + 1) (((List.range l).map fun i => (B i).tv) ++ [(B l).tv])) (hg : (wd.alloc o).grownBy w2 thv.ownBlock) (ha : thv.ownBlock = some g ∨ wd.heap.size ≤ g) :
    CoR w (w2.setCell ⟨pb, 2, none⟩ (.slice (some ⟨g, off, none⟩) (l + 1) cap)) rb pb m lo B n C K P t sv v prv (.slice (some ⟨g, off, none⟩) (l + 1) cap) k (l + 1) := by
  have pl := lt_of_block M.pl
  have rl := lt_of_block M.rs0
  have hds := hd.size
  have f0 := f.f0
  have f1 := f.f1
  have f2 := f.f2
  have f3 := f.f3
  have sns : thv.ownBlock ≠ some pb := M.thh.ne M.pl (by decide)
  have hO : Ot (fun b => thv.ownBlock = some b) wr w2 := Ot.grown (Ot.of_below (below_alloc_ hd _)) hg (fun _ e => Or.inl e)
  have hO2 : Ot (fun b => b = pb ∨ thv.ownBlock = some b) wr (w2.setCell ⟨pb, 2, none⟩ (.slice (some ⟨g, off, none⟩) (l + 1) cap)) := Ot.setCell (p := ⟨pb, 2, none⟩) (hO.mono (T := fun b => b = pb ∨ thv.ownBlock = some b) (fun _ _ e => Or.inr e)) (Or.inl (Or.inl rfl)) _
  have e1 : w2.heap[pb]? = some (.cells #[sv, prv, thv] 43 (0, 0)) := (hO.block pb pl sns).trans M.pl
  have gne : g ≠ pb := by
    rintro rfl
    rcases ha with e | e
    · exact sns e
    · omega
  refine ⟨M.rs.ot hO2 (fun i hi b ho => ?_), M.ptr.oth hO2 (fun b e => ?_), heap_setCell_here e1 _, (hO2.block rb rl ?_).trans M.rs0, M.snt.oth hO2 (fun b e => ?_), M.pro.oth hO2 (fun b e => ?_), ?_, M.op, fun b e => ?_, fun b e => ?_, ?_⟩
  · rintro (e | e)
    · exact M.rs.out (Or.inr (by omega)) hi ho
    · exact own_ne (M.rs.row i hi) M.thh e ho
  · rintro (e' | e')
    · subst e'; exact M.ptr.ne M.pl (by decide) e
    · exact M.ptr.ne2 M.thh (by decide) e e'
  · rintro (e | e)
    · omega
    · exact M.thh.ne M.rs0 (by decide) e
  · rintro (e' | e')
    · subst e'; exact M.snt.ne M.pl (by decide) e
    · exact M.snt.ne2 M.thh (by decide) e e'
  · rintro (e' | e')
    · subst e'; exact M.pro.ne M.pl (by decide) e
    · exact M.dpt b e e'
  · have hs3 : Seg w2 36 1 (.slice (some ⟨g, off, none⟩) (l + 1) cap) (l + 1) ((List.range (l + 1)).map fun i => (B i).tv) := by rw [List.range_succ, List.map_append]; exact hs2
    exact hs3.setCell (by simpa [Value.ownBlock] using gne) _
  · simp only [Value.ownBlock, Option.some.injEq] at e
    subst e
    rcases ha with e | e
    · exact M.ot g e
    · have := M.bel.size; omega
  · intro e'
    simp only [Value.ownBlock, Option.some.injEq] at e'
    subst e'
    rcases ha with e' | e'
    · exact M.dpt g e e'
    · have := M.pro.lt e; omega
  · refine Below.setCell (p := ⟨pb, 2, none⟩) ?_ (show w.heap.size ≤ pb by omega) _
    have hbd : Below w.heap.size w wd := M.bel.trans (hd.mono M.bel.size)
    refine (hbd.alloc hbd.size _).grown hg (by simp; have := hbd.size; omega) (fun b e => M.ot b e)
end Go.Proofs.YtnaooocmggnojaaDoor
