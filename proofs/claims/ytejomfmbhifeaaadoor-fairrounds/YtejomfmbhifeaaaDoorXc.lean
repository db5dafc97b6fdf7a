/-
  millraceref.Hashed: what is left of it, step by step (RhO, RhM). Memory alone.
-/
import Derived.Test.YtejomfmbhifeaaaDoorXb
import Derived.Test.YtejomfmbhifeaaaDoorRh
namespace Go.Proofs.YtejomfmbhifeaaaDoor
open Go.RowKit Go.Extern.Stop Go.Stop Go.Extern

/-- What is left of it behind a call, or a part of one. -/
structure RhO (w : World) (b : Nat) (p : HaC) (v tv : Value) (r' : RhS) (w' : World) (v' tv' : Value) : Prop where
  pos : RhP w' b p v' tv' r'
  own : ∀ k, RhF b v' tv' k → RhF b v tv k ∨ w.heap.size ≤ k
  ot : Ot (RhF b v tv) w w'
theorem RhO.refl {w : World} {b : Nat} {p : HaC} {v tv : Value} {r : RhS} (h : RhP w b p v tv r) : RhO w b p v tv r w v tv := ⟨h, fun _ hk => Or.inl hk, Ot.refl _ _⟩
theorem RhO.trans {w w1 w2 : World} {b : Nat} {p : HaC} {v tv v1 tv1 v2 tv2 : Value} {r1 r2 : RhS} (h : RhO w b p v tv r1 w1 v1 tv1) (k : RhO w1 b p v1 tv1 r2 w2 v2 tv2) : RhO w b p v tv r2 w2 v2 tv2 := by
  have hs := h.ot.size
  refine ⟨k.pos, fun j hj => ?_, h.ot.trans' k.ot (fun j hj hlt => ?_)⟩
  · rcases k.own j hj with h1 | h1
    · exact h.own j h1
    · exact Or.inr (by omega)
  · rcases h.own j hj with h1 | h1
    · exact h1
    · omega
theorem RhO.below {w w1 w2 : World} {b : Nat} {p : HaC} {v tv v1 tv1 : Value} {r1 : RhS} (h : RhO w b p v tv r1 w1 v1 tv1) (hb : Below w1.heap.size w1 w2) : RhO w b p v tv r1 w2 v1 tv1 := h.trans ⟨h.pos.below hb, fun _ hk => Or.inl hk, Ot.of_below hb⟩
/-- Its block behind an append. -/
theorem RhP.mid {w1 W w8 : World} {b : Nat} {p : HaC} {v tv : Value} {r : RhS} {row : Option Nat} (h : RhP w1 b p v tv r) (hB : Below w1.heap.size w1 W) (hg : W.grownBy w8 row) (hr : row ≠ some b) : w8.heap[b]? = some (.cells #[.int .i64 p.many, .int .i64 p.salt, .int .i64 p.room, v, tv] 75 (0, 0)) := by
  have hb := h.lt
  have hs := hB.size
  rw [hg.block b (by omega) (fun e => hr e.symm), hB.block b hb]
  exact h.blk
/-- h.turn = append(h.turn, k). -/
theorem RhP.pushT {w1 W w8 : World} {b g off n cap : Nat} {p : HaC} {v tv : Value} {r : RhS} {tn' : List Int} (h : RhP w1 b p v tv r) (hB : Below w1.heap.size w1 W) (hg : W.grownBy w8 tv.ownBlock) (hs : Ins w8 (.slice (some ⟨g, off, none⟩) n cap) tn') (ha : tv.ownBlock = some g ∨ W.heap.size ≤ g) :
    RhO w1 b p v tv { r with tn := tn' } (w8.setCell ⟨b, 4, none⟩ (.slice (some ⟨g, off, none⟩) n cap)) v (.slice (some ⟨g, off, none⟩) n cap) := by
  have hb := h.lt
  have hsz := hB.size
  have hgb : g ≠ b := by
    rintro rfl
    rcases ha with h1 | h1
    · exact h.tne h1
    · omega
  have hvg : v.ownBlock ≠ some g := by
    intro e
    rcases ha with h1 | h1
    · exact h.dis g e h1
    · have := Seg.lt h.row e; omega
  have hblk := h.mid hB hg h.tne
  have hrow : Ps w8 v r.L := Seg.kept h.row (fun k hk => (hg.block k (by have := Seg.lt h.row hk; omega) (fun e => h.dis k hk e.symm)).trans (hB.block k (Seg.lt h.row hk)))
  refine ⟨⟨by rw [heap_setCell_here hblk]; simp, Seg.setCell (p := ⟨b, 4, none⟩) hrow h.ne _, Seg.setCell (p := ⟨b, 4, none⟩) hs (by simpa [Value.ownBlock] using hgb) _, h.ne, by simpa [Value.ownBlock] using hgb, fun k hk e => ?_⟩, fun k hk => ?_, ?_⟩
  · simp only [Value.ownBlock, Option.some.injEq] at e; subst e; exact hvg hk
  · rcases hk with rfl | hk | hk
    · exact Or.inl (Or.inl rfl)
    · exact Or.inl (Or.inr (Or.inl hk))
    · simp only [Value.ownBlock, Option.some.injEq] at hk
      subst hk
      rcases ha with h1 | h1
      · exact Or.inl (Or.inr (Or.inr h1))
      · exact Or.inr (by omega)
  · exact Ot.setCell (S := RhF b v tv) (p := ⟨b, 4, none⟩) (Ot.grown (row := tv.ownBlock) (Ot.of_below hB) hg (fun k e => Or.inl (Or.inr (Or.inr e)))) (Or.inl (Or.inl rfl)) _
/-- h.l = append(h.l, x). -/
theorem RhP.pushL {w1 W w8 : World} {b g off n cap : Nat} {p : HaC} {v tv : Value} {r : RhS} {L' : List Hd} (h : RhP w1 b p v tv r) (hB : Below w1.heap.size w1 W) (hg : W.grownBy w8 v.ownBlock) (hs : Ps w8 (.slice (some ⟨g, off, none⟩) n cap) L') (ha : v.ownBlock = some g ∨ W.heap.size ≤ g) :
    RhO w1 b p v tv { r with L := L' } (w8.setCell ⟨b, 3, none⟩ (.slice (some ⟨g, off, none⟩) n cap)) (.slice (some ⟨g, off, none⟩) n cap) tv := by
  have hb := h.lt
  have hsz := hB.size
  have hgb : g ≠ b := by
    rintro rfl
    rcases ha with h1 | h1
    · exact h.ne h1
    · omega
  have hvg : tv.ownBlock ≠ some g := by
    intro e
    rcases ha with h1 | h1
    · exact h.dis g h1 e
    · have := Seg.lt h.trow e; omega
  have hblk := h.mid hB hg h.ne
  have hrow : Ins w8 tv r.tn := Seg.kept h.trow (fun k hk => (hg.block k (by have := Seg.lt h.trow hk; omega) (fun e => h.dis k e.symm hk)).trans (hB.block k (Seg.lt h.trow hk)))
  refine ⟨⟨by rw [heap_setCell_here hblk]; simp, Seg.setCell (p := ⟨b, 3, none⟩) hs (by simpa [Value.ownBlock] using hgb) _, Seg.setCell (p := ⟨b, 3, none⟩) hrow h.tne _, by simpa [Value.ownBlock] using hgb, h.tne, fun k hk e => ?_⟩, fun k hk => ?_, ?_⟩
  · simp only [Value.ownBlock, Option.some.injEq] at hk; subst hk; exact hvg e
  · rcases hk with rfl | hk | hk
    · exact Or.inl (Or.inl rfl)
    · simp only [Value.ownBlock, Option.some.injEq] at hk
      subst hk
      rcases ha with h1 | h1
      · exact Or.inl (Or.inr (Or.inl h1))
      · exact Or.inr (by omega)
    · exact Or.inl (Or.inr (Or.inr hk))
  · exact Ot.setCell (S := RhF b v tv) (p := ⟨b, 3, none⟩) (Ot.grown (row := v.ownBlock) (Ot.of_below hB) hg (fun k e => Or.inl (Or.inr (Or.inl e)))) (Or.inl (Or.inl rfl)) _
/-- Its turns are a row of the call's own. -/
theorem RhP.newT {w1 w2 : World} {b : Nat} {p : HaC} {v tv tv' : Value} {r : RhS} {tn' : List Int} (h : RhP w1 b p v tv r) (hB : Below w1.heap.size w1 w2) (hs : Ins w2 tv' tn') (hn : ∀ k, tv'.ownBlock = some k → w1.heap.size ≤ k) : RhO w1 b p v tv { r with tn := tn' } (w2.setCell ⟨b, 4, none⟩ tv') v tv' := by
  have hb := h.lt
  refine ⟨(h.below hB).setT hs (fun e => by have := hn _ e; omega) (fun k hk e => by have := hn _ e; have := Seg.lt h.row hk; omega), fun k hk => ?_, Ot.setCell (S := RhF b v tv) (p := ⟨b, 4, none⟩) (Ot.of_below hB) (Or.inl (Or.inl rfl)) _⟩
  rcases hk with rfl | hk | hk
  · exact Or.inl (Or.inl rfl)
  · exact Or.inl (Or.inr (Or.inl hk))
  · exact Or.inr (hn k hk)
theorem RhO.of_out {w1 w2 : World} {b : Nat} {p : HaC} {v tv v' : Value} {r' : RhS} (h : RhP w2 b p v' tv r') (hn : ∀ k, v'.ownBlock = some k → w1.heap.size ≤ k) (ho : Ot (· = b) w1 w2) : RhO w1 b p v tv r' w2 v' tv := by
  refine ⟨h, fun k hk => ?_, ho.mono (fun k _ e => Or.inl e)⟩
  rcases hk with rfl | hk | hk
  · exact Or.inl (Or.inl rfl)
  · exact Or.inr (hn k hk)
  · exact Or.inl (Or.inr (Or.inr hk))
/-- A packet's block lies beside it. -/
def BxP (w : World) (B : Nat) (x : Hd) : Prop := w.heap[B]? = some (.cells #[.int .i64 x.a, .int .i64 x.l, .int .i64 x.f, .int .i64 x.b, .int .i64 x.m, .int .i64 x.n] 99 (0, 0))
/-- The same, and blocks that are its own apart. -/
structure RhM (w : World) (b : Nat) (p : HaC) (v tv : Value) (B : Nat) (x : Hd) (r' : RhS) (w' : World) (v' tv' : Value) : Prop where
  o : RhO w b p v tv r' w' v' tv'
  box : BxP w' B x
  nb : ¬ RhF b v' tv' B
theorem RhM.step {w w1 w2 : World} {b : Nat} {p : HaC} {v tv v1 tv1 v2 tv2 : Value} {B : Nat} {x : Hd} {r1 r2 : RhS} (h : RhM w b p v tv B x r1 w1 v1 tv1) (k : RhO w1 b p v1 tv1 r2 w2 v2 tv2) : RhM w b p v tv B x r2 w2 v2 tv2 := by
  have hB : B < w1.heap.size := lt_of_block h.box
  refine ⟨h.o.trans k, (k.ot.block B hB h.nb).trans h.box, fun e => ?_⟩
  rcases k.own B e with h1 | h1
  · exact h.nb h1
  · omega
theorem RhM.below {w w1 w2 : World} {b : Nat} {p : HaC} {v tv v1 tv1 : Value} {B : Nat} {x : Hd} {r1 : RhS} (h : RhM w b p v tv B x r1 w1 v1 tv1) (hb : Below w1.heap.size w1 w2) : RhM w b p v tv B x r1 w2 v1 tv1 := h.step ((RhO.refl h.o.pos).below hb)
theorem RhM.al {w : World} {b : Nat} {p : HaC} {v tv : Value} {r : RhS} (h : RhP w b p v tv r) (x : Hd) : RhM w b p v tv w.heap.size x r (w.alloc (.cells #[.int .i64 x.a, .int .i64 x.l, .int .i64 x.f, .int .i64 x.b, .int .i64 x.m, .int .i64 x.n] 99)) v tv :=
  ⟨(RhO.refl h).below (below_alloc_ (Below.refl _ _) _), new_block w _, fun hk => by have := h.low hk; omega⟩
theorem below_dr {w : World} (n : Nat) : Below w.heap.size w (w.drewN n) := ⟨rfl, rfl, rfl, Nat.le_refl _, fun _ _ => rfl⟩
/-- A row of ints of the call's own, and nothing below is otherwise. -/
structure OwI (B : Nat) (w : World) (u : Value) (L : List Int) (w' : World) : Prop where
  row : Ins w' u L
  new : ∀ k, u.ownBlock = some k → B ≤ k
  bel : Below B w w'
theorem OwI.app {B : Nat} {w w7 w8 : World} {u : Value} {L : List Int} {y : Int} {g off cap : Nat} {o : Obj} (h : OwI B w u L w7) (hB : B ≤ w7.heap.size) (hs : Seg w8 3 1 (.slice (some ⟨g, off, none⟩) (L.length + 1) cap) (L.length + 1) (L.map (Value.int .i64) ++ [.int .i64 y])) (hg : (w7.alloc o).grownBy w8 u.ownBlock) (ha : u.ownBlock = some g ∨ (w7.alloc o).heap.size ≤ g) : OwI B w (.slice (some ⟨g, off, none⟩) (L.length + 1) cap) (L ++ [y]) w8 := by
  refine ⟨by unfold Ins; simpa using hs, fun k hk => ?_, ?_⟩
  · simp only [Value.ownBlock, Option.some.injEq] at hk
    subst hk
    rcases ha with h1 | h1
    · exact h.new _ h1
    · simp at h1; omega
  · exact h.bel.trans (((Below.refl B w7).alloc hB o).grown hg (by simp; omega) (fun k hk => h.new k hk))
theorem filt_succ {l : List Int} {j : Nat} {y k : Int} (h : l[j]? = some y) : (l.take (j + 1)).filter (fun i => decide (i ≠ k)) = if y ≠ k then (l.take j).filter (fun i => decide (i ≠ k)) ++ [y] else (l.take j).filter (fun i => decide (i ≠ k)) := by
  rw [List.take_add_one, h, List.filter_append]
  by_cases e : y ≠ k
  · rw [if_pos e]; simp [e]
  · rw [if_neg e]; simp at e; simp [e]
theorem long_ne {p : HaC} {L : List Hd} {x : Hd} {mm : Nat} (hm0 : 1 ≤ p.many) (hm : p.many = (mm : Int)) (hx : x ∈ L) : ofL p L (longX p L mm : Nat) ≠ [] := by
  have hw := whereN_bd hm0 x.f
  have h1 := longK_max (fun i => ofL p L (i : Int)) mm (whereN p x.f).toNat (by omega)
  have h2 : x ∈ ofL p L (((whereN p x.f).toNat : Nat) : Int) := ofL_mem.2 ⟨hx, by omega⟩
  intro e
  have h3 : (ofL p L (((whereN p x.f).toNat : Nat) : Int)).length ≤ 0 := by
    have : (ofL p L ((longK (fun i => ofL p L (i : Int)) mm : Nat) : Int)).length = 0 := by rw [show longK (fun i => ofL p L (i : Int)) mm = longX p L mm from rfl, e]; rfl
    simpa [this] using h1
  have h4 : ofL p L (((whereN p x.f).toNat : Nat) : Int) = [] := List.eq_nil_of_length_eq_zero (by omega)
  rw [h4] at h2
  simp at h2
theorem last_at {M : List Hd} {l : Nat} (h : M.length = l + 1) : M[l]? = some (lsOr M) := by
  have hne : M ≠ [] := by intro e; rw [e] at h; simp at h
  have e := snoc_last hne
  have hl : M.dropLast.length = l := by rw [List.length_dropLast, h]; rfl
  rw [e, List.getElem?_append_right (by omega), hl]
  have : lsOr (M.dropLast ++ [lsOr M]) = lsOr M := by simp [lsOr]
  simp [this]
end Go.Proofs.YtejomfmbhifeaaaDoor
