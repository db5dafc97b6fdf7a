/-
  fair.Rounds: its state, how it lies in memory, and what is left of it when a cell, a list or the row of turns is another one. Nothing of the program is claimed here by itself.
-/
import Derived.Test.YtejomfmbhifeaaaDoorFc
namespace Go.Proofs.YtejomfmbhifeaaaDoor
open Go.RowKit Go.Extern.Stop Go.Stop Go.Extern

def updF {α : Type} (g : Nat → α) (i : Nat) (x : α) : Nat → α := fun j => if j = i then x else g j
theorem updF_same {α : Type} (g : Nat → α) (i : Nat) (x : α) : updF g i x i = x := by simp [updF]
theorem updF_ne {α : Type} {g : Nat → α} {i j : Nat} {x : α} (h : j ≠ i) : updF g i x j = g j := by simp [updF, h]
/-- What Rounds keep: each flow's packets, its credit; whose turn it is, one behind the other; whether the first one's has begun. -/
structure RnS where
  fl : Nat → List Hd
  cr : Nat → Int
  tn : List Int
  bg : Bool
structure RnP (w : World) (b : Nat) (room : Int) (q : Nat → Int) (C : Nat → Value) (vs : Nat → Value) (tv : Value) (s : RnS) : Prop where
  blk : Blk w b 67 116 C
  c0 : C 0 = .int .i64 room
  cq : ∀ f, f < 16 → C (1 + f) = .int .i64 (q f)
  cc : ∀ f, f < 16 → C (17 + f) = .int .i64 (s.cr f)
  cv : ∀ f, f < 16 → C (33 + f * 2) = vs f
  cs : ∀ f, f < 16 → C (33 + f * 2 + 1) = .int .i64 (sumL (s.fl f))
  ct : C 65 = tv
  cb : C 66 = .bool s.bg
  row : ∀ f, f < 16 → Hs w (vs f) (s.fl f)
  vne : ∀ f, f < 16 → (vs f).ownBlock ≠ some b
  vdis : ∀ f g, f < 16 → g < 16 → f ≠ g → ∀ k, (vs f).ownBlock = some k → (vs g).ownBlock ≠ some k
  trow : Ins w tv s.tn
  tne : tv.ownBlock ≠ some b
  tdis : ∀ f, f < 16 → ∀ k, (vs f).ownBlock = some k → tv.ownBlock ≠ some k
/-- Its blocks. -/
def RnF (b : Nat) (vs : Nat → Value) (tv : Value) (k : Nat) : Prop := k = b ∨ (∃ f, f < 16 ∧ (vs f).ownBlock = some k) ∨ tv.ownBlock = some k
theorem RnP.kept {w w' : World} {b : Nat} {room : Int} {q : Nat → Int} {C : Nat → Value} {vs : Nat → Value} {tv : Value} {s : RnS} (h : RnP w b room q C vs tv s) (hk : ∀ k, RnF b vs tv k → w'.heap[k]? = w.heap[k]?) : RnP w' b room q C vs tv s :=
  { h with
    blk := h.blk.kept (hk b (Or.inl rfl))
    row := fun f hf => (h.row f hf).kept (fun k hv => hk k (Or.inr (Or.inl ⟨f, hf, hv⟩)))
    trow := Seg.kept h.trow (fun k hv => hk k (Or.inr (Or.inr hv))) }
theorem RnP.low {w : World} {b : Nat} {room : Int} {q : Nat → Int} {C : Nat → Value} {vs : Nat → Value} {tv : Value} {s : RnS} (h : RnP w b room q C vs tv s) {k : Nat} (hk : RnF b vs tv k) : k < w.heap.size := by
  rcases hk with rfl | ⟨f, hf, hv⟩ | hv
  · exact h.blk.lt
  · exact (h.row f hf).lt hv
  · exact Seg.lt h.trow hv
theorem RnP.below {w w' : World} {b : Nat} {room : Int} {q : Nat → Int} {C : Nat → Value} {vs : Nat → Value} {tv : Value} {s : RnS} (h : RnP w b room q C vs tv s) (hb : Below w.heap.size w w') : RnP w' b room q C vs tv s := h.kept (fun k hk => hb.block k (h.low hk))
theorem RnP.al {w : World} {b : Nat} {room : Int} {q : Nat → Int} {C : Nat → Value} {vs : Nat → Value} {tv : Value} {s : RnS} (h : RnP w b room q C vs tv s) (o : Obj) : RnP (w.alloc o) b room q C vs tv s := h.below (below_alloc_ (Below.refl _ _) _)
theorem RnP.drewN {w : World} {b : Nat} {room : Int} {q : Nat → Int} {C : Nat → Value} {vs : Nat → Value} {tv : Value} {s : RnS} (h : RnP w b room q C vs tv s) (n : Nat) : RnP (w.drewN n) b room q C vs tv s := h.kept (fun _ _ => rfl)
/-- Blocks that are not its own may be written. -/
theorem RnP.setO {w : World} {b : Nat} {room : Int} {q : Nat → Int} {C : Nat → Value} {vs : Nat → Value} {tv : Value} {s : RnS} (h : RnP w b room q C vs tv s) {p : Addr} (hp : ¬ RnF b vs tv p.block) (u : Value) : RnP (w.setCell p u) b room q C vs tv s :=
  h.kept (fun _ hk => Below.heap_setCell _ _ _ _ (fun e => hp (e ▸ hk)))
/-- A cell of its own is written. -/
theorem RnP.setB {w : World} {b : Nat} {room : Int} {q : Nat → Int} {C : Nat → Value} {vs : Nat → Value} {tv : Value} {s : RnS} (h : RnP w b room q C vs tv s) (x : Bool) : RnP (w.setCell ⟨b, 66, none⟩ (.bool x)) b room q (updC C 66 (.bool x)) vs tv { s with bg := x } where
  blk := h.blk.set 66 _
  c0 := by rw [updC_ne (by omega)]; exact h.c0
  cq := fun f hf => by rw [updC_ne (by omega)]; exact h.cq f hf
  cc := fun f hf => by rw [updC_ne (by omega)]; exact h.cc f hf
  cv := fun f hf => by rw [updC_ne (by omega)]; exact h.cv f hf
  cs := fun f hf => by rw [updC_ne (by omega)]; exact h.cs f hf
  ct := by rw [updC_ne (by omega)]; exact h.ct
  cb := updC_same _ _ _
  row := fun f hf => (h.row f hf).setCell (p := ⟨b, 66, none⟩) (h.vne f hf) _
  vne := h.vne
  vdis := h.vdis
  trow := Seg.setCell (p := ⟨b, 66, none⟩) h.trow h.tne _
  tne := h.tne
  tdis := h.tdis
theorem RnP.setC {w : World} {b : Nat} {room : Int} {q : Nat → Int} {C : Nat → Value} {vs : Nat → Value} {tv : Value} {s : RnS} (h : RnP w b room q C vs tv s) {f : Nat} (hf : f < 16) (x : Int) : RnP (w.setCell ⟨b, 17 + f, none⟩ (.int .i64 x)) b room q (updC C (17 + f) (.int .i64 x)) vs tv { s with cr := updF s.cr f x } where
  blk := h.blk.set _ _
  c0 := by rw [updC_ne (by omega)]; exact h.c0
  cq := fun g hg => by rw [updC_ne (by omega)]; exact h.cq g hg
  cc := fun g hg => by
    by_cases e : g = f
    · subst e; rw [updC_same]; show _ = Value.int .i64 (updF s.cr g x g); rw [updF_same]
    · rw [updC_ne (by omega)]; show _ = Value.int .i64 (updF s.cr f x g); rw [updF_ne e]; exact h.cc g hg
  cv := fun g hg => by rw [updC_ne (by omega)]; exact h.cv g hg
  cs := fun g hg => by rw [updC_ne (by omega)]; exact h.cs g hg
  ct := by rw [updC_ne (by omega)]; exact h.ct
  cb := by rw [updC_ne (by omega)]; exact h.cb
  row := fun g hg => (h.row g hg).setCell (p := ⟨b, 17 + f, none⟩) (h.vne g hg) _
  vne := h.vne
  vdis := h.vdis
  trow := Seg.setCell (p := ⟨b, 17 + f, none⟩) h.trow h.tne _
  tne := h.tne
  tdis := h.tdis
/-- A flow's list, as a list in the block. -/
theorem RnP.list {w : World} {b : Nat} {room : Int} {q : Nat → Int} {C : Nat → Value} {vs : Nat → Value} {tv : Value} {s : RnS} (h : RnP w b room q C vs tv s) {f : Nat} (hf : f < 16) : LO w b 67 116 C (33 + f * 2) (vs f) (s.fl f) := ⟨h.blk, by omega, h.cv f hf, h.cs f hf, h.row f hf, h.vne f hf⟩
theorem RnP.turns {w : World} {b : Nat} {room : Int} {q : Nat → Int} {C : Nat → Value} {vs : Nat → Value} {tv : Value} {s : RnS} (h : RnP w b room q C vs tv s) : TO w b 67 116 C 65 tv s.tn := ⟨h.blk, by omega, h.ct, h.trow, h.tne⟩
/-- A flow's list is another one. -/
theorem RnP.listed {w w' : World} {b : Nat} {room : Int} {q : Nat → Int} {C : Nat → Value} {vs : Nat → Value} {tv : Value} {s : RnS} (h : RnP w b room q C vs tv s) {f : Nat} (hf : f < 16) {v' : Value} {L' : List Hd} (hl : LO w' b 67 116 (updL C (33 + f * 2) v' L') (33 + f * 2) v' L') (ho : ∀ k, v'.ownBlock = some k → (vs f).ownBlock = some k ∨ w.heap.size ≤ k) (hot : Ot (fun k => k = b ∨ (vs f).ownBlock = some k) w w') : RnP w' b room q (updL C (33 + f * 2) v' L') (updF vs f v') tv { s with fl := updF s.fl f L' } where
  blk := hl.blk
  c0 := by rw [updL_ne (by omega) (by omega)]; exact h.c0
  cq := fun g hg => by rw [updL_ne (by omega) (by omega)]; exact h.cq g hg
  cc := fun g hg => by rw [updL_ne (by omega) (by omega)]; exact h.cc g hg
  cv := fun g hg => by
    by_cases e : g = f
    · subst e; rw [updL_0, updF_same]
    · rw [updL_ne (by omega) (by omega), updF_ne e]; exact h.cv g hg
  cs := fun g hg => by
    by_cases e : g = f
    · subst e; rw [updL_1]; show _ = Value.int .i64 (sumL (updF s.fl g L' g)); rw [updF_same]
    · rw [updL_ne (by omega) (by omega)]; show _ = Value.int .i64 (sumL (updF s.fl f L' g)); rw [updF_ne e]; exact h.cs g hg
  ct := by rw [updL_ne (by omega) (by omega)]; exact h.ct
  cb := by rw [updL_ne (by omega) (by omega)]; exact h.cb
  row := fun g hg => by
    by_cases e : g = f
    · subst e; show Hs w' (updF vs g v' g) (updF s.fl g L' g); rw [updF_same, updF_same]; exact hl.row
    · show Hs w' (updF vs f v' g) (updF s.fl f L' g); rw [updF_ne e, updF_ne e]
      refine Seg.oth (h.row g hg) hot (fun k hk hs => ?_)
      rcases hs with rfl | hs
      · exact h.vne g hg hk
      · exact h.vdis g f hg hf e k hk hs
  vne := fun g hg => by
    by_cases e : g = f
    · subst e; rw [updF_same]; exact hl.ne
    · rw [updF_ne e]; exact h.vne g hg
  vdis := fun g g' hg hg' hne k hk hk' => by
    by_cases e : g = f
    · subst e
      rw [updF_same] at hk
      rw [updF_ne (fun e => hne e.symm)] at hk'
      rcases ho k hk with h1 | h1
      · exact h.vdis g g' hg hg' hne k h1 hk'
      · have := (h.row g' hg').lt hk'; omega
    · rw [updF_ne e] at hk
      by_cases e' : g' = f
      · subst e'
        rw [updF_same] at hk'
        rcases ho k hk' with h1 | h1
        · exact h.vdis g g' hg hg' hne k hk h1
        · have := (h.row g hg).lt hk; omega
      · rw [updF_ne e'] at hk'
        exact h.vdis g g' hg hg' hne k hk hk'
  trow := Seg.oth h.trow hot (fun k hk hs => by
    rcases hs with rfl | hs
    · exact h.tne hk
    · exact h.tdis f hf k hs hk)
  tne := h.tne
  tdis := fun g hg k hk hk' => by
    by_cases e : g = f
    · subst e
      rw [updF_same] at hk
      rcases ho k hk with h1 | h1
      · exact h.tdis g hg k h1 hk'
      · have := Seg.lt h.trow hk'; omega
    · rw [updF_ne e] at hk
      exact h.tdis g hg k hk hk'
/-- The row of turns is another one. -/
theorem RnP.turned {w w' : World} {b : Nat} {room : Int} {q : Nat → Int} {C : Nat → Value} {vs : Nat → Value} {tv tv' : Value} {s : RnS} {l : List Int} (h : RnP w b room q C vs tv s) (hp : TPost w b 67 116 C 65 tv l w' tv') : RnP w' b room q (updC C 65 tv') vs tv' { s with tn := l } where
  blk := hp.pos.blk
  c0 := by rw [updC_ne (by omega)]; exact h.c0
  cq := fun g hg => by rw [updC_ne (by omega)]; exact h.cq g hg
  cc := fun g hg => by rw [updC_ne (by omega)]; exact h.cc g hg
  cv := fun g hg => by rw [updC_ne (by omega)]; exact h.cv g hg
  cs := fun g hg => by rw [updC_ne (by omega)]; exact h.cs g hg
  ct := updC_same _ _ _
  cb := by rw [updC_ne (by omega)]; exact h.cb
  row := fun g hg => Seg.oth (h.row g hg) hp.ot (fun k hk hs => by
    rcases hs with rfl | hs
    · exact h.vne g hg hk
    · exact h.tdis g hg k hk hs)
  vne := h.vne
  vdis := h.vdis
  trow := hp.pos.row
  tne := hp.pos.ne
  tdis := fun g hg k hk hk' => by
    rcases hp.own k hk' with h1 | h1
    · exact h.tdis g hg k hk h1
    · have := (h.row g hg).lt hk; omega
end Go.Proofs.YtejomfmbhifeaaaDoor
