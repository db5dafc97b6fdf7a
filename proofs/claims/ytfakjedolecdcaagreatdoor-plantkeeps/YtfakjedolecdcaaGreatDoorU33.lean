/-
  queue.List's Last, of a list that lies at a cell of a block; fair.Hashed's state and Where. Conditions: few packets, none of them long.
  fair.Hashed: its state, how it lies in memory, and what is left of it when a list or the row of turns is another one; Where. (mkhb.py writes this out of Fd and Fe, but for Where.)
  fair.Hashed's Len, Bytes and When; NewHashed. Conditions: few packets, none of them long.
  fair.Hashed's Take. Conditions: few packets, none of them long.
-/
import Derived.Test.YtfakjedolecdcaaGreatDoorU32
import Derived.BigQuiet
namespace Go.Proofs.YtfakjedolecdcaaGreatDoor
open Go.RowKit Go.Extern.Stop Go.Stop Go.Extern

theorem snoc_or (L : List Hd) : L = [] ∨ ∃ A x, L = A ++ [x] := by
  rcases List.eq_nil_or_concat L with h | ⟨A, x, h⟩
  · exact Or.inl h
  · exact Or.inr ⟨A, x, by rw [h]; simp⟩
/-- The last one, or nothing. -/
def lsOr (L : List Hd) : Hd := L.getLastD hd0
theorem Hs.init {w : World} {b off cap : Nat} {A : List Hd} {x : Hd} (h : Hs w (.slice (some ⟨b, off, none⟩) (A.length + 1) cap) (A ++ [x])) : Hs w (.slice (some ⟨b, off, none⟩) A.length cap) A := by
  have h' : Seg w 76 6 (.slice (some ⟨b, off, none⟩) (A.length + 1) cap) (A.length + 1) (flt Hd.cs (A ++ [x])) := by simpa [Hs] using h
  have := Seg.take h' (m := A.length) (by omega)
  rw [flt_take Hd.cs 6 Hd.len] at this
  unfold Hs
  simpa using this
set_option maxHeartbeats 1000000 in
theorem lastO_any {b n : Nat} {T : TypeId} {C : Nat → Value} {o : Nat} {v : Value} {L : List Hd} (w : World) (h : LO w b n T C o v L) (hF : Fit L) :
    Calls Tryz.prog 174 #[.pointer (some ⟨b, o, none⟩)] w fun e w' => e = .returned (.tuple #[(lsOr L).val, .bool (!L.isEmpty)]) ∧ ∃ v', LO w' b n T (updL C o v' L.dropLast) o v' L.dropLast ∧ v'.ownBlock = v.ownBlock ∧ Ot (· = b) w w' := by
  have H : Hid (LO w b n T C o v L) := h
  have hb := h.blk.lt
  obtain ⟨c0, c1, f0, f1⟩ := h.cells
  have hV := Hd.val_eq
  rcases snoc_or L with rfl | ⟨A, x, rfl⟩
  · obtain ⟨x, cap, rfl⟩ : ∃ x cap, v = .slice x 0 cap := by
      rcases h.row.form with ⟨rfl, h0, _⟩ | ⟨b, off, cap, rfl, _⟩
      · exact ⟨none, 0, rfl⟩
      · exact ⟨_, _, rfl⟩
    clear h
    go_enter Tryz.func174, Tryz.ntmps174
    go_wp2
    (try simp only [Exit.inBlock, Exit.then])
    refine bodyPost_ret (v := .tuple #[hd0.val, .bool false]) ?_ rfl ⟨rfl, _, H.out.same.below ?_, rfl, Ot.of_below ?_⟩
    · rw [results_cell_tmp rfl]
      go_simp
      exact ⟨rfl, rfl, rfl, rfl, rfl, rfl⟩
    all_goals repeat' (first | with_reducible exact Below.refl _ _ | with_reducible refine Below.setCell ?_ (by simp) _ | with_reducible refine below_alloc_ ?_ _)
  · obtain ⟨b1, off, cap, rfl, hn, hx, hlt, hc⟩ := h.row.some (by simp)
    have hat : ∀ j, j < 6 → (flt Hd.cs (A ++ [x]))[A.length * 6 + j]? = x.cs[j]? := fun j hj => flt_at Hd.cs 6 Hd.len (by simp) hj
    have k0 : w.cell? ⟨b1, off + A.length * 6, none⟩ = some (.int .i64 x.a) := hc _ _ (hat 0 (by omega))
    have k1 : w.cell? ⟨b1, off + A.length * 6 + 1, none⟩ = some (.int .i64 x.l) := hc _ _ (hat 1 (by omega))
    have k2 : w.cell? ⟨b1, off + A.length * 6 + 2, none⟩ = some (.int .i64 x.f) := hc _ _ (hat 2 (by omega))
    have k3 : w.cell? ⟨b1, off + A.length * 6 + 3, none⟩ = some (.int .i64 x.b) := hc _ _ (hat 3 (by omega))
    have k4 : w.cell? ⟨b1, off + A.length * 6 + 4, none⟩ = some (.int .i64 x.m) := hc _ _ (hat 4 (by omega))
    have k5 : w.cell? ⟨b1, off + A.length * 6 + 5, none⟩ = some (.int .i64 x.n) := hc _ _ (hat 5 (by omega))
    have hw : IntKind.i64.wrap (sumL (A ++ [x]) - x.l) = sumL A := by
      have h1 := Fit.sum hF.2
      have h4 := Fit.sum (L := A) (fun y hy => hF.2 y (by simp [hy]))
      have h3 := hF.1
      rw [IntKind.wrap_i64]
      rw [sumL_append] at h1 ⊢
      simp only [sumL, List.length_append, List.length_cons, List.length_nil] at h1 h3 ⊢
      omega
    have hne : b1 ≠ b := fun e => h.ne (by rw [e]; rfl)
    have hll : (A ++ [x]).length = A.length + 1 := by simp
    have H' : Hid (LO w b n T C o (.slice (some ⟨b1, off, none⟩) (A.length + 1) cap) (A ++ [x])) := by have := H.out; rw [hll] at this; exact this
    rw [hll] at c0 hn
    obtain ⟨an, han⟩ : ∃ an, A.length = an := ⟨_, rfl⟩
    have HAN : Hid (A.length = an) := han
    rw [han] at k0 k1 k2 k3 k4 k5 c0 hn
    have hmx : an + 1 ≤ 9223372036854775807 := by unfold maxLen at hx; omega
    clear h hc hat hll han H
    go_enter Tryz.func174, Tryz.ntmps174
    go_wp2
    all_goals go_region
    all_goals go_wp2
    all_goals (try simp only [Exit.inBlock, Exit.then])
    all_goals
      have e1 : lsOr (A ++ [x]) = x := by simp [lsOr]
      have e2 : (A ++ [x]).isEmpty = false := by simp
      have e3 : (A ++ [x]).dropLast = A := by simp
      rw [e1, e2, e3]
      have h1 := LO.set H'.out.blk H'.out.lt (v' := .slice (some ⟨b1, off, none⟩) A.length cap) (L' := A) H'.out.row.init (by simp [Value.ownBlock, hne])
      rw [HAN.out] at h1
      refine bodyPost_ret (v := .tuple #[x.val, .bool true]) ?_ rfl ⟨rfl, _, (h1.below (below_alloc_ (below_alloc_ (Below.refl _ _) _) _)).kept rfl (fun _ _ => rfl), rfl, ?_⟩
      · rw [results_cell_tmp rfl]
        go_simp
      · repeat' (first | with_reducible exact Ot.refl _ _ | with_reducible refine Ot.drew ?_ | with_reducible refine Ot.setCell ?_ (by simp) _ | with_reducible refine Ot.alloc ?_ _)
end Go.Proofs.YtfakjedolecdcaaGreatDoor
namespace Go.Proofs.YtfakjedolecdcaaGreatDoor
open Go.RowKit Go.Extern.Stop Go.Stop Go.Extern

/-- What a Hashed was made with. -/
structure HaC where
  many : Int
  salt : Int
  room : Int
/-- What a Hashed keeps: each list's packets; whose turn it is, one behind the other. -/
structure HaS where
  fl : Nat → List Hd
  tn : List Int
structure HaP (w : World) (b : Nat) (p : HaC) (C : Nat → Value) (vs : Nat → Value) (tv : Value) (s : HaS) : Prop where
  blk : Blk w b 132 158 C
  c0 : C 0 = .int .i64 p.many
  c1 : C 1 = .int .i64 p.salt
  c2 : C 2 = .int .i64 p.room
  cv : ∀ f, f < 64 → C (3 + f * 2) = vs f
  cs : ∀ f, f < 64 → C (3 + f * 2 + 1) = .int .i64 (sumL (s.fl f))
  ct : C 131 = tv
  row : ∀ f, f < 64 → Hs w (vs f) (s.fl f)
  vne : ∀ f, f < 64 → (vs f).ownBlock ≠ some b
  vdis : ∀ f g, f < 64 → g < 64 → f ≠ g → ∀ k, (vs f).ownBlock = some k → (vs g).ownBlock ≠ some k
  trow : Ins w tv s.tn
  tne : tv.ownBlock ≠ some b
  tdis : ∀ f, f < 64 → ∀ k, (vs f).ownBlock = some k → tv.ownBlock ≠ some k
/-- Its blocks. -/
def HaF (b : Nat) (vs : Nat → Value) (tv : Value) (k : Nat) : Prop := k = b ∨ (∃ f, f < 64 ∧ (vs f).ownBlock = some k) ∨ tv.ownBlock = some k
theorem HaP.kept {w w' : World} {b : Nat} {p : HaC} {C : Nat → Value} {vs : Nat → Value} {tv : Value} {s : HaS} (h : HaP w b p C vs tv s) (hk : ∀ k, HaF b vs tv k → w'.heap[k]? = w.heap[k]?) : HaP w' b p C vs tv s :=
  { h with
    blk := h.blk.kept (hk b (Or.inl rfl))
    row := fun f hf => (h.row f hf).kept (fun k hv => hk k (Or.inr (Or.inl ⟨f, hf, hv⟩)))
    trow := Seg.kept h.trow (fun k hv => hk k (Or.inr (Or.inr hv))) }
theorem HaP.low {w : World} {b : Nat} {p : HaC} {C : Nat → Value} {vs : Nat → Value} {tv : Value} {s : HaS} (h : HaP w b p C vs tv s) {k : Nat} (hk : HaF b vs tv k) : k < w.heap.size := by
  rcases hk with rfl | ⟨f, hf, hv⟩ | hv
  · exact h.blk.lt
  · exact (h.row f hf).lt hv
  · exact Seg.lt h.trow hv
theorem HaP.below {w w' : World} {b : Nat} {p : HaC} {C : Nat → Value} {vs : Nat → Value} {tv : Value} {s : HaS} (h : HaP w b p C vs tv s) (hb : Below w.heap.size w w') : HaP w' b p C vs tv s := h.kept (fun k hk => hb.block k (h.low hk))
theorem HaP.al {w : World} {b : Nat} {p : HaC} {C : Nat → Value} {vs : Nat → Value} {tv : Value} {s : HaS} (h : HaP w b p C vs tv s) (o : Obj) : HaP (w.alloc o) b p C vs tv s := h.below (below_alloc_ (Below.refl _ _) _)
theorem HaP.drewN {w : World} {b : Nat} {p : HaC} {C : Nat → Value} {vs : Nat → Value} {tv : Value} {s : HaS} (h : HaP w b p C vs tv s) (n : Nat) : HaP (w.drewN n) b p C vs tv s := h.kept (fun _ _ => rfl)
/-- Blocks that are not its own may be written. -/
theorem HaP.setO {w : World} {b : Nat} {p : HaC} {C : Nat → Value} {vs : Nat → Value} {tv : Value} {s : HaS} (h : HaP w b p C vs tv s) {a : Addr} (hp : ¬ HaF b vs tv a.block) (u : Value) : HaP (w.setCell a u) b p C vs tv s :=
  h.kept (fun _ hk => Below.heap_setCell _ _ _ _ (fun e => hp (e ▸ hk)))
/-- A flow's list, as a list in the block. -/
theorem HaP.list {w : World} {b : Nat} {p : HaC} {C : Nat → Value} {vs : Nat → Value} {tv : Value} {s : HaS} (h : HaP w b p C vs tv s) {f : Nat} (hf : f < 64) : LO w b 132 158 C (3 + f * 2) (vs f) (s.fl f) := ⟨h.blk, by omega, h.cv f hf, h.cs f hf, h.row f hf, h.vne f hf⟩
theorem HaP.turns {w : World} {b : Nat} {p : HaC} {C : Nat → Value} {vs : Nat → Value} {tv : Value} {s : HaS} (h : HaP w b p C vs tv s) : TO w b 132 158 C 131 tv s.tn := ⟨h.blk, by omega, h.ct, h.trow, h.tne⟩
/-- A flow's list is another one. -/
theorem HaP.listed {w w' : World} {b : Nat} {p : HaC} {C : Nat → Value} {vs : Nat → Value} {tv : Value} {s : HaS} (h : HaP w b p C vs tv s) {f : Nat} (hf : f < 64) {v' : Value} {L' : List Hd} (hl : LO w' b 132 158 (updL C (3 + f * 2) v' L') (3 + f * 2) v' L') (ho : ∀ k, v'.ownBlock = some k → (vs f).ownBlock = some k ∨ w.heap.size ≤ k) (hot : Ot (fun k => k = b ∨ (vs f).ownBlock = some k) w w') : HaP w' b p (updL C (3 + f * 2) v' L') (updF vs f v') tv { s with fl := updF s.fl f L' } where
  blk := hl.blk
  c0 := by rw [updL_ne (by omega) (by omega)]; exact h.c0
  c1 := by rw [updL_ne (by omega) (by omega)]; exact h.c1
  c2 := by rw [updL_ne (by omega) (by omega)]; exact h.c2
  cv := fun g hg => by
    by_cases e : g = f
    · subst e; rw [updL_0, updF_same]
    · rw [updL_ne (by omega) (by omega), updF_ne e]; exact h.cv g hg
  cs := fun g hg => by
    by_cases e : g = f
    · subst e; rw [updL_1]; show _ = Value.int .i64 (sumL (updF s.fl g L' g)); rw [updF_same]
    · rw [updL_ne (by omega) (by omega)]; show _ = Value.int .i64 (sumL (updF s.fl f L' g)); rw [updF_ne e]; exact h.cs g hg
  ct := by rw [updL_ne (by omega) (by omega)]; exact h.ct
  row := fun g hg => by
    by_cases e : g = f
    · subst e; show Hs w' (updF vs g v' g) (updF s.fl g L' g); rw [updF_same, updF_same]; exact hl.row
    · show Hs w' (updF vs f v' g) (updF s.fl f L' g); rw [updF_ne e, updF_ne e]
      refine Seg.oth (h.row g hg) hot (fun k hk hs => ?_)
      rcases hs with rfl | hs
      · exact h.vne g hg hk
      · exact h.vdis g f hg hf e k hk hs
  vne := fun g hg => by
    by_cases e : g = f
    · subst e; rw [updF_same]; exact hl.ne
    · rw [updF_ne e]; exact h.vne g hg
  vdis := fun g g' hg hg' hne k hk hk' => by
    by_cases e : g = f
    · subst e
      rw [updF_same] at hk
      rw [updF_ne (fun e => hne e.symm)] at hk'
      rcases ho k hk with h1 | h1
      · exact h.vdis g g' hg hg' hne k h1 hk'
      · have := (h.row g' hg').lt hk'; omega
    · rw [updF_ne e] at hk
      by_cases e' : g' = f
      · subst e'
        rw [updF_same] at hk'
        rcases ho k hk' with h1 | h1
        · exact h.vdis g g' hg hg' hne k hk h1
        · have := (h.row g hg).lt hk; omega
      · rw [updF_ne e'] at hk'
        exact h.vdis g g' hg hg' hne k hk hk'
  trow := Seg.oth h.trow hot (fun k hk hs => by
    rcases hs with rfl | hs
    · exact h.tne hk
    · exact h.tdis f hf k hs hk)
  tne := h.tne
  tdis := fun g hg k hk hk' => by
    by_cases e : g = f
    · subst e
      rw [updF_same] at hk
      rcases ho k hk with h1 | h1
      · exact h.tdis g hg k h1 hk'
      · have := Seg.lt h.trow hk'; omega
    · rw [updF_ne e] at hk
      exact h.tdis g hg k hk hk'
/-- The row of turns is another one. -/
theorem HaP.turned {w w' : World} {b : Nat} {p : HaC} {C : Nat → Value} {vs : Nat → Value} {tv tv' : Value} {s : HaS} {l : List Int} (h : HaP w b p C vs tv s) (hp : TPost w b 132 158 C 131 tv l w' tv') : HaP w' b p (updC C 131 tv') vs tv' { s with tn := l } where
  blk := hp.pos.blk
  c0 := by rw [updC_ne (by omega)]; exact h.c0
  c1 := by rw [updC_ne (by omega)]; exact h.c1
  c2 := by rw [updC_ne (by omega)]; exact h.c2
  cv := fun g hg => by rw [updC_ne (by omega)]; exact h.cv g hg
  cs := fun g hg => by rw [updC_ne (by omega)]; exact h.cs g hg
  ct := updC_same _ _ _
  row := fun g hg => Seg.oth (h.row g hg) hp.ot (fun k hk hs => by
    rcases hs with rfl | hs
    · exact h.vne g hg hk
    · exact h.tdis g hg k hk hs)
  vne := h.vne
  vdis := h.vdis
  trow := hp.pos.row
  tne := hp.pos.ne
  tdis := fun g hg k hk hk' => by
    rcases hp.own k hk' with h1 | h1
    · exact h.tdis g hg k hk h1
    · have := (h.row g hg).lt hk; omega
/-- What a method leaves of Rounds. -/
structure HaO (w : World) (b : Nat) (p : HaC) (vs : Nat → Value) (tv : Value) (s' : HaS) (w' : World) (C' : Nat → Value) (vs' : Nat → Value) (tv' : Value) : Prop where
  pos : HaP w' b p C' vs' tv' s'
  own : ∀ k, HaF b vs' tv' k → HaF b vs tv k ∨ w.heap.size ≤ k
  ot : Ot (HaF b vs tv) w w'
theorem HaO.trans {w w1 w2 : World} {b : Nat} {p : HaC} {vs vs1 vs2 : Nat → Value} {tv tv1 tv2 : Value} {s1 s2 : HaS} {C1 C2 : Nat → Value} (h : HaO w b p vs tv s1 w1 C1 vs1 tv1) (k : HaO w1 b p vs1 tv1 s2 w2 C2 vs2 tv2) : HaO w b p vs tv s2 w2 C2 vs2 tv2 := by
  have hs := h.ot.size
  refine ⟨k.pos, fun j hj => ?_, h.ot.trans' k.ot (fun j hj hlt => ?_)⟩
  · rcases k.own j hj with h1 | h1
    · exact h.own j h1
    · exact Or.inr (by omega)
  · rcases h.own j hj with h1 | h1
    · exact h1
    · omega
theorem hao_listed {w w' : World} {b : Nat} {p : HaC} {C : Nat → Value} {vs : Nat → Value} {tv : Value} {s : HaS} (h : HaP w b p C vs tv s) {f : Nat} (hf : f < 64) {v' : Value} {L' : List Hd} (hl : LO w' b 132 158 (updL C (3 + f * 2) v' L') (3 + f * 2) v' L') (ho : ∀ k, v'.ownBlock = some k → (vs f).ownBlock = some k ∨ w.heap.size ≤ k) (hot : Ot (fun k => k = b ∨ (vs f).ownBlock = some k) w w') : HaO w b p vs tv { s with fl := updF s.fl f L' } w' (updL C (3 + f * 2) v' L') (updF vs f v') tv := by
  refine ⟨h.listed hf hl ho hot, fun k hk => ?_, hot.mono (fun k _ hk => ?_)⟩
  · rcases hk with rfl | ⟨g, hg, hv⟩ | hv
    · exact Or.inl (Or.inl rfl)
    · by_cases e : g = f
      · subst e
        rw [updF_same] at hv
        rcases ho k hv with h1 | h1
        · exact Or.inl (Or.inr (Or.inl ⟨g, hg, h1⟩))
        · exact Or.inr h1
      · rw [updF_ne e] at hv
        exact Or.inl (Or.inr (Or.inl ⟨g, hg, hv⟩))
    · exact Or.inl (Or.inr (Or.inr hv))
  · rcases hk with h1 | h1
    · exact Or.inl h1
    · exact Or.inr (Or.inl ⟨f, hf, h1⟩)
theorem hao_turned {w w' : World} {b : Nat} {p : HaC} {C : Nat → Value} {vs : Nat → Value} {tv tv' : Value} {s : HaS} {l : List Int} (h : HaP w b p C vs tv s) (hp : TPost w b 132 158 C 131 tv l w' tv') : HaO w b p vs tv { s with tn := l } w' (updC C 131 tv') vs tv' := by
  refine ⟨h.turned hp, fun k hk => ?_, hp.ot.mono (fun k _ hk => ?_)⟩
  · rcases hk with h1 | h1 | h1
    · exact Or.inl (Or.inl h1)
    · exact Or.inl (Or.inr (Or.inl h1))
    · rcases hp.own k h1 with h2 | h2
      · exact Or.inl (Or.inr (Or.inr h2))
      · exact Or.inr h2
  · rcases hk with h1 | h1
    · exact Or.inl h1
    · exact Or.inr (Or.inr h1)
theorem hao_same {w w' : World} {b : Nat} {p : HaC} {C' : Nat → Value} {vs : Nat → Value} {tv : Value} {s' : HaS} (h' : HaP w' b p C' vs tv s') (ho : Ot (HaF b vs tv) w w') : HaO w b p vs tv s' w' C' vs tv := ⟨h', fun _ hk => Or.inl hk, ho⟩
/-- The list of a flow. -/
def whereN (p : HaC) (f : Int) : Int := (31 * (f % p.many) + 7 * p.salt + (f % p.many) * p.salt) % p.many
theorem whereN_bd {p : HaC} (h : 1 ≤ p.many) (f : Int) : 0 ≤ whereN p f ∧ whereN p f < p.many := ⟨Int.emod_nonneg _ (by omega), Int.emod_lt_of_pos _ (by omega)⟩
theorem HaP.heads {w : World} {b : Nat} {p : HaC} {C : Nat → Value} {vs : Nat → Value} {tv : Value} {s : HaS} (h : HaP w b p C vs tv s) : w.cell? ⟨b, 0, none⟩ = some (.int .i64 p.many) ∧ w.cell? ⟨b, 1, none⟩ = some (.int .i64 p.salt) ∧ w.cell? ⟨b, 2, none⟩ = some (.int .i64 p.room) := by
  have a0 := h.blk.cell (i := 0) (by omega)
  have a1 := h.blk.cell (i := 1) (by omega)
  have a2 := h.blk.cell (i := 2) (by omega)
  rw [h.c0] at a0
  rw [h.c1] at a1
  rw [h.c2] at a2
  exact ⟨a0.1, a1.1, a2.1⟩
set_option maxHeartbeats 1000000 in
theorem where_any {b : Nat} {p : HaC} {C : Nat → Value} {vs : Nat → Value} {tv : Value} {s : HaS} (f : Int) (w : World) (h : HaP w b p C vs tv s) (hm0 : 1 ≤ p.many) (hm1 : p.many ≤ 64) (hs0 : 0 ≤ p.salt) (hs1 : p.salt ≤ 1000000) (hf0 : 0 ≤ f) (hf1 : f ≤ 1000000) :
    Calls Tryz.prog 167 #[.pointer (some ⟨b, 0, none⟩), .int .i64 f] w fun e w' => e = .returned (.int .i64 (whereN p f)) ∧ ∃ n, w' = w.drewN n := by
  obtain ⟨c0, c1, c2⟩ := h.heads
  have hb := h.blk.lt
  clear h
  obtain ⟨m, sl, rm⟩ := p
  simp only at c0 c1 c2 hm0 hm1 hs0 hs1
  have hz : ¬ m = 0 := by omega
  have hz2 : (m == 0) = false := by simpa using hz
  have hr1 := Int.emod_nonneg f hz
  have hr2 := Int.emod_lt_of_pos f (show 0 < m by omega)
  have ht1 : f.tmod m = f % m := Int.tmod_eq_emod_of_nonneg hf0
  have HW : Hid (whereN ⟨m, sl, rm⟩ f = (31 * (f % m) + 7 * sl + (f % m) * sl) % m) := rfl
  generalize f % m = r at *
  have hrs : 0 ≤ r * sl ∧ r * sl ≤ 64 * 1000000 := ⟨Int.mul_nonneg hr1 hs0, Int.mul_le_mul (by omega) hs1 hs0 (by omega)⟩
  have ht2 : (31 * r + 7 * sl + r * sl).tmod m = (31 * r + 7 * sl + r * sl) % m := Int.tmod_eq_emod_of_nonneg (by omega)
  have k1 : IntKind.i64.wrap (31 * r) = 31 * r := by rw [IntKind.wrap_i64]; omega
  have k2 : IntKind.i64.wrap (7 * sl) = 7 * sl := by rw [IntKind.wrap_i64]; omega
  have k3 : IntKind.i64.wrap (31 * r + 7 * sl) = 31 * r + 7 * sl := by rw [IntKind.wrap_i64]; omega
  have k4 : IntKind.i64.wrap (r * sl) = r * sl := by rw [IntKind.wrap_i64]; omega
  have k5 : IntKind.i64.wrap (31 * r + 7 * sl + r * sl) = 31 * r + 7 * sl + r * sl := by rw [IntKind.wrap_i64]; omega
  rw [HW.out]
  obtain ⟨R, hR⟩ : ∃ R, (31 * r + 7 * sl + r * sl) % m = R := ⟨_, rfl⟩
  have hR1 := Int.emod_nonneg (31 * r + 7 * sl + r * sl) hz
  have hR2 := Int.emod_lt_of_pos (31 * r + 7 * sl + r * sl) (show 0 < m by omega)
  rw [hR] at ht2 hR1 hR2 ⊢
  have k6 : IntKind.i64.wrap R = R := by rw [IntKind.wrap_i64]; omega
  have k7 : IntKind.i64.wrap r = r := by rw [IntKind.wrap_i64]; omega
  clear hR HW hrs
  go_enter Tryz.func167, Tryz.ntmps167
  go_wp2
  go_quiet (fail)
  go_wp2
  go_ret
  exact ⟨rfl, _, rfl⟩
end Go.Proofs.YtfakjedolecdcaaGreatDoor
namespace Go.Proofs.YtfakjedolecdcaaGreatDoor
open Go.RowKit Go.Extern.Stop Go.Stop Go.Extern

theorem slice64 (b : Nat) (w : World) : (Instr.sliceAt 155 (.pointer (some ⟨b, 3, none⟩)) none none none).run Tryz.prog w = .ok (.slice (some ⟨b, 3, none⟩) 64 64) w := by kernel_rfl
theorem hlen_any {b : Nat} {p : HaC} {C : Nat → Value} {vs : Nat → Value} {tv : Value} {s : HaS} (w : World) (h : HaP w b p C vs tv s) (hF : Fit (allF s.fl 64)) :
    Calls Tryz.prog 161 #[.pointer (some ⟨b, 0, none⟩)] w fun e w' => e = .returned (.int .i64 (allF s.fl 64).length) ∧ w' = w := by
  have HQ := packs_any (o := 3) (n := 64) w (fun i hi => h.list hi) (by decide) hF
  have hsl := slice64 b
  have hb := h.blk.lt
  clear h
  go_enter Tryz.func161, Tryz.ntmps161
  go_wp2_with (go_at_call 166; refine HQ.mono ?_; rintro e w2 ⟨rfl, hw2⟩; subst hw2)
  go_ret
  exact ⟨rfl, rfl⟩
theorem hbts_any {b : Nat} {p : HaC} {C : Nat → Value} {vs : Nat → Value} {tv : Value} {s : HaS} (w : World) (h : HaP w b p C vs tv s) (hF : Fit (allF s.fl 64)) :
    Calls Tryz.prog 160 #[.pointer (some ⟨b, 0, none⟩)] w fun e w' => e = .returned (.int .i64 (sumL (allF s.fl 64))) ∧ w' = w := by
  have HQ := bytesF_any (o := 3) (n := 64) w (fun i hi => h.list hi) (by decide) hF
  have hsl := slice64 b
  have hb := h.blk.lt
  clear h
  go_enter Tryz.func160, Tryz.ntmps160
  go_wp2_with (go_at_call 165; refine HQ.mono ?_; rintro e w2 ⟨rfl, hw2⟩; subst hw2)
  go_ret
  exact ⟨rfl, rfl⟩
theorem HaP.row131 {w : World} {b : Nat} {p : HaC} {C : Nat → Value} {vs : Nat → Value} {tv : Value} {s : HaS} (h : HaP w b p C vs tv s) : w.cell? ⟨b, 131, none⟩ = some tv ∧ w.frozen? ⟨b, 131, none⟩ = false := by
  have a1 := h.blk.cell (i := 131) (by omega)
  rw [h.ct] at a1
  exact a1
theorem hwhen_any {b : Nat} {p : HaC} {C : Nat → Value} {vs : Nat → Value} {tv : Value} {s : HaS} (now : Int) (w : World) (h : HaP w b p C vs tv s) :
    Calls Tryz.prog 164 #[.pointer (some ⟨b, 0, none⟩), .int .i64 now] w fun e w' => e = .returned (.tuple #[.int .i64 now, .bool (!s.tn.isEmpty)]) ∧ w' = w := by
  have HQ := twhen_any now w h.trow
  obtain ⟨c131, f131⟩ := h.row131
  have hb := h.blk.lt
  obtain ⟨x, cap, hx⟩ := Ins.slice h.trow
  clear h
  subst hx
  go_enter Tryz.func164, Tryz.ntmps164
  go_wp2_with (go_at_call 173; refine HQ.mono ?_; rintro e w2 ⟨rfl, hw2⟩; subst hw2)
  go_ret2
  exact ⟨rfl, rfl⟩
end Go.Proofs.YtfakjedolecdcaaGreatDoor
namespace Go.Proofs.YtfakjedolecdcaaGreatDoor
open Go.RowKit Go.Extern.Stop Go.Stop Go.Extern

/-- What is taken: the first one of the list whose turn it is. -/
def takeH (s : HaS) : HaS × List Hd × Hd × Bool :=
  match s.tn with
  | [] => (s, [], hd0, false)
  | m :: B =>
    match s.fl m.toNat with
    | [] => (s, [], hd0, false)
    | x :: L => if m.toNat < 64 then ({ fl := updF s.fl m.toNat L, tn := if L.isEmpty then B else B ++ [m] }, [], x, true) else (s, [], hd0, false)
theorem hao_refl {w : World} {b : Nat} {p : HaC} {C : Nat → Value} {vs : Nat → Value} {tv : Value} {s : HaS} (h : HaP w b p C vs tv s) : HaO w b p vs tv s w C vs tv := ⟨h, fun _ hk => Or.inl hk, Ot.refl _ _⟩
/-- Six cells of a block that is not its own are written. -/
theorem hao_six {w w1 : World} {b : Nat} {p : HaC} {C1 : Nat → Value} {vs vs1 : Nat → Value} {tv tv1 : Value} {s : HaS} {r : Nat} (h : HaO w b p vs tv s w1 C1 vs1 tv1) (hr : ¬ HaF b vs1 tv1 r) (hr2 : w.heap.size ≤ r) (a0 a1 a2 a3 a4 a5 : Value) : HaO w b p vs tv s ((((((w1.setCell ⟨r, 0, none⟩ a0).setCell ⟨r, 1, none⟩ a1).setCell ⟨r, 2, none⟩ a2).setCell ⟨r, 3, none⟩ a3).setCell ⟨r, 4, none⟩ a4).setCell ⟨r, 5, none⟩ a5) C1 vs1 tv1 := by
  refine ⟨(((((h.pos.setO (a := ⟨r, 0, none⟩) hr _).setO (a := ⟨r, 1, none⟩) hr _).setO (a := ⟨r, 2, none⟩) hr _).setO (a := ⟨r, 3, none⟩) hr _).setO (a := ⟨r, 4, none⟩) hr _).setO (a := ⟨r, 5, none⟩) hr _, h.own, ?_⟩
  have hO := h.ot
  repeat' (first | with_reducible exact hO | with_reducible refine Ot.setCell ?_ (Or.inr hr2) _)
set_option maxRecDepth 20000 in
set_option maxHeartbeats 4000000 in
theorem htake_any {b : Nat} {p : HaC} {C : Nat → Value} {vs : Nat → Value} {tv : Value} {s : HaS} (now : Int) (w : World) (h : HaP w b p C vs tv s) (htn : ∀ m ∈ s.tn, 0 ≤ m ∧ m < 64 ∧ s.fl m.toNat ≠ []) (hnd : s.tn.Nodup) (hl : s.tn.length ≤ 1000) (hF : ∀ f, f < 64 → Fit (s.fl f)) :
    Calls Tryz.prog 163 #[.pointer (some ⟨b, 0, none⟩), .int .i64 now] w fun e w' => e = .returned (.tuple #[(takeH s).2.2.1.val, .slice none 0 0, .bool (takeH s).2.2.2]) ∧ ∃ C' vs' tv', HaO w b p vs tv (takeH s).1 w' C' vs' tv' := by
  have H : Hid (HaP w b p C vs tv s) := h
  have hb := h.blk.lt
  have hV := Hd.val_eq
  have HLW : Hid (∀ k, HaF b vs tv k → k < w.heap.size) := fun k hk => h.low hk
  have hnr0 : ¬ HaF b vs tv w.heap.size := fun hk => by have := h.low hk; omega
  have HNR0 : Hid (¬ HaF b vs tv w.heap.size) := hnr0
  clear h hnr0
  obtain ⟨W0, hW0⟩ : ∃ W0, w.alloc (.cells #[.int .i64 0, .int .i64 0, .int .i64 0, .int .i64 0, .int .i64 0, .int .i64 0] 76) = W0 := ⟨_, rfl⟩
  have HP0 : Hid (HaO w b p vs tv s W0 C vs tv) := by
    refine ⟨?_, fun _ hk => Or.inl hk, ?_⟩
    · rw [← hW0]; exact H.out.al _
    · rw [← hW0]; exact Ot.alloc (Ot.refl _ _) _
  have hs0 : W0.heap.size = w.heap.size + 1 := by rw [← hW0]; simp
  have HZ0 : Hid (W0.heap[w.heap.size]? = some (.cells #[.int .i64 0, .int .i64 0, .int .i64 0, .int .i64 0, .int .i64 0, .int .i64 0] 76 (0, 0))) := by show _ = _; rw [← hW0]; exact new_block w _
  obtain ⟨⟨z0, z1, z2, z3, z4, z5⟩, y0, y1, y2, y3, y4, y5⟩ := six HZ0.out
  obtain ⟨c131, f131⟩ := HP0.out.pos.row131
  have hb0 : b < W0.heap.size := by omega
  have hw0 : w.heap.size < W0.heap.size := by omega
  have HTF := tfirst_any W0 HP0.out.pos.trow
  obtain ⟨tx, tcap, htv⟩ := Ins.slice HP0.out.pos.trow
  obtain ⟨tl, htl⟩ : ∃ tl, s.tn.length = tl := ⟨_, rfl⟩
  rw [htl] at htv
  rw [htv] at HTF c131
  have HTV : Hid (tv = .slice tx tl tcap) := htv
  clear htv htl
  go_enter Tryz.func163, Tryz.ntmps163
  go_wp2_with (go_at_call 170; fail)
  refine HTF.mono ?_
  rintro e w1 ⟨rfl, hw1⟩
  subst hw1
  clear hW0 HTF
  cases ht : s.tn with
  | nil =>
    have HT : Hid (takeH s = (s, [], hd0, false)) := by show _ = _; unfold takeH; rw [ht]
    go_wp2
    (try simp only [Exit.inBlock, Exit.then])
    rw [HT.out]
    exact bodyPost_ret (v := .tuple #[hd0.val, .slice none 0 0, .bool false]) (ret_held2 rfl rfl (six_set HZ0.out _ _ _ _ _ _) rfl rfl) rfl ⟨rfl, C, vs, tv, hao_six HP0.out HNR0.out (Nat.le_refl _) _ _ _ _ _ _⟩
  | cons m B =>
    obtain ⟨k1, k2, k3⟩ := htn m (by rw [ht]; simp)
    obtain ⟨f, hf⟩ : ∃ f : Nat, m = f := ⟨m.toNat, by omega⟩
    subst hf
    have hf : f < 64 := by omega
    rw [Int.toNat_natCast] at k3
    obtain ⟨x, L, hL⟩ : ∃ x L, s.fl f = x :: L := by
      cases hL : s.fl f with
      | nil => exact absurd hL k3
      | cons x L => exact ⟨x, L, rfl⟩
    have hFf := hF f hf
    have hlo := HP0.out.pos.list hf
    rw [hL] at hFf hlo
    have HNX := nextO_any w1 hlo hFf
    rw [show hdOr (x :: L) = x from rfl] at HNX
    have HT : Hid (takeH s = ({ fl := updF s.fl f L, tn := if L.isEmpty then B else B ++ [(f : Int)] }, [], x, true)) := by show _ = _; unfold takeH; rw [ht]; simp only [Int.toNat_natCast, hL, if_pos hf]
    have HTN : Hid (s.tn = (f : Int) :: B) := ht
    have hB : (f : Int) ∉ B := by rw [ht, List.nodup_cons] at hnd; exact hnd.1
    have hlB : ([] ++ (f : Int) :: B).length ≤ 1000 := by rw [ht] at hl; exact hl
    clear ht hL k3 htn hnd hl hF hlo k1 k2
    go_wp2_with (go_at_call 145; fail)
    refine HNX.mono ?_
    rintro e w2 ⟨rfl, v2, hl2, hk2, ho2⟩
    have hR2 : HaO w b p vs tv { s with fl := updF s.fl f L } w2 (updL C (3 + f * 2) v2 L) (updF vs f v2) tv := HP0.out.trans (hao_listed HP0.out.pos hf hl2 (fun k hk => Or.inl (by rw [← hk2]; exact hk)) (ho2.mono (fun k _ e => Or.inl e)))
    have hz2 : w2.heap[w.heap.size]? = _ := (ho2.block _ hw0 (by omega)).trans HZ0.out
    have hnr2 : ¬ HaF b (updF vs f v2) tv w.heap.size := by
      intro hk
      rcases hk with h | ⟨g, hg, hv⟩ | h
      · omega
      · by_cases e : g = f
        · subst e; rw [updF_same, hk2] at hv; exact HNR0.out (Or.inr (Or.inl ⟨g, hg, hv⟩))
        · rw [updF_ne e] at hv; exact HNR0.out (Or.inr (Or.inl ⟨g, hg, hv⟩))
      · exact HNR0.out (Or.inr (Or.inr h))
    have HR2 : Hid (HaO w b p vs tv { s with fl := updF s.fl f L } w2 (updL C (3 + f * 2) v2 L) (updF vs f v2) tv) := hR2
    have HZ2 : Hid (w2.heap[w.heap.size]? = some (.cells #[.int .i64 0, .int .i64 0, .int .i64 0, .int .i64 0, .int .i64 0, .int .i64 0] 76 (0, 0))) := hz2
    have HNR2 : Hid (¬ HaF b (updF vs f v2) tv w.heap.size) := hnr2
    clear z0 z1 z2 z3 z4 z5 y0 y1 y2 y3 y4 y5 c131 f131 HNX hl2
    obtain ⟨⟨z0, z1, z2, z3, z4, z5⟩, y0, y1, y2, y3, y4, y5⟩ := six hz2
    have hb2 := hR2.pos.blk.lt
    have hw2' := lt_of_block hz2
    clear hR2 hz2 hnr2 ho2 hk2
    obtain ⟨W3, hW3⟩ : ∃ W3, ((((((w2.setCell ⟨w.heap.size, 0, none⟩ (.int .i64 x.a)).setCell ⟨w.heap.size, 1, none⟩ (.int .i64 x.l)).setCell ⟨w.heap.size, 2, none⟩ (.int .i64 x.f)).setCell ⟨w.heap.size, 3, none⟩ (.int .i64 x.b)).setCell ⟨w.heap.size, 4, none⟩ (.int .i64 x.m)).setCell ⟨w.heap.size, 5, none⟩ (.int .i64 x.n)) = W3 := ⟨_, rfl⟩
    have HR3 : Hid (HaO w b p vs tv { s with fl := updF s.fl f L } W3 (updL C (3 + f * 2) v2 L) (updF vs f v2) tv) := by show HaO _ _ _ _ _ _ _ _ _ _; rw [← hW3]; exact hao_six HR2.out HNR2.out (Nat.le_refl _) _ _ _ _ _ _
    have HZ3 : Hid (W3.heap[w.heap.size]? = some (.cells #[.int .i64 x.a, .int .i64 x.l, .int .i64 x.f, .int .i64 x.b, .int .i64 x.m, .int .i64 x.n] 76 (0, 0))) := by show _ = _; rw [← hW3]; exact six_set HZ2.out _ _ _ _ _ _
    have HLN := lenO_any W3 (HR3.out.pos.list hf)
    simp only [updF_same] at HLN
    have HTO : Hid (TO W3 b 132 158 (updL C (3 + f * 2) v2 L) 131 tv ([] ++ (f : Int) :: B)) := by
      have := HR3.out.pos.turns
      simp only [HTN.out] at this
      exact this
    have hb3 := HR3.out.pos.blk.lt
    have hw3 := lt_of_block HZ3.out
    have HEND : Hid (∀ (s' : HaS) (w4 : World) (tv4 : Value), TPost W3 b 132 158 (updL C (3 + f * 2) v2 L) 131 tv s'.tn w4 tv4 → s'.fl = updF s.fl f L → w4.heap[w.heap.size]? = some (.cells #[.int .i64 x.a, .int .i64 x.l, .int .i64 x.f, .int .i64 x.b, .int .i64 x.m, .int .i64 x.n] 76 (0, 0)) ∧ ∀ (a0 a1 a2 a3 a4 a5 : Value), ∃ C' vs' tv', HaO w b p vs tv s' ((((((w4.setCell ⟨w.heap.size, 0, none⟩ a0).setCell ⟨w.heap.size, 1, none⟩ a1).setCell ⟨w.heap.size, 2, none⟩ a2).setCell ⟨w.heap.size, 3, none⟩ a3).setCell ⟨w.heap.size, 4, none⟩ a4).setCell ⟨w.heap.size, 5, none⟩ a5) C' vs' tv') := by
      intro s' w4 tv4 hp4 hfl
      obtain ⟨fl', tn'⟩ := s'
      simp only at hfl
      subst hfl
      have h1 := hao_turned HR3.out.pos hp4
      have h2 := HR3.out.trans h1
      refine ⟨(hp4.ot.block _ hw3 (fun e => ?_)).trans HZ3.out, fun a0 a1 a2 a3 a4 a5 => ⟨_, _, _, hao_six h2 (fun hk => ?_) (Nat.le_refl _) _ _ _ _ _ _⟩⟩
      · rcases e with e | e
        · exact HNR2.out (Or.inl e)
        · exact HNR2.out (Or.inr (Or.inr e))
      · rcases h1.own _ hk with h | h
        · exact HNR2.out h
        · omega
    go_wp2_with (go_at_call 139; fail)
    refine HLN.mono ?_
    rintro e w4 ⟨rfl, hw4⟩
    subst hw4
    clear hW3 z0 z1 z2 z3 z4 z5 y0 y1 y2 y3 y4 y5 HLN
    cases L with
    | nil =>
      have HLV := leave_any [] B (f : Int) w4 HTO.out (by simp) hB hlB
      go_wp2_with (go_at_call 171; fail)
      refine HLV.mono ?_
      rintro e w5 ⟨rfl, tv5, hp5⟩
      obtain ⟨hz5, hend⟩ := HEND.out { fl := updF s.fl f [], tn := B } w5 tv5 hp5 rfl
      obtain ⟨⟨z0, z1, z2, z3, z4, z5⟩, y0, y1, y2, y3, y4, y5⟩ := six hz5
      have hw5 := lt_of_block hz5
      go_wp2
      (try simp only [Exit.inBlock, Exit.then])
      rw [HT.out]
      exact bodyPost_ret (v := .tuple #[x.val, .slice none 0 0, .bool true]) (ret_held2 rfl rfl (six_set hz5 _ _ _ _ _ _) rfl rfl) rfl ⟨rfl, hend _ _ _ _ _ _⟩
    | cons y L' =>
      have HLV := fpass_any [] B (f : Int) w4 HTO.out (by simp) hB hlB
      have hne : (((L'.length : Int) + 1) == 0) = false := by simp; omega
      go_wp2_with (go_at_call 172; fail)
      refine HLV.mono ?_
      rintro e w5 ⟨rfl, tv5, hp5⟩
      obtain ⟨hz5, hend⟩ := HEND.out { fl := updF s.fl f (y :: L'), tn := B ++ [(f : Int)] } w5 tv5 hp5 rfl
      obtain ⟨⟨z0, z1, z2, z3, z4, z5⟩, y0, y1, y2, y3, y4, y5⟩ := six hz5
      have hw5 := lt_of_block hz5
      go_wp2
      (try simp only [Exit.inBlock, Exit.then])
      rw [HT.out]
      exact bodyPost_ret (v := .tuple #[x.val, .slice none 0 0, .bool true]) (ret_held2 rfl rfl (six_set hz5 _ _ _ _ _ _) rfl rfl) rfl ⟨rfl, hend _ _ _ _ _ _⟩
end Go.Proofs.YtfakjedolecdcaaGreatDoor
