/-
  A block by its cells; a list anywhere in a block: what Len, Bytes, First, Next and Add return, what each leaves. Conditions: the list lies in memory; its bytes are few.
  fair.turns: what join, first, leave and pass do. Conditions: the row of numbers lies in memory, each number stands in it once, few of them.
  fair.turns: what leave and pass do, and slices.DeleteFunc beneath them. Conditions: the row of numbers lies in memory, the number stands in it just once, few of them.
  fair.Rounds: its state, how it lies in memory, and what is left of it when a cell, a list or the row of turns is another one. Nothing of the program is claimed here by itself.
-/
import Derived.Test.YtfakjedolecdcaaGreatDoorGc
import Derived.Test.YtfakjedolecdcaaGreatDoorGr
import Derived.Lib.SliceRun
namespace Go.Proofs.YtfakjedolecdcaaGreatDoor
open Go.RowKit Go.Extern.Stop Go.Stop Go.Extern

/-- A cell is another one. -/
def updC (C : Nat → Value) (i : Nat) (u : Value) : Nat → Value := fun j => if j = i then u else C j
theorem updC_same (C : Nat → Value) (i : Nat) (u : Value) : updC C i u i = u := by simp [updC]
theorem updC_ne {C : Nat → Value} {i j : Nat} {u : Value} (h : j ≠ i) : updC C i u j = C j := by simp [updC, h]
/-- Block b has n cells, C. -/
def Blk (w : World) (b n : Nat) (T : TypeId) (C : Nat → Value) : Prop := ∃ cur : Array Value, w.heap[b]? = some (.cells cur T (0, 0)) ∧ cur.size = n ∧ ∀ i, i < n → cur[i]? = some (C i)
theorem Blk.lt {w : World} {b n : Nat} {T : TypeId} {C : Nat → Value} (h : Blk w b n T C) : b < w.heap.size := by
  obtain ⟨cur, h1, _⟩ := h
  exact lt_of_block h1
theorem Blk.cell {w : World} {b n : Nat} {T : TypeId} {C : Nat → Value} (h : Blk w b n T C) {i : Nat} (hi : i < n) : w.cell? ⟨b, i, none⟩ = some (C i) ∧ w.frozen? ⟨b, i, none⟩ = false := by
  obtain ⟨cur, h1, _, h3⟩ := h
  constructor
  · simp only [World.cell?, h1]; exact h3 i hi
  · simp [World.frozen?, h1]
theorem Blk.kept {w w' : World} {b n : Nat} {T : TypeId} {C : Nat → Value} (h : Blk w b n T C) (hb : w'.heap[b]? = w.heap[b]?) : Blk w' b n T C := by
  obtain ⟨cur, h1, h2⟩ := h
  exact ⟨cur, hb.trans h1, h2⟩
theorem Blk.cong {w : World} {b n : Nat} {T : TypeId} {C C' : Nat → Value} (h : Blk w b n T C) (he : ∀ i, i < n → C' i = C i) : Blk w b n T C' := by
  obtain ⟨cur, h1, h2, h3⟩ := h
  exact ⟨cur, h1, h2, fun i hi => by rw [he i hi]; exact h3 i hi⟩
theorem Blk.set {w : World} {b n : Nat} {T : TypeId} {C : Nat → Value} (h : Blk w b n T C) (i : Nat) (u : Value) : Blk (w.setCell ⟨b, i, none⟩ u) b n T (updC C i u) := by
  obtain ⟨cur, h1, h2, h3⟩ := h
  refine ⟨cur.setIfInBounds i u, heap_setCell_here h1 u, by simp [h2], fun j hj => ?_⟩
  by_cases e : j = i
  · subst e
    rw [updC_same, Array.getElem?_setIfInBounds_self_of_lt (by omega)]
  · rw [updC_ne e, Array.getElem?_setIfInBounds_ne (fun x => e x.symm)]
    exact h3 j hj
/-- A list at cell o of a block. -/
structure LO (w : World) (b n : Nat) (T : TypeId) (C : Nat → Value) (o : Nat) (v : Value) (L : List Hd) : Prop where
  blk : Blk w b n T C
  lt : o + 1 < n
  c0 : C o = v
  c1 : C (o + 1) = .int .i64 (sumL L)
  row : Hs w v L
  ne : v.ownBlock ≠ some b
/-- Its two cells are others. -/
def updL (C : Nat → Value) (o : Nat) (v : Value) (L : List Hd) : Nat → Value := updC (updC C o v) (o + 1) (.int .i64 (sumL L))
theorem updL_ne {C : Nat → Value} {o j : Nat} {v : Value} {L : List Hd} (h : j ≠ o) (h' : j ≠ o + 1) : updL C o v L j = C j := by rw [updL, updC_ne h', updC_ne h]
theorem updL_0 (C : Nat → Value) (o : Nat) (v : Value) (L : List Hd) : updL C o v L o = v := by rw [updL, updC_ne (by omega), updC_same]
theorem updL_1 (C : Nat → Value) (o : Nat) (v : Value) (L : List Hd) : updL C o v L (o + 1) = .int .i64 (sumL L) := by rw [updL, updC_same]
theorem LO.cells {w : World} {b n : Nat} {T : TypeId} {C : Nat → Value} {o : Nat} {v : Value} {L : List Hd} (h : LO w b n T C o v L) : w.cell? ⟨b, o, none⟩ = some v ∧ w.cell? ⟨b, o + 1, none⟩ = some (.int .i64 (sumL L)) ∧ w.frozen? ⟨b, o, none⟩ = false ∧ w.frozen? ⟨b, o + 1, none⟩ = false := by
  have h0 := h.blk.cell (i := o) (by have := h.lt; omega)
  have h1 := h.blk.cell (i := o + 1) h.lt
  rw [h.c0] at h0
  rw [h.c1] at h1
  exact ⟨h0.1, h1.1, h0.2, h1.2⟩
theorem LO.same {w : World} {b n : Nat} {T : TypeId} {C : Nat → Value} {o : Nat} {v : Value} {L : List Hd} (h : LO w b n T C o v L) : LO w b n T (updL C o v L) o v L := by
  refine ⟨h.blk.cong (fun i _ => ?_), h.lt, updL_0 _ _ _ _, updL_1 _ _ _ _, h.row, h.ne⟩
  by_cases e0 : i = o
  · subst e0; rw [updL_0, h.c0]
  · by_cases e1 : i = o + 1
    · subst e1; rw [updL_1, h.c1]
    · exact updL_ne e0 e1
theorem LO.kept {w w' : World} {b n : Nat} {T : TypeId} {C : Nat → Value} {o : Nat} {v : Value} {L : List Hd} (h : LO w b n T C o v L) (hb : w'.heap[b]? = w.heap[b]?) (hv : ∀ k, v.ownBlock = some k → w'.heap[k]? = w.heap[k]?) : LO w' b n T C o v L := ⟨h.blk.kept hb, h.lt, h.c0, h.c1, h.row.kept hv, h.ne⟩
theorem LO.below {w w' : World} {b n : Nat} {T : TypeId} {C : Nat → Value} {o : Nat} {v : Value} {L : List Hd} (h : LO w b n T C o v L) (hb : Below w.heap.size w w') : LO w' b n T C o v L := h.kept (hb.block b h.blk.lt) (fun k hk => hb.block k (h.row.lt hk))
theorem LO.ot {S : Nat → Prop} {w w' : World} {b n : Nat} {T : TypeId} {C : Nat → Value} {o : Nat} {v : Value} {L : List Hd} (h : LO w b n T C o v L) (ho : Ot S w w') (hb : ¬ S b) (hv : ∀ k, v.ownBlock = some k → ¬ S k) : LO w' b n T C o v L := h.kept (ho.block b h.blk.lt hb) (fun k hk => ho.block k (h.row.lt hk) (hv k hk))
theorem LO.set {w : World} {b n : Nat} {T : TypeId} {C : Nat → Value} {o : Nat} {v' : Value} {L' : List Hd} (h : Blk w b n T C) (ho : o + 1 < n) (hv : Hs w v' L') (hne : v'.ownBlock ≠ some b) : LO ((w.setCell ⟨b, o, none⟩ v').setCell ⟨b, o + 1, none⟩ (.int .i64 (sumL L'))) b n T (updL C o v' L') o v' L' :=
  ⟨(h.set o v').set (o + 1) _, ho, updL_0 _ _ _ _, updL_1 _ _ _ _, (hv.setCell (p := ⟨b, o, none⟩) hne _).setCell (p := ⟨b, o + 1, none⟩) hne _, hne⟩
theorem lenO_any {b : Nat} {n : Nat} {T : TypeId} {C : Nat → Value} {o : Nat} {v : Value} {L : List Hd} (w : World) (h : LO w b n T C o v L) :
    Calls Tryz.prog 139 #[.pointer (some ⟨b, o, none⟩)] w fun e w' => e = .returned (.int .i64 L.length) ∧ w' = w := by
  obtain ⟨c0, c1, f0, f1⟩ := h.cells
  obtain ⟨x, cap, rfl⟩ : ∃ x cap, v = .slice x L.length cap := by
    rcases h.row.form with ⟨rfl, h0, _⟩ | ⟨b, off, cap, rfl, _⟩
    · exact ⟨none, 0, by rw [h0]⟩
    · exact ⟨_, _, rfl⟩
  clear h
  go_enter Tryz.func139, Tryz.ntmps139
  go_wp2
  go_ret
  exact ⟨rfl, rfl⟩
theorem bytesO_any {b : Nat} {n : Nat} {T : TypeId} {C : Nat → Value} {o : Nat} {v : Value} {L : List Hd} (w : World) (h : LO w b n T C o v L) :
    Calls Tryz.prog 138 #[.pointer (some ⟨b, o, none⟩)] w fun e w' => e = .returned (.int .i64 (sumL L)) ∧ w' = w := by
  obtain ⟨c0, c1, f0, f1⟩ := h.cells
  clear h
  go_enter Tryz.func138, Tryz.ntmps138
  go_wp2
  go_ret
  exact ⟨rfl, rfl⟩

theorem firstO_any {b : Nat} {n : Nat} {T : TypeId} {C : Nat → Value} {o : Nat} {v : Value} {L : List Hd} (w : World) (h : LO w b n T C o v L) :
    Calls Tryz.prog 146 #[.pointer (some ⟨b, o, none⟩)] w fun e w' => e = .returned (.tuple #[(hdOr L).val, .bool (!L.isEmpty)]) ∧ Below w.heap.size w w' := by
  obtain ⟨c0, c1, f0, f1⟩ := h.cells
  have hb := h.blk.lt
  cases L with
  | nil =>
    obtain ⟨x, cap, rfl⟩ : ∃ x cap, v = .slice x 0 cap := by
      rcases h.row.form with ⟨rfl, h0, _⟩ | ⟨b, off, cap, rfl, _⟩
      · exact ⟨none, 0, rfl⟩
      · exact ⟨_, _, rfl⟩
    clear h
    go_enter Tryz.func146, Tryz.ntmps146
    go_wp2
    (try simp only [Exit.inBlock, Exit.then])
    refine bodyPost_ret (v := .tuple #[hd0.val, .bool false]) ?_ rfl ⟨rfl, ?_⟩
    · rw [results_cell_tmp rfl]
      go_simp
      rfl
    · repeat' (first | exact Below.refl _ _ | refine Below.setCell ?_ (by simp) _ | refine Below.alloc ?_ (by simp) _)
  | cons x L =>
    obtain ⟨b1, off, cap, rfl, hn, hx, hlt, hc⟩ := h.row.some (by simp)
    have k0 : w.cell? ⟨b1, off, none⟩ = some (.int .i64 x.a) := hc 0 _ rfl
    have k1 : w.cell? ⟨b1, off + 1, none⟩ = some (.int .i64 x.l) := hc 1 _ rfl
    have k2 : w.cell? ⟨b1, off + 2, none⟩ = some (.int .i64 x.f) := hc 2 _ rfl
    have k3 : w.cell? ⟨b1, off + 3, none⟩ = some (.int .i64 x.b) := hc 3 _ rfl
    have k4 : w.cell? ⟨b1, off + 4, none⟩ = some (.int .i64 x.m) := hc 4 _ rfl
    have k5 : w.cell? ⟨b1, off + 5, none⟩ = some (.int .i64 x.n) := hc 5 _ rfl
    clear hc h
    go_enter Tryz.func146, Tryz.ntmps146
    go_wp2
    (try simp only [Exit.inBlock, Exit.then])
    refine bodyPost_ret (v := .tuple #[x.val, .bool true]) ?_ rfl ⟨rfl, ?_⟩
    · rw [results_cell_tmp rfl]
      go_simp
      rfl
    · repeat' (first | exact Below.refl _ _ | refine Below.setCell ?_ (by simp) _ | refine Below.alloc ?_ (by simp) _)
set_option maxHeartbeats 1000000 in
theorem nextO_any {b : Nat} {n : Nat} {T : TypeId} {C : Nat → Value} {o : Nat} {v : Value} {L : List Hd} (w : World) (h : LO w b n T C o v L) (hF : Fit L) :
    Calls Tryz.prog 145 #[.pointer (some ⟨b, o, none⟩)] w fun e w' => e = .returned (.tuple #[(hdOr L).val, .bool (!L.isEmpty)]) ∧ ∃ v', LO w' b n T (updL C o v' L.tail) o v' L.tail ∧ v'.ownBlock = v.ownBlock ∧ Ot (· = b) w w' := by
  have H : Hid (LO w b n T C o v L) := h
  have hb := h.blk.lt
  cases L with
  | nil =>
    clear h
    have hV := Hd.val_eq
    go_enter Tryz.func145, Tryz.ntmps145
    go_wp2_with (go_at_call 146; refine (firstO_any _ (H.out.below ((Below.refl _ _).alloc (Nat.le_refl _) _))).mono ?_; rintro e w1 ⟨rfl, hb1⟩; obtain ⟨c0, c1, f0, f1⟩ := ((H.out.below ((Below.refl _ _).alloc (Nat.le_refl _) _)).below hb1).cells; obtain ⟨hs1, hz⟩ := after_new hb1; have hbs : b < w1.heap.size := Nat.lt_trans hb hs1; obtain ⟨⟨z0, z1, z2, z3, z4, z5⟩, y0, y1, y2, y3, y4, y5⟩ := six hz)
    (try simp only [Exit.inBlock, Exit.then])
    have hB : Below w.heap.size w w1 := ((Below.refl _ _).alloc (Nat.le_refl _) _).trans (hb1.mono (by simp))
    refine bodyPost_ret (v := .tuple #[(hdOr []).val, .bool false]) ?_ rfl ⟨rfl, v, H.out.same.below ?_, rfl, Ot.of_below ?_⟩
    · rw [results_cell_tmp rfl]
      go_simp
    all_goals repeat' (first | with_reducible exact hB | with_reducible refine Below.setCell ?_ (by simp) _ | with_reducible refine Below.alloc ?_ (by simp; omega) _)
  | cons x L =>
    clear h
    have hV := Hd.val_eq
    have hO : hdOr (x :: L) = x := rfl
    have hw : IntKind.i64.wrap (sumL (x :: L) - x.l) = sumL L := by
      have h1 := Fit.sum hF.2
      have h2 := Fit.sum hF.tail.2
      have h3 := hF.1
      rw [IntKind.wrap_i64]
      simp only [sumL, List.length_cons] at h1 h3 ⊢
      omega
    obtain ⟨b1, off, cap, rfl, hn, hx, hlt, _⟩ := H.out.row.some (by simp)
    go_enter Tryz.func145, Tryz.ntmps145
    go_wp2_with (go_at_call 146; refine (firstO_any _ (H.out.below ((Below.refl _ _).alloc (Nat.le_refl _) _))).mono ?_; rintro e w1 ⟨rfl, hb1⟩; obtain ⟨c0, c1, f0, f1⟩ := ((H.out.below ((Below.refl _ _).alloc (Nat.le_refl _) _)).below hb1).cells; obtain ⟨hs1, hz⟩ := after_new hb1; have hbs : b < w1.heap.size := Nat.lt_trans hb hs1; obtain ⟨⟨z0, z1, z2, z3, z4, z5⟩, y0, y1, y2, y3, y4, y5⟩ := six hz)
    all_goals go_region
    all_goals go_wp2
    all_goals (try simp only [Exit.inBlock, Exit.then])
    all_goals
      have hB : Below w.heap.size w w1 := ((Below.refl _ _).alloc (Nat.le_refl _) _).trans (hb1.mono (by simp))
      have H1 := H.out.below hB
      have hne : b1 ≠ b := fun e => H1.ne (by rw [e]; rfl)
    · refine bodyPost_ret (v := .tuple #[x.val, .bool true]) ?_ rfl ⟨rfl, _, LO.ot (S := (· = w.heap.size)) (LO.set H1.blk H1.lt (v' := .slice (some ⟨b1, off, none⟩) L.length 0) (L' := L) (H1.row.tail _ _ (Or.inr ⟨by omega, rfl, rfl⟩)) (by simp [Value.ownBlock, hne])) ?_ ?_ ?_, rfl, ?_⟩
      · rw [results_cell_tmp rfl]
        go_simp
      · repeat' (first | with_reducible exact Ot.refl _ _ | with_reducible refine Ot.drew ?_ | with_reducible refine Ot.setCell ?_ (by simp) _ | with_reducible refine Ot.alloc ?_ _)
      · omega
      · intro k hk; simp [Value.ownBlock] at hk; omega
      · repeat' (first | with_reducible exact Ot.of_below hB | with_reducible refine Ot.drew ?_ | with_reducible refine Ot.setCell ?_ (by simp) _ | with_reducible refine Ot.alloc ?_ _)
    · refine bodyPost_ret (v := .tuple #[x.val, .bool true]) ?_ rfl ⟨rfl, _, LO.ot (S := (· = w.heap.size)) (LO.set H1.blk H1.lt (v' := .slice (some ⟨b1, off + 6, none⟩) L.length (cap - 1)) (L' := L) (H1.row.tail _ _ (Or.inl ⟨rfl, rfl⟩)) (by simp [Value.ownBlock, hne])) ?_ ?_ ?_, rfl, ?_⟩
      · rw [results_cell_tmp rfl]
        go_simp
      · repeat' (first | with_reducible exact Ot.refl _ _ | with_reducible refine Ot.drew ?_ | with_reducible refine Ot.setCell ?_ (by simp) _ | with_reducible refine Ot.alloc ?_ _)
      · omega
      · intro k hk; simp [Value.ownBlock] at hk; omega
      · repeat' (first | with_reducible exact Ot.of_below hB | with_reducible refine Ot.drew ?_ | with_reducible refine Ot.setCell ?_ (by simp) _ | with_reducible refine Ot.alloc ?_ _)
theorem addO_mid {w W w1 : World} {ob : Obj} {b : Nat} {n : Nat} {T : TypeId} {C : Nat → Value} {o : Nat} {v : Value} {L : List Hd} (H : LO w b n T C o v L) (hB : Below (w.alloc ob).heap.size (w.alloc ob) W) (hg : W.grownBy w1 v.ownBlock) :
    w1.heap[b]? = w.heap[b]? ∧ w1.heap[w.heap.size]? = some ob ∧ w.heap.size + 1 ≤ w1.heap.size := by
  have hs : w.heap.size + 1 ≤ W.heap.size := by have := hB.size; simpa using this
  have hb := H.blk.lt
  refine ⟨?_, ?_, Nat.le_trans hs hg.size⟩
  · rw [hg.block b (by omega) (fun e => H.ne e.symm), hB.block b (by simp; omega), Below.heap_alloc _ _ _ hb]
  · rw [hg.block _ (by omega) (fun e => by have := H.row.lt e.symm; omega), hB.block _ (by simp)]
    exact heap_alloc_new w ob
theorem LO.two {w w1 : World} {b n : Nat} {T : TypeId} {C : Nat → Value} {o : Nat} {v : Value} {L : List Hd} (hB : Blk w1 b n T C) (h : LO w b n T C o v L) : w1.cell? ⟨b, o, none⟩ = some v ∧ w1.cell? ⟨b, o + 1, none⟩ = some (.int .i64 (sumL L)) ∧ w1.frozen? ⟨b, o, none⟩ = false ∧ w1.frozen? ⟨b, o + 1, none⟩ = false := by
  have h0 := hB.cell (i := o) (by have := h.lt; omega)
  have h1 := hB.cell (i := o + 1) h.lt
  rw [h.c0] at h0
  rw [h.c1] at h1
  exact ⟨h0.1, h1.1, h0.2, h1.2⟩
set_option maxHeartbeats 1000000 in
theorem addO_any {b : Nat} {n : Nat} {T : TypeId} {C : Nat → Value} {o : Nat} {v : Value} {L : List Hd} (x : Hd) (w : World) (h : LO w b n T C o v L) (hF : Fit (L ++ [x])) :
    Calls Tryz.prog 143 #[.pointer (some ⟨b, o, none⟩), x.val] w fun e w' => e = .returned (.tuple #[]) ∧ ∃ v', LO w' b n T (updL C o v' (L ++ [x])) o v' (L ++ [x]) ∧ (∀ k, v'.ownBlock = some k → v.ownBlock = some k ∨ w.heap.size ≤ k) ∧ Ot (fun k => k = b ∨ v.ownBlock = some k) w w' := by
  have H : Hid (LO w b n T C o v L) := h
  obtain ⟨c0, c1, f0, f1⟩ := h.cells
  have hb := h.blk.lt
  have HR : Hid (Hs w v L) := h.row
  clear h
  have hV := Hd.val_eq
  have hw : IntKind.i64.wrap (sumL L + x.l) = sumL (L ++ [x]) := by
    have h1 := Fit.sum hF.2
    have h3 := hF.1
    rw [IntKind.wrap_i64]
    rw [sumL_append] at h1 ⊢
    simp only [sumL, List.length_append, List.length_cons, List.length_nil] at h1 h3 ⊢
    omega
  have hln : L.length + 1 ≤ 1000000 := by have := hF.1; simpa using this
  obtain ⟨i0, hi, hz0, hz1, hz2⟩ := info_parts infoHeld
  go_enter Tryz.func143, Tryz.ntmps143
  go_wp2
  go_region_law (refine step_append_seg _ (by rfl) (.tmp 8) (.tmp 10) 74 (by rfl) 76 i0 _ 6 48 Tryz.underlying74 hi hz0 hz1 hz2 rfl (by decide) _ _ _ (by rfl) (HR.out.below (by repeat' (first | with_reducible exact Below.refl _ _ | with_reducible refine Below.drew ?_ | with_reducible refine below_alloc_ ?_ _))) ⟨w.heap.size + 1, 0, none⟩ 1 1 x.cs (by rfl) rfl (news_of (new_block_ (by simp))) x.one (by decide) (by unfold maxLen; omega) (by omega) _ rfl ?_; intro g off cap w1 hs1 hg1 ha1 hl1; obtain ⟨m0, m1, m2⟩ := addO_mid H.out (by repeat' (first | with_reducible exact Below.refl _ _ | with_reducible refine Below.drew ?_ | with_reducible refine below_alloc_ ?_ _)) hg1; have hB1 : Blk w1 b n T C := H.out.blk.kept m0; obtain ⟨d0, d1, e0, e1⟩ := LO.two hB1 H.out; obtain ⟨⟨z0, z1, z2, z3, z4, z5⟩, y0, y1, y2, y3, y4, y5⟩ := six m1; have hbs : b < w1.heap.size := by omega)
  all_goals
    go_wp2
    go_region
    go_wp2
    go_end0
    have hgb : g ≠ b := by
      rintro rfl
      rcases ha1 with ha1 | ha1
      · exact H.out.ne ha1
      · simp at ha1; omega
    refine ⟨rfl, _, (LO.set hB1 H.out.lt (Hs.snoc hs1 rfl) (by simpa [Value.ownBlock] using hgb)).kept rfl (fun _ _ => rfl), ?_, ?_⟩
    · intro k hk
      simp only [Value.ownBlock, Option.some.injEq] at hk
      subst hk
      rcases ha1 with ha1 | ha1
      · exact Or.inl ha1
      · right; simp at ha1; omega
    · refine Ot.drew ?_
      refine Ot.setCell ?_ (Or.inl (Or.inl rfl)) _
      refine Ot.setCell ?_ (Or.inl (Or.inl rfl)) _
      refine Ot.grown ?_ hg1 (fun k e => Or.inl (Or.inr e))
      refine Ot.of_below ?_
      repeat' (first | with_reducible exact Below.refl _ _ | with_reducible refine Below.drew ?_ | with_reducible refine below_alloc_ ?_ _)
end Go.Proofs.YtfakjedolecdcaaGreatDoor
namespace Go.Proofs.YtfakjedolecdcaaGreatDoor
open Go.RowKit Go.Extern.Stop Go.Stop Go.Extern

/-- A row of numbers at cell o of block b. -/
structure TO (w : World) (b n : Nat) (T : TypeId) (C : Nat → Value) (o : Nat) (tv : Value) (l : List Int) : Prop where
  blk : Blk w b n T C
  lt : o < n
  c0 : C o = tv
  row : Ins w tv l
  ne : tv.ownBlock ≠ some b
theorem TO.cell {w : World} {b n : Nat} {T : TypeId} {C : Nat → Value} {o : Nat} {tv : Value} {l : List Int} (h : TO w b n T C o tv l) : w.cell? ⟨b, o, none⟩ = some tv ∧ w.frozen? ⟨b, o, none⟩ = false := by
  have h0 := h.blk.cell (i := o) h.lt
  rw [h.c0] at h0
  exact h0
theorem TO.kept {w w' : World} {b n : Nat} {T : TypeId} {C : Nat → Value} {o : Nat} {tv : Value} {l : List Int} (h : TO w b n T C o tv l) (hb : w'.heap[b]? = w.heap[b]?) (hv : ∀ k, tv.ownBlock = some k → w'.heap[k]? = w.heap[k]?) : TO w' b n T C o tv l := ⟨h.blk.kept hb, h.lt, h.c0, Seg.kept h.row hv, h.ne⟩
theorem TO.below {w w' : World} {b n : Nat} {T : TypeId} {C : Nat → Value} {o : Nat} {tv : Value} {l : List Int} (h : TO w b n T C o tv l) (hb : Below w.heap.size w w') : TO w' b n T C o tv l := h.kept (hb.block b h.blk.lt) (fun k hk => hb.block k (Seg.lt h.row hk))
theorem TO.set {w : World} {b n : Nat} {T : TypeId} {C : Nat → Value} {o : Nat} {tv : Value} {l : List Int} (h : Blk w b n T C) (ho : o < n) (hv : Ins w tv l) (hne : tv.ownBlock ≠ some b) : TO (w.setCell ⟨b, o, none⟩ tv) b n T (updC C o tv) o tv l :=
  ⟨h.set o tv, ho, updC_same _ _ _, Seg.setCell (p := ⟨b, o, none⟩) hv hne _, hne⟩
/-- What turns' methods leave. -/
structure TPost (w : World) (b n : Nat) (T : TypeId) (C : Nat → Value) (o : Nat) (tv : Value) (l : List Int) (w' : World) (tv' : Value) : Prop where
  pos : TO w' b n T (updC C o tv') o tv' l
  own : ∀ k, tv'.ownBlock = some k → tv.ownBlock = some k ∨ w.heap.size ≤ k
  ot : Ot (fun k => k = b ∨ tv.ownBlock = some k) w w'
theorem infoIntT : (Tryz.prog.info? 3).map (fun i => (i.zero, i.size, i.bytes)) = some (some (.int .i64 0), 1, 8) := by kernel_rfl
theorem tfirst_any {tv : Value} {l : List Int} (w : World) (h : Ins w tv l) : Calls Tryz.prog 170 #[tv] w fun e w' => e = .returned (.tuple #[.int .i64 (l.headD 0), .bool (!l.isEmpty)]) ∧ w' = w := by
  cases l with
  | nil =>
    obtain ⟨x, cap, rfl⟩ := Ins.slice h
    clear h
    go_enter Tryz.func170, Tryz.ntmps170
    go_wp2
    go_ret2
    exact ⟨rfl, rfl⟩
  | cons a l =>
    obtain ⟨g, off, cap, rfl, hg, hc, _⟩ := Ins.at h (k := 0) (x := a) rfl
    simp only [Nat.add_zero, List.length_cons] at hc ⊢
    clear h
    go_enter Tryz.func170, Tryz.ntmps170
    go_wp2
    go_ret2
    exact ⟨rfl, rfl⟩
set_option maxHeartbeats 1000000 in
theorem join_any {b n : Nat} {T : TypeId} {C : Nat → Value} {o : Nat} {tv : Value} {l : List Int} (m : Int) (w : World) (h : TO w b n T C o tv l) (hl : l.length ≤ 1000) :
    Calls Tryz.prog 168 #[.pointer (some ⟨b, o, none⟩), .int .i64 m] w fun e w' => e = .returned (.tuple #[]) ∧ ∃ tv', TPost w b n T C o tv (l ++ [m]) w' tv' := by
  have H : Hid (TO w b n T C o tv l) := h
  obtain ⟨c0, f0⟩ := h.cell
  have hb := h.blk.lt
  have HR : Hid (Ins w tv l) := h.row
  clear h
  obtain ⟨i0, hi, hz0, hz1, hz2⟩ := info_parts infoIntT
  go_enter Tryz.func168, Tryz.ntmps168
  go_wp2_with (at_builtin; refine wpList_append_seg _ rfl (.tmp 7) (.tmp 9) 156 rfl 3 i0 _ 1 8 Tryz.underlying156 hi hz0 hz1 hz2 rfl (by decide) tv l.length (l.map (Value.int .i64)) rfl (Seg.below HR.out (below_alloc_ (Below.refl _ _) _)) ⟨w.heap.size, 0, none⟩ 1 1 [.int .i64 m] rfl rfl (news_of (new_block_ (by simp))) (by simp [Value.oneCell']) (by decide) (by unfold maxLen; omega) (by omega) _ rfl ?_; intro g off cap w1 hs1 hg1 ha1 hl1; have hB1 : Blk w1 b n T C := H.out.blk.kept ((hg1.block b (by simp; omega) (fun e => H.out.ne e.symm)).trans (Below.heap_alloc _ _ _ hb)); have k0 := hB1.cell H.out.lt; have hbs := hB1.lt; obtain ⟨k1, k2⟩ := k0; rw [H.out.c0] at k1)
  go_end0
  have hgb : g ≠ b := by
    rintro rfl
    rcases ha1 with ha1 | ha1
    · exact H.out.ne ha1
    · simp at ha1; omega
  refine ⟨rfl, _, TO.set (l := l ++ [m]) hB1 H.out.lt ?_ (by simpa [Value.ownBlock] using hgb), ?_, ?_⟩
  · unfold Ins
    simpa using hs1
  · intro k hk
    simp only [Value.ownBlock, Option.some.injEq] at hk
    subst hk
    rcases ha1 with ha1 | ha1
    · exact Or.inl ha1
    · right; simp at ha1; omega
  · refine Ot.setCell ?_ (Or.inl (Or.inl rfl)) _
    refine Ot.grown ?_ hg1 (fun k e => Or.inl (Or.inr e))
    exact Ot.alloc (Ot.refl _ _) _
theorem eLeaveQ (args : Array Value) (W : World) : (callFunc 176 args).run Tryz.prog W = .ok (.enter 176 args) W := enters_of Tryz.func176 (by kernel_rfl) rfl args W
theorem leaveQ_any (m n : Int) (c : Nat) (w : World) (hc : w.cell? ⟨c, 0, none⟩ = some (.int .i64 n)) : Calls Tryz.prog 176 #[.int .i64 m, .pointer (some ⟨c, 0, none⟩)] w fun e w' => e = .returned (.bool (m == n)) ∧ w' = w := by
  go_enter Tryz.func176, Tryz.ntmps176
  go_wp2
  go_ret
  exact ⟨rfl, rfl⟩
set_option maxHeartbeats 1000000 in
/-- The first place of n. -/
theorem tidx_any {tv : Value} (A B : List Int) (n : Int) (c : Nat) (w : World) (h : Ins w tv (A ++ n :: B)) (hA : n ∉ A) (hc : w.cell? ⟨c, 0, none⟩ = some (.int .i64 n)) (hl : (A ++ n :: B).length ≤ 1000) :
    Calls Tryz.prog 177 #[tv, .func (.func 176) #[] #[.pointer (some ⟨c, 0, none⟩)]] w fun e w' => e = .returned (.int .i64 A.length) ∧ w' = w := by
  have HI : Hid (Ins w tv (A ++ n :: B)) := h
  obtain ⟨x, cap, rfl⟩ := Ins.slice h
  obtain ⟨N, hN⟩ : ∃ N, (A ++ n :: B).length = N := ⟨_, rfl⟩
  have HN : Hid ((A ++ n :: B).length = N) := hN
  have hN2 : A.length < N := by rw [← hN]; simp
  rw [hN] at HI hl ⊢
  have heq := eLeaveQ
  clear h hN
  go_enter Tryz.func177, Tryz.ntmps177
  go_wp2
  go_loopw [8] (fun i wr => ∃ k : Nat, k ≤ A.length ∧ i = .int .i64 k ∧ wr = w) (fun i _ => N - (intOf i).toNat)
  case atStart => exact ⟨0, Nat.zero_le _, rfl, rfl⟩
  case round =>
    obtain ⟨k, hk, rfl, rfl⟩ := hrel
    by_cases hlt : k < A.length
    · have hget : (A ++ n :: B)[k]? = some A[k] := by rw [List.getElem?_append_left hlt, List.getElem?_eq_getElem hlt]
      obtain ⟨a, ha⟩ : ∃ a, A[k] = a := ⟨_, rfl⟩
      have hne : (a == n) = false := by
        simp only [beq_eq_false_iff_ne, ne_eq]
        rintro rfl
        exact hA (by rw [← ha]; exact List.getElem_mem hlt)
      rw [ha] at hget
      obtain ⟨g, off, cap', e1, hg, hcl, _⟩ := Ins.at HI.out hget
      have hx : x = some ⟨g, off, none⟩ := by simp at e1; exact e1.1
      subst hx
      have HQ := leaveQ_any a n c wr hc
      rw [hne] at HQ
      clear hget ha hne e1
      go_wp2_with (go_at_call 176; refine HQ.mono ?_; rintro e w2 ⟨rfl, hw2⟩; subst hw2)
      go_roundw
      case rel => exact ⟨k + 1, by omega, by go_num, by first | rfl | trivial⟩
      case measure => simp [intOf]; omega
    · obtain rfl : k = A.length := by omega
      have hget : (A ++ n :: B)[A.length]? = some n := by simp
      obtain ⟨g, off, cap', e1, hg, hcl, _⟩ := Ins.at HI.out hget
      have hx : x = some ⟨g, off, none⟩ := by simp at e1; exact e1.1
      subst hx
      have HQ := leaveQ_any n n c wr hc
      have hnn : (n == n) = true := by simp
      rw [hnn] at HQ
      clear hget hnn e1
      go_wp2_with (go_at_call 176; refine HQ.mono ?_; rintro e w2 ⟨rfl, hw2⟩; subst hw2)
      go_ret
      exact ⟨rfl, rfl⟩
end Go.Proofs.YtfakjedolecdcaaGreatDoor
namespace Go.Proofs.YtfakjedolecdcaaGreatDoor
open Go.RowKit Go.Extern.Stop Go.Stop Go.Extern

theorem zeroInt (w : World) : (zeroValue 3).run Tryz.prog w = .ok (.int .i64 0) w := by kernel_rfl
/-- The row while the rest moves up. -/
def mvL (A B : List Int) (t : Nat) (x : Int) : List Int := A ++ (B.take t ++ x :: B.drop t)
/-- So it lies in memory. -/
def Mv (A B : List Int) (g off N cap t : Nat) (w : World) : Prop := ∃ x, Ins w (.slice (some ⟨g, off, none⟩) N cap) (mvL A B t x)
theorem mvL_len (A B : List Int) {t : Nat} (x : Int) (h : t ≤ B.length) : (mvL A B t x).length = A.length + B.length + 1 := by
  simp [mvL]; omega
theorem mvL_get {A B : List Int} {t : Nat} {x y : Int} (h : B[t]? = some y) : (mvL A B t x)[A.length + 1 + t]? = some y := by
  have ht := (List.getElem?_eq_some_iff.1 h).1
  rw [mvL, List.getElem?_append_right (by omega), List.getElem?_append_right (by rw [List.length_take]; omega)]
  have e : A.length + 1 + t - A.length - (B.take t).length = 1 := by rw [List.length_take]; omega
  rw [e]
  simp [List.getElem?_drop, h]
theorem mvL_set {A B : List Int} {t : Nat} {x y : Int} (h : B[t]? = some y) : (mvL A B t x).set (A.length + t) y = mvL A B (t + 1) y := by
  have ht := (List.getElem?_eq_some_iff.1 h).1
  have e1 : B.drop t = y :: B.drop (t + 1) := by
    rw [List.drop_eq_getElem_cons ht]
    congr 1
    rw [List.getElem?_eq_getElem ht] at h
    exact Option.some.inj h
  have e2 : B.take (t + 1) = B.take t ++ [y] := by rw [List.take_add_one, h]; rfl
  rw [mvL, mvL, List.set_append, if_neg (by omega), Nat.add_sub_cancel_left, List.set_append, if_neg (by rw [List.length_take]; omega)]
  have e3 : t - (B.take t).length = 0 := by rw [List.length_take]; omega
  rw [e3, List.set_cons_zero, e1, e2]
  simp
theorem ins_front {w : World} {g off cap N : Nat} {A B : List Int} {x : Int} (h : Ins w (.slice (some ⟨g, off, none⟩) N cap) (mvL A B B.length x)) (u : Value) : Ins (w.setCell ⟨g, off + (A.length + B.length), none⟩ u) (.slice (some ⟨g, off, none⟩) (A.length + B.length) cap) (A ++ B) := by
  have e0 : mvL A B B.length x = (A ++ B) ++ [x] := by simp [mvL]
  rw [e0] at h
  have hlen : ((A ++ B) ++ [x]).length = A.length + B.length + 1 := by simp; omega
  rcases h.2 with ⟨hv, _⟩ | ⟨b', off', cap', cur, hv, hh, h1, h2, h3, h4⟩
  · simp at hv
  · simp only [Value.slice.injEq, Option.some.injEq, Addr.mk.injEq, and_true] at hv
    obtain ⟨⟨rfl, rfl⟩, _, rfl⟩ := hv
    refine ⟨by simp, Or.inr ⟨g, off, cap, _, by simp, heap_setCell_here hh u, by simp; omega, h2, by simpa using h3, fun j v hj => ?_⟩⟩
    have hj' := (List.getElem?_eq_some_iff.1 hj).1
    simp at hj'
    rw [Array.getElem?_setIfInBounds_ne (by omega)]
    refine h4 j v ?_
    rw [List.map_append, List.getElem?_append_left (by simp; omega)]
    exact hj
set_option maxRecDepth 20000 in
set_option maxHeartbeats 2000000 in
theorem tdel_any {tv : Value} (A B : List Int) (n : Int) (c : Nat) (w : World) (h : Ins w tv (A ++ n :: B)) (hA : n ∉ A) (hB : n ∉ B) (hc : w.cell? ⟨c, 0, none⟩ = some (.int .i64 n)) (hcv : tv.ownBlock ≠ some c) (hl : (A ++ n :: B).length ≤ 1000) :
    Calls Tryz.prog 175 #[tv, .func (.func 176) #[] #[.pointer (some ⟨c, 0, none⟩)]] w fun e w' => ∃ tv', e = .returned tv' ∧ Ins w' tv' (A ++ B) ∧ tv'.ownBlock = tv.ownBlock ∧ Ot (fun k => tv.ownBlock = some k) w w' := by
  have HI : Hid (Ins w tv (A ++ n :: B)) := h
  have HIX := tidx_any A B n c w h hA hc hl
  obtain ⟨g, off, cap, rfl, hg, _⟩ := Ins.at h (k := A.length) (x := n) (by simp)
  obtain ⟨N, hN⟩ : ∃ N, (A ++ n :: B).length = N := ⟨_, rfl⟩
  have hN2 : N = A.length + B.length + 1 := by rw [← hN]; simp; omega
  have hcap : N ≤ cap := by
    rcases h.2 with ⟨hv, _⟩ | ⟨b', off', cap', cur, hv, hh, h1, h2, h3, h4⟩
    · simp at hv
    · simp only [Value.slice.injEq] at hv
      obtain ⟨_, _, rfl⟩ := hv
      omega
  rw [hN] at HI HIX hl hcv ⊢
  have hgc : g ≠ c := by simpa [Value.ownBlock] using hcv
  have heq := eLeaveQ
  have HC : Hid (w.cell? ⟨c, 0, none⟩ = some (.int .i64 n)) := hc
  have hcl := World.block_lt_of_cell? _ _ hc
  obtain ⟨a, ha⟩ : ∃ a, A.length = a := ⟨_, rfl⟩
  have HAL : Hid (A.length = a) := ha
  obtain ⟨bl, hbl⟩ : ∃ bl, B.length = bl := ⟨_, rfl⟩
  have HBL : Hid (B.length = bl) := hbl
  rw [ha] at HIX hN2
  rw [hbl] at hN2
  have HN : Hid (N = a + bl + 1) := hN2
  have ha1 : a < N := by omega
  have hm1 : ((a : Int) == -1) = false := by simp
  clear h hN ha hbl hc hcv hN2
  go_enter Tryz.func175, Tryz.ntmps175
  go_wp2_with (go_at_call 177; refine HIX.mono ?_; rintro e w1 ⟨rfl, hw1⟩; subst hw1)
  go_loopw [5, 6] (fun iv jv wr => ∃ t : Nat, t ≤ bl ∧ iv = .int .i64 ((a + t : Nat) : Int) ∧ jv = .int .i64 ((a + 1 + t : Nat) : Int) ∧ Mv A B g off N cap t wr ∧ Ot (· = g) w1 wr) (fun _ jv _ => N + 1 - (intOf jv).toNat)
  case atStart => exact ⟨0, Nat.zero_le _, rfl, rfl, ⟨n, HI.out⟩, Ot.refl _ _⟩
  case round =>
    obtain ⟨t, ht, rfl, rfl, ⟨x, hin⟩, hot⟩ := hrel
    have HIN : Hid (Ins wr (.slice (some ⟨g, off, none⟩) N cap) (mvL A B t x)) := hin
    have HOT : Hid (Ot (· = g) w1 wr) := hot
    have hcw : wr.cell? ⟨c, 0, none⟩ = some (.int .i64 n) := (hot.cell (p := ⟨c, 0, none⟩) hcl (fun e => hgc e.symm)).trans HC.out
    have hgw : g < wr.heap.size := Nat.lt_of_lt_of_le hg hot.size
    clear hin hot
    by_cases hlt : t < bl
    · obtain ⟨y, hy⟩ : ∃ y, B[t]? = some y := ⟨_, List.getElem?_eq_getElem (by rw [HBL.out]; exact hlt)⟩
      have HY : Hid (B[t]? = some y) := hy
      have hne : (y == n) = false := by
        simp only [beq_eq_false_iff_ne, ne_eq]
        rintro rfl
        exact hB (List.mem_of_getElem? hy)
      have hget := mvL_get (A := A) (x := x) hy
      rw [HAL.out] at hget
      obtain ⟨g', off', cap', e1, _, k1, _⟩ := Ins.at HIN.out hget
      simp only [Value.slice.injEq, Option.some.injEq, Addr.mk.injEq, and_true] at e1
      obtain ⟨⟨rfl, rfl⟩, hx1, hx2⟩ := e1
      clear hx1 hx2
      have hlen := mvL_len A B x (t := t) (by rw [HBL.out]; exact ht)
      obtain ⟨z, hz⟩ : ∃ z, (mvL A B t x)[a + t]? = some z := ⟨_, List.getElem?_eq_getElem (by rw [hlen, HAL.out, HBL.out]; omega)⟩
      obtain ⟨g', off', cap', e1, _, k2, k3⟩ := Ins.at HIN.out hz
      simp only [Value.slice.injEq, Option.some.injEq, Addr.mk.injEq, and_true] at e1
      obtain ⟨⟨rfl, rfl⟩, hx1, hx2⟩ := e1
      clear hx1 hx2
      have HQ := leaveQ_any y n c wr hcw
      rw [hne] at HQ
      have hN3 : a + 1 + t < N := by have := HN.out; omega
      have hN4 : a + t < N := by omega
      have HNX : Hid (Ins (wr.setCell ⟨g, off + (a + t), none⟩ (.int .i64 y)) (.slice (some ⟨g, off, none⟩) N cap) (mvL A B (t + 1) y)) := by
        have h1 : Ins wr (.slice (some ⟨g, off, none⟩) (mvL A B t x).length cap) (mvL A B t x) := by
          have e : (mvL A B t x).length = N := by rw [hlen, HAL.out, HBL.out, HN.out]
          rw [e]; exact HIN.out
        have h2 := Ins.set h1 (a + t) (by rw [hlen, HAL.out, HBL.out]; omega) y
        have h3 := mvL_set (A := A) (x := x) HY.out
        rw [HAL.out] at h3
        rw [h3] at h2
        have e : (mvL A B t x).length = N := by rw [hlen, HAL.out, HBL.out, HN.out]
        rw [e] at h2
        exact h2
      clear hy hget hz hlen hne
      go_wp2_with (go_at_call 176; refine HQ.mono ?_; rintro e w2 ⟨rfl, hw2⟩; subst hw2)
      go_roundw
      case rel => exact ⟨t + 1, by omega, by go_num, by go_num, ⟨y, HNX.out⟩, Ot.setCell HOT.out (Or.inl rfl) _⟩
      case measure => simp [intOf]; omega
    · obtain rfl : t = bl := by omega
      have hNe : a + 1 + t = N := by have := HN.out; omega
      have HNE : Hid (a + 1 + t = N) := hNe
      have hlen := mvL_len A B x (t := t) (by rw [HBL.out]; exact ht)
      obtain ⟨z, hz⟩ : ∃ z, (mvL A B t x)[a + t]? = some z := ⟨_, List.getElem?_eq_getElem (by rw [hlen, HAL.out, HBL.out]; omega)⟩
      obtain ⟨g', off', cap', e1, _, k2, k3⟩ := Ins.at HIN.out hz
      simp only [Value.slice.injEq, Option.some.injEq, Addr.mk.injEq, and_true] at e1
      obtain ⟨⟨rfl, rfl⟩, hx1, hx2⟩ := e1
      clear hx1 hx2
      have hclr := fun ty c' => Go.Lib.run_clear_slice (P := Tryz.prog) wr 156 3 ty (.int .i64 0) Tryz.underlying156 zeroInt rfl rfl g (off + (a + t)) 1 c' (by decide) (fun j hj => by { obtain rfl : j = 0 := (by omega); simp [k2] }) (fun j hj => by { obtain rfl : j = 0 := (by omega); simpa using k3 })
      simp only [List.replicate, World.setCells] at hclr
      have hN4 : a + t < N := by omega
      have hN5 : N - (a + t) = 1 := by omega
      have hN6 : ((N : Int) - ((a + t : Nat) : Int)) = 1 := by omega
      have hN7 : ¬ cap = a + t := by omega
      have hN8 : a + t ≤ cap := by omega
      have hN9 : ¬ (a + 1 + t < N) := by omega
      clear hz hlen hNe
      go_wp2
      go_ret
      have e1 := HBL.out
      subst e1
      have e2 := HAL.out
      subst e2
      refine ⟨_, rfl, ins_front HIN.out _, rfl, ?_⟩
      have hO : Ot (fun k => (Value.slice (some ⟨g, off, none⟩) N cap).ownBlock = some k) w1 wr := HOT.out.mono (fun k _ e => by rw [show k = g from e]; rfl)
      have hO2 := Ot.setCell (p := ⟨g, off + (A.length + B.length), none⟩) hO (Or.inl rfl) (.int .i64 0)
      exact hO2
set_option maxHeartbeats 1000000 in
theorem leave_any {b n : Nat} {T : TypeId} {C : Nat → Value} {o : Nat} {tv : Value} (A B : List Int) (m : Int) (w : World) (h : TO w b n T C o tv (A ++ m :: B)) (hA : m ∉ A) (hB : m ∉ B) (hl : (A ++ m :: B).length ≤ 1000) :
    Calls Tryz.prog 171 #[.pointer (some ⟨b, o, none⟩), .int .i64 m] w fun e w' => e = .returned (.tuple #[]) ∧ ∃ tv', TPost w b n T C o tv (A ++ B) w' tv' := by
  have H : Hid (TO w b n T C o tv (A ++ m :: B)) := h
  have HD : Hid (∀ W : World, Below w.heap.size w W → W.cell? ⟨w.heap.size, 0, none⟩ = some (.int .i64 m) → Calls Tryz.prog 175 #[tv, .func (.func 176) #[] #[.pointer (some ⟨w.heap.size, 0, none⟩)]] W fun e w' => ∃ tv', e = .returned tv' ∧ Ins w' tv' (A ++ B) ∧ tv'.ownBlock = tv.ownBlock ∧ Ot (fun k => tv.ownBlock = some k) W w') :=
    fun W hW hc => tdel_any A B m w.heap.size W (Seg.below h.row hW) hA hB hc (fun e => by have := Seg.lt h.row e; omega) hl
  obtain ⟨c0, f0⟩ := h.cell
  have hb := h.blk.lt
  clear h
  go_enter Tryz.func171, Tryz.ntmps171
  go_wp2_with (go_at_call 175; fail)
  refine (HD.out _ (below_alloc_ (Below.refl _ _) _) ?_).mono ?_
  · exact (one_cell (new_block w _)).1
  rintro e w1 ⟨tv', rfl, hi1, hk1, ho1⟩
  obtain ⟨tx, tcap, htv⟩ := Ins.slice hi1
  obtain ⟨tl, htl⟩ : ∃ tl, (A ++ B).length = tl := ⟨_, rfl⟩
  rw [htl] at htv
  subst htv
  have hB1 : Blk w1 b n T C := H.out.blk.kept ((ho1.block b (by simp; omega) H.out.ne).trans (Below.heap_alloc _ _ _ hb))
  obtain ⟨k1, k2⟩ := hB1.cell H.out.lt
  rw [H.out.c0] at k1
  have hbs := hB1.lt
  go_wp2
  go_end0
  refine ⟨rfl, _, TO.set hB1 H.out.lt hi1 (by rw [hk1]; exact H.out.ne), fun k hk => Or.inl (by rw [← hk1]; exact hk), ?_⟩
  refine Ot.setCell ?_ (Or.inl (Or.inl rfl)) _
  exact (Ot.alloc (Ot.refl _ w) _).trans (ho1.mono (fun k _ e => Or.inr e))
theorem TPost.trans {w w1 w2 : World} {b n : Nat} {T : TypeId} {C : Nat → Value} {o : Nat} {tv tv1 tv2 : Value} {l l' : List Int} (h : TPost w b n T C o tv l w1 tv1) (k : TPost w1 b n T (updC C o tv1) o tv1 l' w2 tv2) : TPost w b n T C o tv l' w2 tv2 := by
  have hs := h.ot.size
  refine ⟨⟨k.pos.blk.cong (fun i _ => ?_), k.pos.lt, updC_same _ _ _, k.pos.row, k.pos.ne⟩, fun j hj => ?_, h.ot.trans' k.ot (fun j hj hlt => ?_)⟩
  · by_cases e : i = o
    · subst e; rw [updC_same, updC_same]
    · rw [updC_ne e, updC_ne e, updC_ne e]
  · rcases k.own j hj with h1 | h1
    · exact h.own j h1
    · exact Or.inr (by omega)
  · rcases hj with e | e
    · exact Or.inl e
    · rcases h.own j e with h1 | h1
      · exact Or.inr h1
      · omega
set_option maxHeartbeats 1000000 in
theorem fpass_any {b n : Nat} {T : TypeId} {C : Nat → Value} {o : Nat} {tv : Value} (A B : List Int) (m : Int) (w : World) (h : TO w b n T C o tv (A ++ m :: B)) (hA : m ∉ A) (hB : m ∉ B) (hl : (A ++ m :: B).length ≤ 1000) :
    Calls Tryz.prog 172 #[.pointer (some ⟨b, o, none⟩), .int .i64 m] w fun e w' => e = .returned (.tuple #[]) ∧ ∃ tv', TPost w b n T C o tv ((A ++ B) ++ [m]) w' tv' := by
  have HV := leave_any A B m w h hA hB hl
  have hl2 : (A ++ B).length ≤ 1000 := by simp at hl ⊢; omega
  clear h
  go_enter Tryz.func172, Tryz.ntmps172
  go_wp2_with (first | (go_at_call 171; refine HV.mono ?_; rintro e w1 ⟨rfl, tv1, hp1⟩) | (go_at_call 168; refine (join_any m _ hp1.pos hl2).mono ?_; rintro e w2 ⟨rfl, tv2, hp2⟩))
  go_end0
  exact ⟨rfl, tv2, hp1.trans hp2⟩
end Go.Proofs.YtfakjedolecdcaaGreatDoor
namespace Go.Proofs.YtfakjedolecdcaaGreatDoor
open Go.RowKit Go.Extern.Stop Go.Stop Go.Extern

def updF {α : Type} (g : Nat → α) (i : Nat) (x : α) : Nat → α := fun j => if j = i then x else g j
theorem updF_same {α : Type} (g : Nat → α) (i : Nat) (x : α) : updF g i x i = x := by simp [updF]
theorem updF_ne {α : Type} {g : Nat → α} {i j : Nat} {x : α} (h : j ≠ i) : updF g i x j = g j := by simp [updF, h]
/-- What Rounds keep: each flow's packets, its credit; whose turn it is, one behind the other; whether the first one's has begun. -/
structure RnS where
  fl : Nat → List Hd
  cr : Nat → Int
  tn : List Int
  bg : Bool
structure RnP (w : World) (b : Nat) (room : Int) (q : Nat → Int) (C : Nat → Value) (vs : Nat → Value) (tv : Value) (s : RnS) : Prop where
  blk : Blk w b 67 164 C
  c0 : C 0 = .int .i64 room
  cq : ∀ f, f < 16 → C (1 + f) = .int .i64 (q f)
  cc : ∀ f, f < 16 → C (17 + f) = .int .i64 (s.cr f)
  cv : ∀ f, f < 16 → C (33 + f * 2) = vs f
  cs : ∀ f, f < 16 → C (33 + f * 2 + 1) = .int .i64 (sumL (s.fl f))
  ct : C 65 = tv
  cb : C 66 = .bool s.bg
  row : ∀ f, f < 16 → Hs w (vs f) (s.fl f)
  vne : ∀ f, f < 16 → (vs f).ownBlock ≠ some b
  vdis : ∀ f g, f < 16 → g < 16 → f ≠ g → ∀ k, (vs f).ownBlock = some k → (vs g).ownBlock ≠ some k
  trow : Ins w tv s.tn
  tne : tv.ownBlock ≠ some b
  tdis : ∀ f, f < 16 → ∀ k, (vs f).ownBlock = some k → tv.ownBlock ≠ some k
/-- Its blocks. -/
def RnF (b : Nat) (vs : Nat → Value) (tv : Value) (k : Nat) : Prop := k = b ∨ (∃ f, f < 16 ∧ (vs f).ownBlock = some k) ∨ tv.ownBlock = some k
theorem RnP.kept {w w' : World} {b : Nat} {room : Int} {q : Nat → Int} {C : Nat → Value} {vs : Nat → Value} {tv : Value} {s : RnS} (h : RnP w b room q C vs tv s) (hk : ∀ k, RnF b vs tv k → w'.heap[k]? = w.heap[k]?) : RnP w' b room q C vs tv s :=
  { h with
    blk := h.blk.kept (hk b (Or.inl rfl))
    row := fun f hf => (h.row f hf).kept (fun k hv => hk k (Or.inr (Or.inl ⟨f, hf, hv⟩)))
    trow := Seg.kept h.trow (fun k hv => hk k (Or.inr (Or.inr hv))) }
theorem RnP.low {w : World} {b : Nat} {room : Int} {q : Nat → Int} {C : Nat → Value} {vs : Nat → Value} {tv : Value} {s : RnS} (h : RnP w b room q C vs tv s) {k : Nat} (hk : RnF b vs tv k) : k < w.heap.size := by
  rcases hk with rfl | ⟨f, hf, hv⟩ | hv
  · exact h.blk.lt
  · exact (h.row f hf).lt hv
  · exact Seg.lt h.trow hv
theorem RnP.below {w w' : World} {b : Nat} {room : Int} {q : Nat → Int} {C : Nat → Value} {vs : Nat → Value} {tv : Value} {s : RnS} (h : RnP w b room q C vs tv s) (hb : Below w.heap.size w w') : RnP w' b room q C vs tv s := h.kept (fun k hk => hb.block k (h.low hk))
theorem RnP.al {w : World} {b : Nat} {room : Int} {q : Nat → Int} {C : Nat → Value} {vs : Nat → Value} {tv : Value} {s : RnS} (h : RnP w b room q C vs tv s) (o : Obj) : RnP (w.alloc o) b room q C vs tv s := h.below (below_alloc_ (Below.refl _ _) _)
theorem RnP.drewN {w : World} {b : Nat} {room : Int} {q : Nat → Int} {C : Nat → Value} {vs : Nat → Value} {tv : Value} {s : RnS} (h : RnP w b room q C vs tv s) (n : Nat) : RnP (w.drewN n) b room q C vs tv s := h.kept (fun _ _ => rfl)
/-- Blocks that are not its own may be written. -/
theorem RnP.setO {w : World} {b : Nat} {room : Int} {q : Nat → Int} {C : Nat → Value} {vs : Nat → Value} {tv : Value} {s : RnS} (h : RnP w b room q C vs tv s) {p : Addr} (hp : ¬ RnF b vs tv p.block) (u : Value) : RnP (w.setCell p u) b room q C vs tv s :=
  h.kept (fun _ hk => Below.heap_setCell _ _ _ _ (fun e => hp (e ▸ hk)))
/-- A cell of its own is written. -/
theorem RnP.setB {w : World} {b : Nat} {room : Int} {q : Nat → Int} {C : Nat → Value} {vs : Nat → Value} {tv : Value} {s : RnS} (h : RnP w b room q C vs tv s) (x : Bool) : RnP (w.setCell ⟨b, 66, none⟩ (.bool x)) b room q (updC C 66 (.bool x)) vs tv { s with bg := x } where
  blk := h.blk.set 66 _
  c0 := by rw [updC_ne (by omega)]; exact h.c0
  cq := fun f hf => by rw [updC_ne (by omega)]; exact h.cq f hf
  cc := fun f hf => by rw [updC_ne (by omega)]; exact h.cc f hf
  cv := fun f hf => by rw [updC_ne (by omega)]; exact h.cv f hf
  cs := fun f hf => by rw [updC_ne (by omega)]; exact h.cs f hf
  ct := by rw [updC_ne (by omega)]; exact h.ct
  cb := updC_same _ _ _
  row := fun f hf => (h.row f hf).setCell (p := ⟨b, 66, none⟩) (h.vne f hf) _
  vne := h.vne
  vdis := h.vdis
  trow := Seg.setCell (p := ⟨b, 66, none⟩) h.trow h.tne _
  tne := h.tne
  tdis := h.tdis
theorem RnP.setC {w : World} {b : Nat} {room : Int} {q : Nat → Int} {C : Nat → Value} {vs : Nat → Value} {tv : Value} {s : RnS} (h : RnP w b room q C vs tv s) {f : Nat} (hf : f < 16) (x : Int) : RnP (w.setCell ⟨b, 17 + f, none⟩ (.int .i64 x)) b room q (updC C (17 + f) (.int .i64 x)) vs tv { s with cr := updF s.cr f x } where
  blk := h.blk.set _ _
  c0 := by rw [updC_ne (by omega)]; exact h.c0
  cq := fun g hg => by rw [updC_ne (by omega)]; exact h.cq g hg
  cc := fun g hg => by
    by_cases e : g = f
    · subst e; rw [updC_same]; show _ = Value.int .i64 (updF s.cr g x g); rw [updF_same]
    · rw [updC_ne (by omega)]; show _ = Value.int .i64 (updF s.cr f x g); rw [updF_ne e]; exact h.cc g hg
  cv := fun g hg => by rw [updC_ne (by omega)]; exact h.cv g hg
  cs := fun g hg => by rw [updC_ne (by omega)]; exact h.cs g hg
  ct := by rw [updC_ne (by omega)]; exact h.ct
  cb := by rw [updC_ne (by omega)]; exact h.cb
  row := fun g hg => (h.row g hg).setCell (p := ⟨b, 17 + f, none⟩) (h.vne g hg) _
  vne := h.vne
  vdis := h.vdis
  trow := Seg.setCell (p := ⟨b, 17 + f, none⟩) h.trow h.tne _
  tne := h.tne
  tdis := h.tdis
/-- A flow's list, as a list in the block. -/
theorem RnP.list {w : World} {b : Nat} {room : Int} {q : Nat → Int} {C : Nat → Value} {vs : Nat → Value} {tv : Value} {s : RnS} (h : RnP w b room q C vs tv s) {f : Nat} (hf : f < 16) : LO w b 67 164 C (33 + f * 2) (vs f) (s.fl f) := ⟨h.blk, by omega, h.cv f hf, h.cs f hf, h.row f hf, h.vne f hf⟩
theorem RnP.turns {w : World} {b : Nat} {room : Int} {q : Nat → Int} {C : Nat → Value} {vs : Nat → Value} {tv : Value} {s : RnS} (h : RnP w b room q C vs tv s) : TO w b 67 164 C 65 tv s.tn := ⟨h.blk, by omega, h.ct, h.trow, h.tne⟩
/-- A flow's list is another one. -/
theorem RnP.listed {w w' : World} {b : Nat} {room : Int} {q : Nat → Int} {C : Nat → Value} {vs : Nat → Value} {tv : Value} {s : RnS} (h : RnP w b room q C vs tv s) {f : Nat} (hf : f < 16) {v' : Value} {L' : List Hd} (hl : LO w' b 67 164 (updL C (33 + f * 2) v' L') (33 + f * 2) v' L') (ho : ∀ k, v'.ownBlock = some k → (vs f).ownBlock = some k ∨ w.heap.size ≤ k) (hot : Ot (fun k => k = b ∨ (vs f).ownBlock = some k) w w') : RnP w' b room q (updL C (33 + f * 2) v' L') (updF vs f v') tv { s with fl := updF s.fl f L' } where
  blk := hl.blk
  c0 := by rw [updL_ne (by omega) (by omega)]; exact h.c0
  cq := fun g hg => by rw [updL_ne (by omega) (by omega)]; exact h.cq g hg
  cc := fun g hg => by rw [updL_ne (by omega) (by omega)]; exact h.cc g hg
  cv := fun g hg => by
    by_cases e : g = f
    · subst e; rw [updL_0, updF_same]
    · rw [updL_ne (by omega) (by omega), updF_ne e]; exact h.cv g hg
  cs := fun g hg => by
    by_cases e : g = f
    · subst e; rw [updL_1]; show _ = Value.int .i64 (sumL (updF s.fl g L' g)); rw [updF_same]
    · rw [updL_ne (by omega) (by omega)]; show _ = Value.int .i64 (sumL (updF s.fl f L' g)); rw [updF_ne e]; exact h.cs g hg
  ct := by rw [updL_ne (by omega) (by omega)]; exact h.ct
  cb := by rw [updL_ne (by omega) (by omega)]; exact h.cb
  row := fun g hg => by
    by_cases e : g = f
    · subst e; show Hs w' (updF vs g v' g) (updF s.fl g L' g); rw [updF_same, updF_same]; exact hl.row
    · show Hs w' (updF vs f v' g) (updF s.fl f L' g); rw [updF_ne e, updF_ne e]
      refine Seg.oth (h.row g hg) hot (fun k hk hs => ?_)
      rcases hs with rfl | hs
      · exact h.vne g hg hk
      · exact h.vdis g f hg hf e k hk hs
  vne := fun g hg => by
    by_cases e : g = f
    · subst e; rw [updF_same]; exact hl.ne
    · rw [updF_ne e]; exact h.vne g hg
  vdis := fun g g' hg hg' hne k hk hk' => by
    by_cases e : g = f
    · subst e
      rw [updF_same] at hk
      rw [updF_ne (fun e => hne e.symm)] at hk'
      rcases ho k hk with h1 | h1
      · exact h.vdis g g' hg hg' hne k h1 hk'
      · have := (h.row g' hg').lt hk'; omega
    · rw [updF_ne e] at hk
      by_cases e' : g' = f
      · subst e'
        rw [updF_same] at hk'
        rcases ho k hk' with h1 | h1
        · exact h.vdis g g' hg hg' hne k hk h1
        · have := (h.row g hg).lt hk; omega
      · rw [updF_ne e'] at hk'
        exact h.vdis g g' hg hg' hne k hk hk'
  trow := Seg.oth h.trow hot (fun k hk hs => by
    rcases hs with rfl | hs
    · exact h.tne hk
    · exact h.tdis f hf k hs hk)
  tne := h.tne
  tdis := fun g hg k hk hk' => by
    by_cases e : g = f
    · subst e
      rw [updF_same] at hk
      rcases ho k hk with h1 | h1
      · exact h.tdis g hg k h1 hk'
      · have := Seg.lt h.trow hk'; omega
    · rw [updF_ne e] at hk
      exact h.tdis g hg k hk hk'
/-- The row of turns is another one. -/
theorem RnP.turned {w w' : World} {b : Nat} {room : Int} {q : Nat → Int} {C : Nat → Value} {vs : Nat → Value} {tv tv' : Value} {s : RnS} {l : List Int} (h : RnP w b room q C vs tv s) (hp : TPost w b 67 164 C 65 tv l w' tv') : RnP w' b room q (updC C 65 tv') vs tv' { s with tn := l } where
  blk := hp.pos.blk
  c0 := by rw [updC_ne (by omega)]; exact h.c0
  cq := fun g hg => by rw [updC_ne (by omega)]; exact h.cq g hg
  cc := fun g hg => by rw [updC_ne (by omega)]; exact h.cc g hg
  cv := fun g hg => by rw [updC_ne (by omega)]; exact h.cv g hg
  cs := fun g hg => by rw [updC_ne (by omega)]; exact h.cs g hg
  ct := updC_same _ _ _
  cb := by rw [updC_ne (by omega)]; exact h.cb
  row := fun g hg => Seg.oth (h.row g hg) hp.ot (fun k hk hs => by
    rcases hs with rfl | hs
    · exact h.vne g hg hk
    · exact h.tdis g hg k hk hs)
  vne := h.vne
  vdis := h.vdis
  trow := hp.pos.row
  tne := hp.pos.ne
  tdis := fun g hg k hk hk' => by
    rcases hp.own k hk' with h1 | h1
    · exact h.tdis g hg k hk h1
    · have := (h.row g hg).lt hk; omega
end Go.Proofs.YtfakjedolecdcaaGreatDoor
