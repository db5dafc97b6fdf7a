/-
  A block by its cells; a list anywhere in a block: what Len, Bytes, First, Next and Add return, what each leaves. Conditions: the list lies in memory; its bytes are few.
  millracekeep.left (and kept): true where each packet that was put in is taken, lost, or waits, each just once. Conditions: the steps and what was seen lie in memory; the count is as a fold tells (a premise).
  fair.turns: what join, first, leave and pass do. Conditions: the row of numbers lies in memory, each number stands in it once, few of them.
-/
import Derived.Test.YtfakjedolecdcaaGreatDoorQd
import Derived.Test.YtfakjedolecdcaaGreatDoorU7
import Derived.Lib.SliceRun
namespace Go.Proofs.YtfakjedolecdcaaGreatDoor
open Go.RowKit Go.Extern.Stop Go.Stop Go.Extern

/-- A cell is another one. -/
def updC (C : Nat → Value) (i : Nat) (u : Value) : Nat → Value := fun j => if j = i then u else C j
theorem updC_same (C : Nat → Value) (i : Nat) (u : Value) : updC C i u i = u := by simp [updC]
theorem updC_ne {C : Nat → Value} {i j : Nat} {u : Value} (h : j ≠ i) : updC C i u j = C j := by simp [updC, h]
/-- Block b has n cells, C. -/
def Blk (w : World) (b n : Nat) (T : TypeId) (C : Nat → Value) : Prop := ∃ cur : Array Value, w.heap[b]? = some (.cells cur T (0, 0)) ∧ cur.size = n ∧ ∀ i, i < n → cur[i]? = some (C i)
theorem Blk.lt {w : World} {b n : Nat} {T : TypeId} {C : Nat → Value} (h : Blk w b n T C) : b < w.heap.size := by
  obtain ⟨cur, h1, _⟩ := h
  exact lt_of_block h1
theorem Blk.cell {w : World} {b n : Nat} {T : TypeId} {C : Nat → Value} (h : Blk w b n T C) {i : Nat} (hi : i < n) : w.cell? ⟨b, i, none⟩ = some (C i) ∧ w.frozen? ⟨b, i, none⟩ = false := by
  obtain ⟨cur, h1, _, h3⟩ := h
  constructor
  · simp only [World.cell?, h1]; exact h3 i hi
  · simp [World.frozen?, h1]
theorem Blk.kept {w w' : World} {b n : Nat} {T : TypeId} {C : Nat → Value} (h : Blk w b n T C) (hb : w'.heap[b]? = w.heap[b]?) : Blk w' b n T C := by
  obtain ⟨cur, h1, h2⟩ := h
  exact ⟨cur, hb.trans h1, h2⟩
theorem Blk.cong {w : World} {b n : Nat} {T : TypeId} {C C' : Nat → Value} (h : Blk w b n T C) (he : ∀ i, i < n → C' i = C i) : Blk w b n T C' := by
  obtain ⟨cur, h1, h2, h3⟩ := h
  exact ⟨cur, h1, h2, fun i hi => by rw [he i hi]; exact h3 i hi⟩
theorem Blk.set {w : World} {b n : Nat} {T : TypeId} {C : Nat → Value} (h : Blk w b n T C) (i : Nat) (u : Value) : Blk (w.setCell ⟨b, i, none⟩ u) b n T (updC C i u) := by
  obtain ⟨cur, h1, h2, h3⟩ := h
  refine ⟨cur.setIfInBounds i u, heap_setCell_here h1 u, by simp [h2], fun j hj => ?_⟩
  by_cases e : j = i
  · subst e
    rw [updC_same, Array.getElem?_setIfInBounds_self_of_lt (by omega)]
  · rw [updC_ne e, Array.getElem?_setIfInBounds_ne (fun x => e x.symm)]
    exact h3 j hj
/-- A list at cell o of a block. -/
structure LO (w : World) (b n : Nat) (T : TypeId) (C : Nat → Value) (o : Nat) (v : Value) (L : List Hd) : Prop where
  blk : Blk w b n T C
  lt : o + 1 < n
  c0 : C o = v
  c1 : C (o + 1) = .int .i64 (sumL L)
  row : Hs w v L
  ne : v.ownBlock ≠ some b
/-- Its two cells are others. -/
def updL (C : Nat → Value) (o : Nat) (v : Value) (L : List Hd) : Nat → Value := updC (updC C o v) (o + 1) (.int .i64 (sumL L))
theorem updL_ne {C : Nat → Value} {o j : Nat} {v : Value} {L : List Hd} (h : j ≠ o) (h' : j ≠ o + 1) : updL C o v L j = C j := by rw [updL, updC_ne h', updC_ne h]
theorem updL_0 (C : Nat → Value) (o : Nat) (v : Value) (L : List Hd) : updL C o v L o = v := by rw [updL, updC_ne (by omega), updC_same]
theorem updL_1 (C : Nat → Value) (o : Nat) (v : Value) (L : List Hd) : updL C o v L (o + 1) = .int .i64 (sumL L) := by rw [updL, updC_same]
theorem LO.cells {w : World} {b n : Nat} {T : TypeId} {C : Nat → Value} {o : Nat} {v : Value} {L : List Hd} (h : LO w b n T C o v L) : w.cell? ⟨b, o, none⟩ = some v ∧ w.cell? ⟨b, o + 1, none⟩ = some (.int .i64 (sumL L)) ∧ w.frozen? ⟨b, o, none⟩ = false ∧ w.frozen? ⟨b, o + 1, none⟩ = false := by
  have h0 := h.blk.cell (i := o) (by have := h.lt; omega)
  have h1 := h.blk.cell (i := o + 1) h.lt
  rw [h.c0] at h0
  rw [h.c1] at h1
  exact ⟨h0.1, h1.1, h0.2, h1.2⟩
theorem LO.same {w : World} {b n : Nat} {T : TypeId} {C : Nat → Value} {o : Nat} {v : Value} {L : List Hd} (h : LO w b n T C o v L) : LO w b n T (updL C o v L) o v L := by
  refine ⟨h.blk.cong (fun i _ => ?_), h.lt, updL_0 _ _ _ _, updL_1 _ _ _ _, h.row, h.ne⟩
  by_cases e0 : i = o
  · subst e0; rw [updL_0, h.c0]
  · by_cases e1 : i = o + 1
    · subst e1; rw [updL_1, h.c1]
    · exact updL_ne e0 e1
theorem LO.kept {w w' : World} {b n : Nat} {T : TypeId} {C : Nat → Value} {o : Nat} {v : Value} {L : List Hd} (h : LO w b n T C o v L) (hb : w'.heap[b]? = w.heap[b]?) (hv : ∀ k, v.ownBlock = some k → w'.heap[k]? = w.heap[k]?) : LO w' b n T C o v L := ⟨h.blk.kept hb, h.lt, h.c0, h.c1, h.row.kept hv, h.ne⟩
theorem LO.below {w w' : World} {b n : Nat} {T : TypeId} {C : Nat → Value} {o : Nat} {v : Value} {L : List Hd} (h : LO w b n T C o v L) (hb : Below w.heap.size w w') : LO w' b n T C o v L := h.kept (hb.block b h.blk.lt) (fun k hk => hb.block k (h.row.lt hk))
theorem LO.ot {S : Nat → Prop} {w w' : World} {b n : Nat} {T : TypeId} {C : Nat → Value} {o : Nat} {v : Value} {L : List Hd} (h : LO w b n T C o v L) (ho : Ot S w w') (hb : ¬ S b) (hv : ∀ k, v.ownBlock = some k → ¬ S k) : LO w' b n T C o v L := h.kept (ho.block b h.blk.lt hb) (fun k hk => ho.block k (h.row.lt hk) (hv k hk))
theorem LO.set {w : World} {b n : Nat} {T : TypeId} {C : Nat → Value} {o : Nat} {v' : Value} {L' : List Hd} (h : Blk w b n T C) (ho : o + 1 < n) (hv : Hs w v' L') (hne : v'.ownBlock ≠ some b) : LO ((w.setCell ⟨b, o, none⟩ v').setCell ⟨b, o + 1, none⟩ (.int .i64 (sumL L'))) b n T (updL C o v' L') o v' L' :=
  ⟨(h.set o v').set (o + 1) _, ho, updL_0 _ _ _ _, updL_1 _ _ _ _, (hv.setCell (p := ⟨b, o, none⟩) hne _).setCell (p := ⟨b, o + 1, none⟩) hne _, hne⟩
theorem lenO_any {b : Nat} {n : Nat} {T : TypeId} {C : Nat → Value} {o : Nat} {v : Value} {L : List Hd} (w : World) (h : LO w b n T C o v L) :
    Calls Tryz.prog 139 #[.pointer (some ⟨b, o, none⟩)] w fun e w' => e = .returned (.int .i64 L.length) ∧ w' = w := by
  obtain ⟨c0, c1, f0, f1⟩ := h.cells
  obtain ⟨x, cap, rfl⟩ : ∃ x cap, v = .slice x L.length cap := by
    rcases h.row.form with ⟨rfl, h0, _⟩ | ⟨b, off, cap, rfl, _⟩
    · exact ⟨none, 0, by rw [h0]⟩
    · exact ⟨_, _, rfl⟩
  clear h
  go_enter Tryz.func139, Tryz.ntmps139
  go_wp2
  go_ret
  exact ⟨rfl, rfl⟩
theorem bytesO_any {b : Nat} {n : Nat} {T : TypeId} {C : Nat → Value} {o : Nat} {v : Value} {L : List Hd} (w : World) (h : LO w b n T C o v L) :
    Calls Tryz.prog 138 #[.pointer (some ⟨b, o, none⟩)] w fun e w' => e = .returned (.int .i64 (sumL L)) ∧ w' = w := by
  obtain ⟨c0, c1, f0, f1⟩ := h.cells
  clear h
  go_enter Tryz.func138, Tryz.ntmps138
  go_wp2
  go_ret
  exact ⟨rfl, rfl⟩

theorem firstO_any {b : Nat} {n : Nat} {T : TypeId} {C : Nat → Value} {o : Nat} {v : Value} {L : List Hd} (w : World) (h : LO w b n T C o v L) :
    Calls Tryz.prog 146 #[.pointer (some ⟨b, o, none⟩)] w fun e w' => e = .returned (.tuple #[(hdOr L).val, .bool (!L.isEmpty)]) ∧ Below w.heap.size w w' := by
  obtain ⟨c0, c1, f0, f1⟩ := h.cells
  have hb := h.blk.lt
  cases L with
  | nil =>
    obtain ⟨x, cap, rfl⟩ : ∃ x cap, v = .slice x 0 cap := by
      rcases h.row.form with ⟨rfl, h0, _⟩ | ⟨b, off, cap, rfl, _⟩
      · exact ⟨none, 0, rfl⟩
      · exact ⟨_, _, rfl⟩
    clear h
    go_enter Tryz.func146, Tryz.ntmps146
    go_wp2
    (try simp only [Exit.inBlock, Exit.then])
    refine bodyPost_ret (v := .tuple #[hd0.val, .bool false]) ?_ rfl ⟨rfl, ?_⟩
    · rw [results_cell_tmp rfl]
      go_simp
      rfl
    · repeat' (first | exact Below.refl _ _ | refine Below.setCell ?_ (by simp) _ | refine Below.alloc ?_ (by simp) _)
  | cons x L =>
    obtain ⟨b1, off, cap, rfl, hn, hx, hlt, hc⟩ := h.row.some (by simp)
    have k0 : w.cell? ⟨b1, off, none⟩ = some (.int .i64 x.a) := hc 0 _ rfl
    have k1 : w.cell? ⟨b1, off + 1, none⟩ = some (.int .i64 x.l) := hc 1 _ rfl
    have k2 : w.cell? ⟨b1, off + 2, none⟩ = some (.int .i64 x.f) := hc 2 _ rfl
    have k3 : w.cell? ⟨b1, off + 3, none⟩ = some (.int .i64 x.b) := hc 3 _ rfl
    have k4 : w.cell? ⟨b1, off + 4, none⟩ = some (.int .i64 x.m) := hc 4 _ rfl
    have k5 : w.cell? ⟨b1, off + 5, none⟩ = some (.int .i64 x.n) := hc 5 _ rfl
    clear hc h
    go_enter Tryz.func146, Tryz.ntmps146
    go_wp2
    (try simp only [Exit.inBlock, Exit.then])
    refine bodyPost_ret (v := .tuple #[x.val, .bool true]) ?_ rfl ⟨rfl, ?_⟩
    · rw [results_cell_tmp rfl]
      go_simp
      rfl
    · repeat' (first | exact Below.refl _ _ | refine Below.setCell ?_ (by simp) _ | refine Below.alloc ?_ (by simp) _)
set_option maxHeartbeats 1000000 in
theorem nextO_any {b : Nat} {n : Nat} {T : TypeId} {C : Nat → Value} {o : Nat} {v : Value} {L : List Hd} (w : World) (h : LO w b n T C o v L) (hF : Fit L) :
    Calls Tryz.prog 145 #[.pointer (some ⟨b, o, none⟩)] w fun e w' => e = .returned (.tuple #[(hdOr L).val, .bool (!L.isEmpty)]) ∧ ∃ v', LO w' b n T (updL C o v' L.tail) o v' L.tail ∧ v'.ownBlock = v.ownBlock ∧ Ot (· = b) w w' := by
  have H : Hid (LO w b n T C o v L) := h
  have hb := h.blk.lt
  cases L with
  | nil =>
    clear h
    have hV := Hd.val_eq
    go_enter Tryz.func145, Tryz.ntmps145
    go_wp2_with (go_at_call 146; refine (firstO_any _ (H.out.below ((Below.refl _ _).alloc (Nat.le_refl _) _))).mono ?_; rintro e w1 ⟨rfl, hb1⟩; obtain ⟨c0, c1, f0, f1⟩ := ((H.out.below ((Below.refl _ _).alloc (Nat.le_refl _) _)).below hb1).cells; obtain ⟨hs1, hz⟩ := after_new hb1; have hbs : b < w1.heap.size := Nat.lt_trans hb hs1; obtain ⟨⟨z0, z1, z2, z3, z4, z5⟩, y0, y1, y2, y3, y4, y5⟩ := six hz)
    (try simp only [Exit.inBlock, Exit.then])
    have hB : Below w.heap.size w w1 := ((Below.refl _ _).alloc (Nat.le_refl _) _).trans (hb1.mono (by simp))
    refine bodyPost_ret (v := .tuple #[(hdOr []).val, .bool false]) ?_ rfl ⟨rfl, v, H.out.same.below ?_, rfl, Ot.of_below ?_⟩
    · rw [results_cell_tmp rfl]
      go_simp
    all_goals repeat' (first | with_reducible exact hB | with_reducible refine Below.setCell ?_ (by simp) _ | with_reducible refine Below.alloc ?_ (by simp; omega) _)
  | cons x L =>
    clear h
    have hV := Hd.val_eq
    have hO : hdOr (x :: L) = x := rfl
    have hw : IntKind.i64.wrap (sumL (x :: L) - x.l) = sumL L := by
      have h1 := Fit.sum hF.2
      have h2 := Fit.sum hF.tail.2
      have h3 := hF.1
      rw [IntKind.wrap_i64]
      simp only [sumL, List.length_cons] at h1 h3 ⊢
      omega
    obtain ⟨b1, off, cap, rfl, hn, hx, hlt, _⟩ := H.out.row.some (by simp)
    go_enter Tryz.func145, Tryz.ntmps145
    go_wp2_with (go_at_call 146; refine (firstO_any _ (H.out.below ((Below.refl _ _).alloc (Nat.le_refl _) _))).mono ?_; rintro e w1 ⟨rfl, hb1⟩; obtain ⟨c0, c1, f0, f1⟩ := ((H.out.below ((Below.refl _ _).alloc (Nat.le_refl _) _)).below hb1).cells; obtain ⟨hs1, hz⟩ := after_new hb1; have hbs : b < w1.heap.size := Nat.lt_trans hb hs1; obtain ⟨⟨z0, z1, z2, z3, z4, z5⟩, y0, y1, y2, y3, y4, y5⟩ := six hz)
    all_goals go_region
    all_goals go_wp2
    all_goals (try simp only [Exit.inBlock, Exit.then])
    all_goals
      have hB : Below w.heap.size w w1 := ((Below.refl _ _).alloc (Nat.le_refl _) _).trans (hb1.mono (by simp))
      have H1 := H.out.below hB
      have hne : b1 ≠ b := fun e => H1.ne (by rw [e]; rfl)
    · refine bodyPost_ret (v := .tuple #[x.val, .bool true]) ?_ rfl ⟨rfl, _, LO.ot (S := (· = w.heap.size)) (LO.set H1.blk H1.lt (v' := .slice (some ⟨b1, off, none⟩) L.length 0) (L' := L) (H1.row.tail _ _ (Or.inr ⟨by omega, rfl, rfl⟩)) (by simp [Value.ownBlock, hne])) ?_ ?_ ?_, rfl, ?_⟩
      · rw [results_cell_tmp rfl]
        go_simp
      · repeat' (first | with_reducible exact Ot.refl _ _ | with_reducible refine Ot.drew ?_ | with_reducible refine Ot.setCell ?_ (by simp) _ | with_reducible refine Ot.alloc ?_ _)
      · omega
      · intro k hk; simp [Value.ownBlock] at hk; omega
      · repeat' (first | with_reducible exact Ot.of_below hB | with_reducible refine Ot.drew ?_ | with_reducible refine Ot.setCell ?_ (by simp) _ | with_reducible refine Ot.alloc ?_ _)
    · refine bodyPost_ret (v := .tuple #[x.val, .bool true]) ?_ rfl ⟨rfl, _, LO.ot (S := (· = w.heap.size)) (LO.set H1.blk H1.lt (v' := .slice (some ⟨b1, off + 6, none⟩) L.length (cap - 1)) (L' := L) (H1.row.tail _ _ (Or.inl ⟨rfl, rfl⟩)) (by simp [Value.ownBlock, hne])) ?_ ?_ ?_, rfl, ?_⟩
      · rw [results_cell_tmp rfl]
        go_simp
      · repeat' (first | with_reducible exact Ot.refl _ _ | with_reducible refine Ot.drew ?_ | with_reducible refine Ot.setCell ?_ (by simp) _ | with_reducible refine Ot.alloc ?_ _)
      · omega
      · intro k hk; simp [Value.ownBlock] at hk; omega
      · repeat' (first | with_reducible exact Ot.of_below hB | with_reducible refine Ot.drew ?_ | with_reducible refine Ot.setCell ?_ (by simp) _ | with_reducible refine Ot.alloc ?_ _)
theorem addO_mid {w W w1 : World} {ob : Obj} {b : Nat} {n : Nat} {T : TypeId} {C : Nat → Value} {o : Nat} {v : Value} {L : List Hd} (H : LO w b n T C o v L) (hB : Below (w.alloc ob).heap.size (w.alloc ob) W) (hg : W.grownBy w1 v.ownBlock) :
    w1.heap[b]? = w.heap[b]? ∧ w1.heap[w.heap.size]? = some ob ∧ w.heap.size + 1 ≤ w1.heap.size := by
  have hs : w.heap.size + 1 ≤ W.heap.size := by have := hB.size; simpa using this
  have hb := H.blk.lt
  refine ⟨?_, ?_, Nat.le_trans hs hg.size⟩
  · rw [hg.block b (by omega) (fun e => H.ne e.symm), hB.block b (by simp; omega), Below.heap_alloc _ _ _ hb]
  · rw [hg.block _ (by omega) (fun e => by have := H.row.lt e.symm; omega), hB.block _ (by simp)]
    exact heap_alloc_new w ob
theorem LO.two {w w1 : World} {b n : Nat} {T : TypeId} {C : Nat → Value} {o : Nat} {v : Value} {L : List Hd} (hB : Blk w1 b n T C) (h : LO w b n T C o v L) : w1.cell? ⟨b, o, none⟩ = some v ∧ w1.cell? ⟨b, o + 1, none⟩ = some (.int .i64 (sumL L)) ∧ w1.frozen? ⟨b, o, none⟩ = false ∧ w1.frozen? ⟨b, o + 1, none⟩ = false := by
  have h0 := hB.cell (i := o) (by have := h.lt; omega)
  have h1 := hB.cell (i := o + 1) h.lt
  rw [h.c0] at h0
  rw [h.c1] at h1
  exact ⟨h0.1, h1.1, h0.2, h1.2⟩
set_option maxHeartbeats 1000000 in
theorem addO_any {b : Nat} {n : Nat} {T : TypeId} {C : Nat → Value} {o : Nat} {v : Value} {L : List Hd} (x : Hd) (w : World) (h : LO w b n T C o v L) (hF : Fit (L ++ [x])) :
    Calls Tryz.prog 143 #[.pointer (some ⟨b, o, none⟩), x.val] w fun e w' => e = .returned (.tuple #[]) ∧ ∃ v', LO w' b n T (updL C o v' (L ++ [x])) o v' (L ++ [x]) ∧ (∀ k, v'.ownBlock = some k → v.ownBlock = some k ∨ w.heap.size ≤ k) ∧ Ot (fun k => k = b ∨ v.ownBlock = some k) w w' := by
  have H : Hid (LO w b n T C o v L) := h
  obtain ⟨c0, c1, f0, f1⟩ := h.cells
  have hb := h.blk.lt
  have HR : Hid (Hs w v L) := h.row
  clear h
  have hV := Hd.val_eq
  have hw : IntKind.i64.wrap (sumL L + x.l) = sumL (L ++ [x]) := by
    have h1 := Fit.sum hF.2
    have h3 := hF.1
    rw [IntKind.wrap_i64]
    rw [sumL_append] at h1 ⊢
    simp only [sumL, List.length_append, List.length_cons, List.length_nil] at h1 h3 ⊢
    omega
  have hln : L.length + 1 ≤ 1000000 := by have := hF.1; simpa using this
  obtain ⟨i0, hi, hz0, hz1, hz2⟩ := info_parts infoHeld
  go_enter Tryz.func143, Tryz.ntmps143
  go_wp2
  go_region_law (refine step_append_seg _ (by rfl) (.tmp 8) (.tmp 10) 74 (by rfl) 76 i0 _ 6 48 Tryz.underlying74 hi hz0 hz1 hz2 rfl (by decide) _ _ _ (by rfl) (HR.out.below (by repeat' (first | with_reducible exact Below.refl _ _ | with_reducible refine Below.drew ?_ | with_reducible refine below_alloc_ ?_ _))) ⟨w.heap.size + 1, 0, none⟩ 1 1 x.cs (by rfl) rfl (news_of (new_block_ (by simp))) x.one (by decide) (by unfold maxLen; omega) (by omega) _ rfl ?_; intro g off cap w1 hs1 hg1 ha1 hl1; obtain ⟨m0, m1, m2⟩ := addO_mid H.out (by repeat' (first | with_reducible exact Below.refl _ _ | with_reducible refine Below.drew ?_ | with_reducible refine below_alloc_ ?_ _)) hg1; have hB1 : Blk w1 b n T C := H.out.blk.kept m0; obtain ⟨d0, d1, e0, e1⟩ := LO.two hB1 H.out; obtain ⟨⟨z0, z1, z2, z3, z4, z5⟩, y0, y1, y2, y3, y4, y5⟩ := six m1; have hbs : b < w1.heap.size := by omega)
  all_goals
    go_wp2
    go_region
    go_wp2
    go_end0
    have hgb : g ≠ b := by
      rintro rfl
      rcases ha1 with ha1 | ha1
      · exact H.out.ne ha1
      · simp at ha1; omega
    refine ⟨rfl, _, (LO.set hB1 H.out.lt (Hs.snoc hs1 rfl) (by simpa [Value.ownBlock] using hgb)).kept rfl (fun _ _ => rfl), ?_, ?_⟩
    · intro k hk
      simp only [Value.ownBlock, Option.some.injEq] at hk
      subst hk
      rcases ha1 with ha1 | ha1
      · exact Or.inl ha1
      · right; simp at ha1; omega
    · refine Ot.drew ?_
      refine Ot.setCell ?_ (Or.inl (Or.inl rfl)) _
      refine Ot.setCell ?_ (Or.inl (Or.inl rfl)) _
      refine Ot.grown ?_ hg1 (fun k e => Or.inl (Or.inr e))
      refine Ot.of_below ?_
      repeat' (first | with_reducible exact Below.refl _ _ | with_reducible refine Below.drew ?_ | with_reducible refine below_alloc_ ?_ _)
end Go.Proofs.YtfakjedolecdcaaGreatDoor
namespace Go.Proofs.YtfakjedolecdcaaGreatDoor
open Go.RowKit Go.Extern.Stop Go.Stop Go.Extern

/-- What left counts: the bytes of each packet, whether it has gone (1), how many wait, how many bytes. -/
structure LS where
  size : List Int
  st : List Int
  wait : Int
  bytes : Int
/-- Packet k goes. -/
def outS (s : LS) (k : Int) : Option LS := if 0 ≤ k ∧ k < s.st.length ∧ s.st[k.toNat]? = some 0 then some { s with st := s.st.set k.toNat 1, wait := s.wait - 1, bytes := s.bytes - s.size.getD k.toNat 0 } else none
def outsS (s : LS) : List Int → Option LS
  | [] => some s
  | k :: r => match outS s k with
    | none => none
    | some s' => outsS s' r
def addS (s : LS) (t : Stp) : LS := if t.what = 0 then { size := s.size ++ [t.l], st := s.st ++ [0], wait := s.wait + 1, bytes := s.bytes + t.l } else s
/-- How many zeros, and the sum of what stands beside them. -/
def zc : List Int → Int
  | [] => 0
  | x :: r => (if x = 0 then 1 else 0) + zc r
def zs : List Int → List Int → Int
  | z :: zr, x :: r => (if x = 0 then z else 0) + zs zr r
  | _, _ => 0
theorem zc_append (a b : List Int) : zc (a ++ b) = zc a + zc b := by
  induction a with
  | nil => simp [zc]
  | cons x r ih => simp only [List.cons_append, zc, ih]; omega
theorem zs_append {a b : List Int} : ∀ {c d : List Int}, a.length = c.length → zs (a ++ b) (c ++ d) = zs a c + zs b d := by
  induction a with
  | nil => intro c d h; cases c with | nil => simp [zs] | cons _ _ => simp at h
  | cons x r ih =>
    intro c d h
    cases c with
    | nil => simp at h
    | cons y t => simp only [List.cons_append, zs, ih (c := t) (d := d) (by simpa using h)]; omega
theorem zc_set : ∀ {l : List Int} {j : Nat}, l[j]? = some 0 → zc (l.set j 1) = zc l - 1 := by
  intro l
  induction l with
  | nil => intro j h; simp at h
  | cons x r ih =>
    intro j h
    cases j with
    | zero => simp at h; subst h; simp [zc]; omega
    | succ j => simp only [List.set_cons_succ, zc, ih (by simpa using h)]; omega
theorem zs_set : ∀ {z l : List Int} {j : Nat}, z.length = l.length → l[j]? = some 0 → zs z (l.set j 1) = zs z l - z.getD j 0 := by
  intro z
  induction z with
  | nil => intro l j h1 h; cases l with | nil => simp at h | cons _ _ => simp at h1
  | cons y t ih =>
    intro l j h1 h
    cases l with
    | nil => simp at h
    | cons x r =>
      cases j with
      | zero => simp at h; subst h; simp [zs]; omega
      | succ j =>
        have := ih (l := r) (j := j) (by simpa using h1) (by simpa using h)
        simp only [List.set_cons_succ, zs, this, List.getD_cons_succ]
        omega
theorem zc_le (l : List Int) : 0 ≤ zc l ∧ zc l ≤ l.length := by
  induction l with
  | nil => simp [zc]
  | cons x r ih => simp only [zc, List.length_cons]; split <;> omega
theorem zs_le : ∀ (z l : List Int), (∀ x ∈ z, 0 ≤ x ∧ x ≤ 10000) → 0 ≤ zs z l ∧ zs z l ≤ 10000 * l.length := by
  intro z
  induction z with
  | nil => intro l _; simp [zs]; omega
  | cons y t ih =>
    intro l h
    cases l with
    | nil => simp [zs]
    | cons x r =>
      have h1 := ih r (fun x hx => h x (by simp [hx]))
      have h2 := h y (by simp)
      simp only [zs, List.length_cons]
      split <;> omega
/-- The numbers are as they should be. -/
structure LS.Ok (s : LS) (n : Nat) : Prop where
  len : s.size.length = s.st.length
  le : s.st.length ≤ n
  each : ∀ x ∈ s.size, 0 ≤ x ∧ x ≤ 10000
  wait : s.wait = zc s.st
  bytes : s.bytes = zs s.size s.st
theorem LS.Ok.add {s : LS} {n : Nat} (h : s.Ok n) {t : Stp} (hl : t.what = 0 → 0 ≤ t.l ∧ t.l ≤ 10000) : (addS s t).Ok (n + 1) := by
  unfold addS
  split
  · rename_i hw
    refine ⟨by simp [h.len], by simp; exact h.le, ?_, ?_, ?_⟩
    · intro x hx
      rcases List.mem_append.1 hx with hx | hx
      · exact h.each x hx
      · simp at hx; exact hx ▸ hl hw
    · simp only [h.wait, zc_append]; simp [zc]
    · simp only [h.bytes, zs_append h.len]; simp [zs]
  · exact ⟨h.len, Nat.le_succ_of_le h.le, h.each, h.wait, h.bytes⟩
theorem LS.Ok.out {s s' : LS} {n : Nat} {k : Int} (h : s.Ok n) (ho : outS s k = some s') : s'.Ok n := by
  unfold outS at ho
  split at ho
  · rename_i hc
    simp only [Option.some.injEq] at ho
    subst ho
    refine ⟨by simp [h.len], by simpa using h.le, h.each, ?_, ?_⟩
    · simp only [h.wait, zc_set hc.2.2]
    · simp only [h.bytes, zs_set h.len hc.2.2]
  · simp at ho
theorem LS.Ok.bounds {s : LS} {n : Nat} (h : s.Ok n) : (0 ≤ s.wait ∧ s.wait ≤ n) ∧ 0 ≤ s.bytes ∧ s.bytes ≤ 10000 * n := by
  have h1 := zc_le s.st
  have h2 := zs_le s.size s.st h.each
  have h3 := h.le
  rw [h.wait, h.bytes]
  omega
/-- It lies in memory: four variables from block B on, and two rows behind them. -/
structure LSAt (w : World) (B : Nat) (s : LS) (zv sv : Value) : Prop where
  vz : w.heap[B]? = some (.cells #[zv] 22 (0, 0))
  vs : w.heap[B + 1]? = some (.cells #[sv] 22 (0, 0))
  vw : w.heap[B + 2]? = some (.cells #[.int .i64 s.wait] 3 (0, 0))
  vb : w.heap[B + 3]? = some (.cells #[.int .i64 s.bytes] 3 (0, 0))
  rz : Ins w zv s.size
  rs : Ins w sv s.st
  nz : ∀ k, zv.ownBlock = some k → B + 4 ≤ k ∧ sv.ownBlock ≠ some k
  ns : ∀ k, sv.ownBlock = some k → B + 4 ≤ k
theorem one_cell {w : World} {b : Nat} {t : TypeId} {v : Value} (h : w.heap[b]? = some (.cells #[v] t (0, 0))) : w.cell? ⟨b, 0, none⟩ = some v ∧ w.frozen? ⟨b, 0, none⟩ = false := by
  refine ⟨?_, ?_⟩
  all_goals simp [World.cell?, World.frozen?, h]
theorem Ins.at {w : World} {v : Value} {l : List Int} (h : Ins w v l) {k : Nat} {x : Int} (hk : l[k]? = some x) : ∃ b off cap, v = .slice (some ⟨b, off, none⟩) l.length cap ∧ b < w.heap.size ∧ w.cell? ⟨b, off + k, none⟩ = some (.int .i64 x) ∧ w.frozen? ⟨b, off + k, none⟩ = false := by
  have hkl := (List.getElem?_eq_some_iff.1 hk).1
  rcases h.2 with ⟨_, h0⟩ | ⟨b, off, cap, cur, rfl, hh, _, _, _, hc⟩
  · omega
  · refine ⟨b, off, cap, rfl, lt_of_block hh, ?_, by simp [World.frozen?, hh]⟩
    simp only [World.cell?, hh]
    exact hc k _ (by simp [hk])
theorem Ins.slice {w : World} {v : Value} {l : List Int} (h : Ins w v l) : ∃ x cap, v = .slice x l.length cap := by
  rcases h.form with ⟨rfl, h0, _⟩ | ⟨b, off, cap, rfl, _⟩
  · exact ⟨none, 0, by rw [h0]⟩
  · exact ⟨_, _, rfl⟩
/-- One of the ints is written. -/
theorem Ins.set {w : World} {b off cap : Nat} {l : List Int} (h : Ins w (.slice (some ⟨b, off, none⟩) l.length cap) l) (k : Nat) (hk : k < l.length) (x : Int) : Ins (w.setCell ⟨b, off + k, none⟩ (.int .i64 x)) (.slice (some ⟨b, off, none⟩) l.length cap) (l.set k x) := by
  rcases h.2 with ⟨hv, _⟩ | ⟨b', off', cap', cur, hv, hh, h1, h2, h3, h4⟩
  · simp at hv
  · simp only [Value.slice.injEq, Option.some.injEq, Addr.mk.injEq, and_true, true_and] at hv
    obtain ⟨⟨rfl, rfl⟩, rfl⟩ := hv
    have hls : (l.set k x).length = l.length := by simp
    refine ⟨by simp, Or.inr ⟨b, off, cap, _, by rw [hls], heap_setCell_here hh _, by omega, h2, by simpa using h3, fun j u hj => ?_⟩⟩
    rw [Array.getElem?_setIfInBounds]
    rw [List.map_set, List.getElem?_set] at hj
    by_cases hjk : k = j
    · subst hjk
      rw [if_pos rfl, if_pos (by omega)]
      rw [if_pos rfl, if_pos (by simpa using hk)] at hj
      exact hj
    · rw [if_neg (by omega)]
      rw [if_neg hjk] at hj
      exact h4 j u hj

theorem LSAt.out {w : World} {B : Nat} {s : LS} {bz oz cz bs os cs j : Nat} {z : Int} (h : LSAt w B s (.slice (some ⟨bz, oz, none⟩) s.size.length cz) (.slice (some ⟨bs, os, none⟩) s.st.length cs)) (hj : j < s.st.length) : LSAt (((w.setCell ⟨bs, os + j, none⟩ (.int .i64 1)).setCell ⟨B + 2, 0, none⟩ (.int .i64 (s.wait - 1))).setCell ⟨B + 3, 0, none⟩ (.int .i64 (s.bytes - z))) B { s with st := s.st.set j 1, wait := s.wait - 1, bytes := s.bytes - z } (.slice (some ⟨bz, oz, none⟩) s.size.length cz) (.slice (some ⟨bs, os, none⟩) s.st.length cs) := by
  have hd1 := h.ns bs rfl
  have hd2 := (h.nz bz rfl).1
  have hd3 : bz ≠ bs := fun e => (h.nz bz rfl).2 (by rw [e]; rfl)
  refine ⟨?_, ?_, ?_, ?_, ?_, ?_, h.nz, h.ns⟩
  · rw [Below.heap_setCell _ _ _ _ (by show B ≠ B + 3; omega), Below.heap_setCell _ _ _ _ (by show B ≠ B + 2; omega), Below.heap_setCell _ _ _ _ (by show B ≠ bs; omega)]
    exact h.vz
  · rw [Below.heap_setCell _ _ _ _ (by show B + 1 ≠ B + 3; omega), Below.heap_setCell _ _ _ _ (by show B + 1 ≠ B + 2; omega), Below.heap_setCell _ _ _ _ (by show B + 1 ≠ bs; omega)]
    exact h.vs
  · rw [Below.heap_setCell _ _ _ _ (by show B + 2 ≠ B + 3; omega), heap_setCell_here (((Below.heap_setCell _ _ _ _ (by show B + 2 ≠ bs; omega))).trans h.vw)]
    rfl
  · rw [heap_setCell_here ((Below.heap_setCell _ _ _ _ (by show B + 3 ≠ B + 2; omega)).trans ((Below.heap_setCell _ _ _ _ (by show B + 3 ≠ bs; omega)).trans h.vb))]
    rfl
  · exact ((h.rz.setCell (p := ⟨bs, os + j, none⟩) (by simpa [Value.ownBlock] using hd3) _).setCell (p := ⟨B + 2, 0, none⟩) (by simp [Value.ownBlock]; omega) _).setCell (p := ⟨B + 3, 0, none⟩) (by simp [Value.ownBlock]; omega) _
  · have := h.rs.set j hj 1
    exact (Seg.setCell this (p := ⟨B + 2, 0, none⟩) (by simp [Value.ownBlock]; omega) _).setCell (p := ⟨B + 3, 0, none⟩) (by simp [Value.ownBlock]; omega) _
theorem LSAt.drew {w : World} {B : Nat} {s : LS} {zv sv : Value} (h : LSAt w B s zv sv) : LSAt w.drew B s zv sv := ⟨h.vz, h.vs, h.vw, h.vb, h.rz, h.rs, h.nz, h.ns⟩
theorem LSAt.drewN {w : World} {B : Nat} {s : LS} {zv sv : Value} (h : LSAt w B s zv sv) (q : Nat) : LSAt (w.drewN q) B s zv sv := ⟨h.vz, h.vs, h.vw, h.vb, h.rz, h.rs, h.nz, h.ns⟩
set_option maxHeartbeats 1000000 in
theorem out_any {B : Nat} {s s' : LS} {zv sv : Value} {n : Nat} (k : Int) (w : World) (h : LSAt w B s zv sv) (hok : s.Ok n) (hn : n ≤ 1000000) (ho : outS s k = some s') :
    Calls Tryz.prog 24 #[.int .i64 k, .pointer (some ⟨B + 1, 0, none⟩), .pointer (some ⟨B + 2, 0, none⟩), .pointer (some ⟨B + 3, 0, none⟩), .pointer (some ⟨B, 0, none⟩)] w fun e w' => e = .returned (.bool true) ∧ LSAt w' B s' zv sv ∧ Below B w w' ∧ w.heap.size = w'.heap.size := by
  have H : Hid (LSAt w B s zv sv) := h
  unfold outS at ho
  split at ho
  · rename_i hc
    obtain ⟨h0, h1, h2⟩ := hc
    simp only [Option.some.injEq] at ho
    obtain ⟨j, rfl⟩ : ∃ j : Nat, k = (j : Int) := ⟨k.toNat, by omega⟩
    simp only [Int.toNat_natCast] at h2 ho
    have hj : j < s.st.length := by omega
    obtain ⟨z, hz⟩ : ∃ z, s.size[j]? = some z := ⟨_, List.getElem?_eq_getElem (by rw [hok.len]; exact hj)⟩
    have HZ : Hid (s.size[j]? = some z) := hz
    have hz0 := hok.each z (List.mem_of_getElem? hz)
    obtain ⟨a0, b0⟩ := one_cell h.vz
    obtain ⟨a1, b1⟩ := one_cell h.vs
    obtain ⟨a2, b2⟩ := one_cell h.vw
    obtain ⟨a3, b3⟩ := one_cell h.vb
    obtain ⟨bs, os, cs, rfl, hbs, ks, fs⟩ := h.rs.at h2
    obtain ⟨bz, oz, cz, rfl, hbz, kz, fz⟩ := h.rz.at hz
    have hd1 := h.ns bs rfl
    have hd2 := (h.nz bz rfl).1
    have hd3 : bz ≠ bs := fun e => (h.nz bz rfl).2 (by rw [e]; rfl)
    have hl3 := lt_of_block h.vb
    have HO : Hid ({ s with st := s.st.set j 1, wait := s.wait - 1, bytes := s.bytes - s.size.getD j 0 } = s') := ho
    have hg : s.size.getD j 0 = z := by simp [List.getD, hz]
    have HG : Hid (s.size.getD j 0 = z) := hg
    obtain ⟨sz, hsz⟩ : ∃ sz, s.st.length = sz := ⟨_, rfl⟩
    have HS : Hid (s.st.length = sz) := hsz
    have hzl : s.size.length = sz := by rw [hok.len]; exact hsz
    have HW : Hid (s.Ok n) := hok
    obtain ⟨hw1, hw2⟩ := hok.bounds
    have hln : sz ≤ n := by rw [← hsz]; exact hok.le
    rw [hsz] at hj a1
    rw [hzl] at a0
    clear h ho h1 h2 hz hg hok hsz hzl
    go_enter Tryz.func24, Tryz.ntmps24
    go_wp2
    go_region
    all_goals
      go_wp2
      go_ret
      have h := H.out
      rw [← HO.out, HG.out]
      exact ⟨rfl, (h.out (z := z) (by rw [HS.out]; exact hj)).drew, (((Below.refl B w).setCell (p := ⟨bs, os + j, none⟩) (by show B ≤ bs; omega) _).setCell (p := ⟨B + 2, 0, none⟩) (by show B ≤ B + 2; omega) _).setCell (p := ⟨B + 3, 0, none⟩) (by show B ≤ B + 3; omega) _ |>.drew, by simp [World.setCell]⟩
  · simp at ho
end Go.Proofs.YtfakjedolecdcaaGreatDoor
namespace Go.Proofs.YtfakjedolecdcaaGreatDoor
open Go.RowKit Go.Extern.Stop Go.Stop Go.Extern

/-- A row of numbers at cell o of block b. -/
structure TO (w : World) (b n : Nat) (T : TypeId) (C : Nat → Value) (o : Nat) (tv : Value) (l : List Int) : Prop where
  blk : Blk w b n T C
  lt : o < n
  c0 : C o = tv
  row : Ins w tv l
  ne : tv.ownBlock ≠ some b
theorem TO.cell {w : World} {b n : Nat} {T : TypeId} {C : Nat → Value} {o : Nat} {tv : Value} {l : List Int} (h : TO w b n T C o tv l) : w.cell? ⟨b, o, none⟩ = some tv ∧ w.frozen? ⟨b, o, none⟩ = false := by
  have h0 := h.blk.cell (i := o) h.lt
  rw [h.c0] at h0
  exact h0
theorem TO.kept {w w' : World} {b n : Nat} {T : TypeId} {C : Nat → Value} {o : Nat} {tv : Value} {l : List Int} (h : TO w b n T C o tv l) (hb : w'.heap[b]? = w.heap[b]?) (hv : ∀ k, tv.ownBlock = some k → w'.heap[k]? = w.heap[k]?) : TO w' b n T C o tv l := ⟨h.blk.kept hb, h.lt, h.c0, Seg.kept h.row hv, h.ne⟩
theorem TO.below {w w' : World} {b n : Nat} {T : TypeId} {C : Nat → Value} {o : Nat} {tv : Value} {l : List Int} (h : TO w b n T C o tv l) (hb : Below w.heap.size w w') : TO w' b n T C o tv l := h.kept (hb.block b h.blk.lt) (fun k hk => hb.block k (Seg.lt h.row hk))
theorem TO.set {w : World} {b n : Nat} {T : TypeId} {C : Nat → Value} {o : Nat} {tv : Value} {l : List Int} (h : Blk w b n T C) (ho : o < n) (hv : Ins w tv l) (hne : tv.ownBlock ≠ some b) : TO (w.setCell ⟨b, o, none⟩ tv) b n T (updC C o tv) o tv l :=
  ⟨h.set o tv, ho, updC_same _ _ _, Seg.setCell (p := ⟨b, o, none⟩) hv hne _, hne⟩
/-- What turns' methods leave. -/
structure TPost (w : World) (b n : Nat) (T : TypeId) (C : Nat → Value) (o : Nat) (tv : Value) (l : List Int) (w' : World) (tv' : Value) : Prop where
  pos : TO w' b n T (updC C o tv') o tv' l
  own : ∀ k, tv'.ownBlock = some k → tv.ownBlock = some k ∨ w.heap.size ≤ k
  ot : Ot (fun k => k = b ∨ tv.ownBlock = some k) w w'
theorem infoIntT : (Tryz.prog.info? 3).map (fun i => (i.zero, i.size, i.bytes)) = some (some (.int .i64 0), 1, 8) := by kernel_rfl
theorem tfirst_any {tv : Value} {l : List Int} (w : World) (h : Ins w tv l) : Calls Tryz.prog 170 #[tv] w fun e w' => e = .returned (.tuple #[.int .i64 (l.headD 0), .bool (!l.isEmpty)]) ∧ w' = w := by
  cases l with
  | nil =>
    obtain ⟨x, cap, rfl⟩ := Ins.slice h
    clear h
    go_enter Tryz.func170, Tryz.ntmps170
    go_wp2
    go_ret2
    exact ⟨rfl, rfl⟩
  | cons a l =>
    obtain ⟨g, off, cap, rfl, hg, hc, _⟩ := Ins.at h (k := 0) (x := a) rfl
    simp only [Nat.add_zero, List.length_cons] at hc ⊢
    clear h
    go_enter Tryz.func170, Tryz.ntmps170
    go_wp2
    go_ret2
    exact ⟨rfl, rfl⟩
set_option maxHeartbeats 1000000 in
theorem join_any {b n : Nat} {T : TypeId} {C : Nat → Value} {o : Nat} {tv : Value} {l : List Int} (m : Int) (w : World) (h : TO w b n T C o tv l) (hl : l.length ≤ 1000) :
    Calls Tryz.prog 168 #[.pointer (some ⟨b, o, none⟩), .int .i64 m] w fun e w' => e = .returned (.tuple #[]) ∧ ∃ tv', TPost w b n T C o tv (l ++ [m]) w' tv' := by
  have H : Hid (TO w b n T C o tv l) := h
  obtain ⟨c0, f0⟩ := h.cell
  have hb := h.blk.lt
  have HR : Hid (Ins w tv l) := h.row
  clear h
  obtain ⟨i0, hi, hz0, hz1, hz2⟩ := info_parts infoIntT
  go_enter Tryz.func168, Tryz.ntmps168
  go_wp2_with (at_builtin; refine wpList_append_seg _ rfl (.tmp 7) (.tmp 9) 156 rfl 3 i0 _ 1 8 Tryz.underlying156 hi hz0 hz1 hz2 rfl (by decide) tv l.length (l.map (Value.int .i64)) rfl (Seg.below HR.out (below_alloc_ (Below.refl _ _) _)) ⟨w.heap.size, 0, none⟩ 1 1 [.int .i64 m] rfl rfl (news_of (new_block_ (by simp))) (by simp [Value.oneCell']) (by decide) (by unfold maxLen; omega) (by omega) _ rfl ?_; intro g off cap w1 hs1 hg1 ha1 hl1; have hB1 : Blk w1 b n T C := H.out.blk.kept ((hg1.block b (by simp; omega) (fun e => H.out.ne e.symm)).trans (Below.heap_alloc _ _ _ hb)); have k0 := hB1.cell H.out.lt; have hbs := hB1.lt; obtain ⟨k1, k2⟩ := k0; rw [H.out.c0] at k1)
  go_end0
  have hgb : g ≠ b := by
    rintro rfl
    rcases ha1 with ha1 | ha1
    · exact H.out.ne ha1
    · simp at ha1; omega
  refine ⟨rfl, _, TO.set (l := l ++ [m]) hB1 H.out.lt ?_ (by simpa [Value.ownBlock] using hgb), ?_, ?_⟩
  · unfold Ins
    simpa using hs1
  · intro k hk
    simp only [Value.ownBlock, Option.some.injEq] at hk
    subst hk
    rcases ha1 with ha1 | ha1
    · exact Or.inl ha1
    · right; simp at ha1; omega
  · refine Ot.setCell ?_ (Or.inl (Or.inl rfl)) _
    refine Ot.grown ?_ hg1 (fun k e => Or.inl (Or.inr e))
    exact Ot.alloc (Ot.refl _ _) _
theorem eLeaveQ (args : Array Value) (W : World) : (callFunc 176 args).run Tryz.prog W = .ok (.enter 176 args) W := enters_of Tryz.func176 (by kernel_rfl) rfl args W
theorem leaveQ_any (m n : Int) (c : Nat) (w : World) (hc : w.cell? ⟨c, 0, none⟩ = some (.int .i64 n)) : Calls Tryz.prog 176 #[.int .i64 m, .pointer (some ⟨c, 0, none⟩)] w fun e w' => e = .returned (.bool (m == n)) ∧ w' = w := by
  go_enter Tryz.func176, Tryz.ntmps176
  go_wp2
  go_ret
  exact ⟨rfl, rfl⟩
set_option maxHeartbeats 1000000 in
/-- The first place of n. -/
theorem tidx_any {tv : Value} (A B : List Int) (n : Int) (c : Nat) (w : World) (h : Ins w tv (A ++ n :: B)) (hA : n ∉ A) (hc : w.cell? ⟨c, 0, none⟩ = some (.int .i64 n)) (hl : (A ++ n :: B).length ≤ 1000) :
    Calls Tryz.prog 177 #[tv, .func (.func 176) #[] #[.pointer (some ⟨c, 0, none⟩)]] w fun e w' => e = .returned (.int .i64 A.length) ∧ w' = w := by
  have HI : Hid (Ins w tv (A ++ n :: B)) := h
  obtain ⟨x, cap, rfl⟩ := Ins.slice h
  obtain ⟨N, hN⟩ : ∃ N, (A ++ n :: B).length = N := ⟨_, rfl⟩
  have HN : Hid ((A ++ n :: B).length = N) := hN
  have hN2 : A.length < N := by rw [← hN]; simp
  rw [hN] at HI hl ⊢
  have heq := eLeaveQ
  clear h hN
  go_enter Tryz.func177, Tryz.ntmps177
  go_wp2
  go_loopw [8] (fun i wr => ∃ k : Nat, k ≤ A.length ∧ i = .int .i64 k ∧ wr = w) (fun i _ => N - (intOf i).toNat)
  case atStart => exact ⟨0, Nat.zero_le _, rfl, rfl⟩
  case round =>
    obtain ⟨k, hk, rfl, rfl⟩ := hrel
    by_cases hlt : k < A.length
    · have hget : (A ++ n :: B)[k]? = some A[k] := by rw [List.getElem?_append_left hlt, List.getElem?_eq_getElem hlt]
      obtain ⟨a, ha⟩ : ∃ a, A[k] = a := ⟨_, rfl⟩
      have hne : (a == n) = false := by
        simp only [beq_eq_false_iff_ne, ne_eq]
        rintro rfl
        exact hA (by rw [← ha]; exact List.getElem_mem hlt)
      rw [ha] at hget
      obtain ⟨g, off, cap', e1, hg, hcl, _⟩ := Ins.at HI.out hget
      have hx : x = some ⟨g, off, none⟩ := by simp at e1; exact e1.1
      subst hx
      have HQ := leaveQ_any a n c wr hc
      rw [hne] at HQ
      clear hget ha hne e1
      go_wp2_with (go_at_call 176; refine HQ.mono ?_; rintro e w2 ⟨rfl, hw2⟩; subst hw2)
      go_roundw
      case rel => exact ⟨k + 1, by omega, by go_num, by first | rfl | trivial⟩
      case measure => simp [intOf]; omega
    · obtain rfl : k = A.length := by omega
      have hget : (A ++ n :: B)[A.length]? = some n := by simp
      obtain ⟨g, off, cap', e1, hg, hcl, _⟩ := Ins.at HI.out hget
      have hx : x = some ⟨g, off, none⟩ := by simp at e1; exact e1.1
      subst hx
      have HQ := leaveQ_any n n c wr hc
      have hnn : (n == n) = true := by simp
      rw [hnn] at HQ
      clear hget hnn e1
      go_wp2_with (go_at_call 176; refine HQ.mono ?_; rintro e w2 ⟨rfl, hw2⟩; subst hw2)
      go_ret
      exact ⟨rfl, rfl⟩
end Go.Proofs.YtfakjedolecdcaaGreatDoor
