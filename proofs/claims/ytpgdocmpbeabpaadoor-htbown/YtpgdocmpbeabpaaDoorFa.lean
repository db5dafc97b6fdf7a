/-
  A block by its cells; a list anywhere in a block: what Len, Bytes, First, Next and Add return, what each leaves. Conditions: the list lies in memory; its bytes are few.
-/
import Derived.Test.YtpgdocmpbeabpaaDoorQd
namespace Go.Proofs.YtpgdocmpbeabpaaDoor
open Go.RowKit Go.Extern.Stop Go.Stop Go.Extern

/-- A cell is another one. -/
def updC (C : Nat → Value) (i : Nat) (u : Value) : Nat → Value := fun j => if j = i then u else C j
theorem updC_same (C : Nat → Value) (i : Nat) (u : Value) : updC C i u i = u := by simp [updC]
theorem updC_ne {C : Nat → Value} {i j : Nat} {u : Value} (h : j ≠ i) : updC C i u j = C j := by simp [updC, h]
/-- Block b has n cells, C. -/
def Blk (w : World) (b n : Nat) (T : TypeId) (C : Nat → Value) : Prop := ∃ cur : Array Value, w.heap[b]? = some (.cells cur T (0, 0)) ∧ cur.size = n ∧ ∀ i, i < n → cur[i]? = some (C i)
theorem Blk.lt {w : World} {b n : Nat} {T : TypeId} {C : Nat → Value} (h : Blk w b n T C) : b < w.heap.size := by
  obtain ⟨cur, h1, _⟩ := h
  exact lt_of_block h1
theorem Blk.cell {w : World} {b n : Nat} {T : TypeId} {C : Nat → Value} (h : Blk w b n T C) {i : Nat} (hi : i < n) : w.cell? ⟨b, i, none⟩ = some (C i) ∧ w.frozen? ⟨b, i, none⟩ = false := by
  obtain ⟨cur, h1, _, h3⟩ := h
  constructor
  · simp only [World.cell?, h1]; exact h3 i hi
  · simp [World.frozen?, h1]
theorem Blk.kept {w w' : World} {b n : Nat} {T : TypeId} {C : Nat → Value} (h : Blk w b n T C) (hb : w'.heap[b]? = w.heap[b]?) : Blk w' b n T C := by
  obtain ⟨cur, h1, h2⟩ := h
  exact ⟨cur, hb.trans h1, h2⟩
theorem Blk.cong {w : World} {b n : Nat} {T : TypeId} {C C' : Nat → Value} (h : Blk w b n T C) (he : ∀ i, i < n → C' i = C i) : Blk w b n T C' := by
  obtain ⟨cur, h1, h2, h3⟩ := h
  exact ⟨cur, h1, h2, fun i hi => by rw [he i hi]; exact h3 i hi⟩
theorem Blk.set {w : World} {b n : Nat} {T : TypeId} {C : Nat → Value} (h : Blk w b n T C) (i : Nat) (u : Value) : Blk (w.setCell ⟨b, i, none⟩ u) b n T (updC C i u) := by
  obtain ⟨cur, h1, h2, h3⟩ := h
  refine ⟨cur.setIfInBounds i u, heap_setCell_here h1 u, by simp [h2], fun j hj => ?_⟩
  by_cases e : j = i
  · subst e
    rw [updC_same, Array.getElem?_setIfInBounds_self_of_lt (by omega)]
  · rw [updC_ne e, Array.getElem?_setIfInBounds_ne (fun x => e x.symm)]
    exact h3 j hj
/-- A list at cell o of a block. -/
structure LO (w : World) (b n : Nat) (T : TypeId) (C : Nat → Value) (o : Nat) (v : Value) (L : List Hd) : Prop where
  blk : Blk w b n T C
  lt : o + 1 < n
  c0 : C o = v
  c1 : C (o + 1) = .int .i64 (sumL L)
  row : Hs w v L
  ne : v.ownBlock ≠ some b
/-- Its two cells are others. -/
def updL (C : Nat → Value) (o : Nat) (v : Value) (L : List Hd) : Nat → Value := updC (updC C o v) (o + 1) (.int .i64 (sumL L))
theorem updL_ne {C : Nat → Value} {o j : Nat} {v : Value} {L : List Hd} (h : j ≠ o) (h' : j ≠ o + 1) : updL C o v L j = C j := by rw [updL, updC_ne h', updC_ne h]
theorem updL_0 (C : Nat → Value) (o : Nat) (v : Value) (L : List Hd) : updL C o v L o = v := by rw [updL, updC_ne (by omega), updC_same]
theorem updL_1 (C : Nat → Value) (o : Nat) (v : Value) (L : List Hd) : updL C o v L (o + 1) = .int .i64 (sumL L) := by rw [updL, updC_same]
theorem LO.cells {w : World} {b n : Nat} {T : TypeId} {C : Nat → Value} {o : Nat} {v : Value} {L : List Hd} (h : LO w b n T C o v L) : w.cell? ⟨b, o, none⟩ = some v ∧ w.cell? ⟨b, o + 1, none⟩ = some (.int .i64 (sumL L)) ∧ w.frozen? ⟨b, o, none⟩ = false ∧ w.frozen? ⟨b, o + 1, none⟩ = false := by
  have h0 := h.blk.cell (i := o) (by have := h.lt; omega)
  have h1 := h.blk.cell (i := o + 1) h.lt
  rw [h.c0] at h0
  rw [h.c1] at h1
  exact ⟨h0.1, h1.1, h0.2, h1.2⟩
theorem LO.same {w : World} {b n : Nat} {T : TypeId} {C : Nat → Value} {o : Nat} {v : Value} {L : List Hd} (h : LO w b n T C o v L) : LO w b n T (updL C o v L) o v L := by
  refine ⟨h.blk.cong (fun i _ => ?_), h.lt, updL_0 _ _ _ _, updL_1 _ _ _ _, h.row, h.ne⟩
  by_cases e0 : i = o
  · subst e0; rw [updL_0, h.c0]
  · by_cases e1 : i = o + 1
    · subst e1; rw [updL_1, h.c1]
    · exact updL_ne e0 e1
theorem LO.kept {w w' : World} {b n : Nat} {T : TypeId} {C : Nat → Value} {o : Nat} {v : Value} {L : List Hd} (h : LO w b n T C o v L) (hb : w'.heap[b]? = w.heap[b]?) (hv : ∀ k, v.ownBlock = some k → w'.heap[k]? = w.heap[k]?) : LO w' b n T C o v L := ⟨h.blk.kept hb, h.lt, h.c0, h.c1, h.row.kept hv, h.ne⟩
theorem LO.below {w w' : World} {b n : Nat} {T : TypeId} {C : Nat → Value} {o : Nat} {v : Value} {L : List Hd} (h : LO w b n T C o v L) (hb : Below w.heap.size w w') : LO w' b n T C o v L := h.kept (hb.block b h.blk.lt) (fun k hk => hb.block k (h.row.lt hk))
theorem LO.ot {S : Nat → Prop} {w w' : World} {b n : Nat} {T : TypeId} {C : Nat → Value} {o : Nat} {v : Value} {L : List Hd} (h : LO w b n T C o v L) (ho : Ot S w w') (hb : ¬ S b) (hv : ∀ k, v.ownBlock = some k → ¬ S k) : LO w' b n T C o v L := h.kept (ho.block b h.blk.lt hb) (fun k hk => ho.block k (h.row.lt hk) (hv k hk))
theorem LO.set {w : World} {b n : Nat} {T : TypeId} {C : Nat → Value} {o : Nat} {v' : Value} {L' : List Hd} (h : Blk w b n T C) (ho : o + 1 < n) (hv : Hs w v' L') (hne : v'.ownBlock ≠ some b) : LO ((w.setCell ⟨b, o, none⟩ v').setCell ⟨b, o + 1, none⟩ (.int .i64 (sumL L'))) b n T (updL C o v' L') o v' L' :=
  ⟨(h.set o v').set (o + 1) _, ho, updL_0 _ _ _ _, updL_1 _ _ _ _, (hv.setCell (p := ⟨b, o, none⟩) hne _).setCell (p := ⟨b, o + 1, none⟩) hne _, hne⟩
theorem lenO_any {b : Nat} {n : Nat} {T : TypeId} {C : Nat → Value} {o : Nat} {v : Value} {L : List Hd} (w : World) (h : LO w b n T C o v L) :
    Calls Tryd.prog 29 #[.pointer (some ⟨b, o, none⟩)] w fun e w' => e = .returned (.int .i64 L.length) ∧ w' = w := by
  obtain ⟨c0, c1, f0, f1⟩ := h.cells
  obtain ⟨x, cap, rfl⟩ : ∃ x cap, v = .slice x L.length cap := by
    rcases h.row.form with ⟨rfl, h0, _⟩ | ⟨b, off, cap, rfl, _⟩
    · exact ⟨none, 0, by rw [h0]⟩
    · exact ⟨_, _, rfl⟩
  clear h
  go_enter Tryd.func29, Tryd.ntmps29
  go_wp2
  go_ret
  exact ⟨rfl, rfl⟩
theorem bytesO_any {b : Nat} {n : Nat} {T : TypeId} {C : Nat → Value} {o : Nat} {v : Value} {L : List Hd} (w : World) (h : LO w b n T C o v L) :
    Calls Tryd.prog 83 #[.pointer (some ⟨b, o, none⟩)] w fun e w' => e = .returned (.int .i64 (sumL L)) ∧ w' = w := by
  obtain ⟨c0, c1, f0, f1⟩ := h.cells
  clear h
  go_enter Tryd.func83, Tryd.ntmps83
  go_wp2
  go_ret
  exact ⟨rfl, rfl⟩

theorem firstO_any {b : Nat} {n : Nat} {T : TypeId} {C : Nat → Value} {o : Nat} {v : Value} {L : List Hd} (w : World) (h : LO w b n T C o v L) :
    Calls Tryd.prog 49 #[.pointer (some ⟨b, o, none⟩)] w fun e w' => e = .returned (.tuple #[(hdOr L).val, .bool (!L.isEmpty)]) ∧ Below w.heap.size w w' := by
  obtain ⟨c0, c1, f0, f1⟩ := h.cells
  have hb := h.blk.lt
  cases L with
  | nil =>
    obtain ⟨x, cap, rfl⟩ : ∃ x cap, v = .slice x 0 cap := by
      rcases h.row.form with ⟨rfl, h0, _⟩ | ⟨b, off, cap, rfl, _⟩
      · exact ⟨none, 0, rfl⟩
      · exact ⟨_, _, rfl⟩
    clear h
    go_enter Tryd.func49, Tryd.ntmps49
    go_wp2
    (try simp only [Exit.inBlock, Exit.then])
    refine bodyPost_ret (v := .tuple #[hd0.val, .bool false]) ?_ rfl ⟨rfl, ?_⟩
    · rw [results_cell_tmp rfl]
      go_simp
      rfl
    · repeat' (first | exact Below.refl _ _ | refine Below.setCell ?_ (by simp) _ | refine Below.alloc ?_ (by simp) _)
  | cons x L =>
    obtain ⟨b1, off, cap, rfl, hn, hx, hlt, hc⟩ := h.row.some (by simp)
    have k0 : w.cell? ⟨b1, off, none⟩ = some (.int .i64 x.a) := hc 0 _ rfl
    have k1 : w.cell? ⟨b1, off + 1, none⟩ = some (.int .i64 x.l) := hc 1 _ rfl
    have k2 : w.cell? ⟨b1, off + 2, none⟩ = some (.int .i64 x.f) := hc 2 _ rfl
    have k3 : w.cell? ⟨b1, off + 3, none⟩ = some (.int .i64 x.b) := hc 3 _ rfl
    have k4 : w.cell? ⟨b1, off + 4, none⟩ = some (.int .i64 x.m) := hc 4 _ rfl
    have k5 : w.cell? ⟨b1, off + 5, none⟩ = some (.int .i64 x.n) := hc 5 _ rfl
    clear hc h
    go_enter Tryd.func49, Tryd.ntmps49
    go_wp2
    (try simp only [Exit.inBlock, Exit.then])
    refine bodyPost_ret (v := .tuple #[x.val, .bool true]) ?_ rfl ⟨rfl, ?_⟩
    · rw [results_cell_tmp rfl]
      go_simp
      rfl
    · repeat' (first | exact Below.refl _ _ | refine Below.setCell ?_ (by simp) _ | refine Below.alloc ?_ (by simp) _)
set_option maxHeartbeats 1000000 in
theorem nextO_any {b : Nat} {n : Nat} {T : TypeId} {C : Nat → Value} {o : Nat} {v : Value} {L : List Hd} (w : World) (h : LO w b n T C o v L) (hF : Fit L) :
    Calls Tryd.prog 44 #[.pointer (some ⟨b, o, none⟩)] w fun e w' => e = .returned (.tuple #[(hdOr L).val, .bool (!L.isEmpty)]) ∧ ∃ v', LO w' b n T (updL C o v' L.tail) o v' L.tail ∧ v'.ownBlock = v.ownBlock ∧ Ot (· = b) w w' := by
  have H : Hid (LO w b n T C o v L) := h
  have hb := h.blk.lt
  cases L with
  | nil =>
    clear h
    have hV := Hd.val_eq
    go_enter Tryd.func44, Tryd.ntmps44
    go_wp2_with (go_at_call 49; refine (firstO_any _ (H.out.below ((Below.refl _ _).alloc (Nat.le_refl _) _))).mono ?_; rintro e w1 ⟨rfl, hb1⟩; obtain ⟨c0, c1, f0, f1⟩ := ((H.out.below ((Below.refl _ _).alloc (Nat.le_refl _) _)).below hb1).cells; obtain ⟨hs1, hz⟩ := after_new hb1; have hbs : b < w1.heap.size := Nat.lt_trans hb hs1; obtain ⟨⟨z0, z1, z2, z3, z4, z5⟩, y0, y1, y2, y3, y4, y5⟩ := six hz)
    (try simp only [Exit.inBlock, Exit.then])
    have hB : Below w.heap.size w w1 := ((Below.refl _ _).alloc (Nat.le_refl _) _).trans (hb1.mono (by simp))
    refine bodyPost_ret (v := .tuple #[(hdOr []).val, .bool false]) ?_ rfl ⟨rfl, v, H.out.same.below ?_, rfl, Ot.of_below ?_⟩
    · rw [results_cell_tmp rfl]
      go_simp
    all_goals repeat' (first | with_reducible exact hB | with_reducible refine Below.setCell ?_ (by simp) _ | with_reducible refine Below.alloc ?_ (by simp; omega) _)
  | cons x L =>
    clear h
    have hV := Hd.val_eq
    have hO : hdOr (x :: L) = x := rfl
    have hw : IntKind.i64.wrap (sumL (x :: L) - x.l) = sumL L := by
      have h1 := Fit.sum hF.2
      have h2 := Fit.sum hF.tail.2
      have h3 := hF.1
      rw [IntKind.wrap_i64]
      simp only [sumL, List.length_cons] at h1 h3 ⊢
      omega
    obtain ⟨b1, off, cap, rfl, hn, hx, hlt, _⟩ := H.out.row.some (by simp)
    go_enter Tryd.func44, Tryd.ntmps44
    go_wp2_with (go_at_call 49; refine (firstO_any _ (H.out.below ((Below.refl _ _).alloc (Nat.le_refl _) _))).mono ?_; rintro e w1 ⟨rfl, hb1⟩; obtain ⟨c0, c1, f0, f1⟩ := ((H.out.below ((Below.refl _ _).alloc (Nat.le_refl _) _)).below hb1).cells; obtain ⟨hs1, hz⟩ := after_new hb1; have hbs : b < w1.heap.size := Nat.lt_trans hb hs1; obtain ⟨⟨z0, z1, z2, z3, z4, z5⟩, y0, y1, y2, y3, y4, y5⟩ := six hz)
    all_goals go_region
    all_goals go_wp2
    all_goals (try simp only [Exit.inBlock, Exit.then])
    all_goals
      have hB : Below w.heap.size w w1 := ((Below.refl _ _).alloc (Nat.le_refl _) _).trans (hb1.mono (by simp))
      have H1 := H.out.below hB
      have hne : b1 ≠ b := fun e => H1.ne (by rw [e]; rfl)
    · refine bodyPost_ret (v := .tuple #[x.val, .bool true]) ?_ rfl ⟨rfl, _, LO.ot (S := (· = w.heap.size)) (LO.set H1.blk H1.lt (v' := .slice (some ⟨b1, off, none⟩) L.length 0) (L' := L) (H1.row.tail _ _ (Or.inr ⟨by omega, rfl, rfl⟩)) (by simp [Value.ownBlock, hne])) ?_ ?_ ?_, rfl, ?_⟩
      · rw [results_cell_tmp rfl]
        go_simp
      · repeat' (first | with_reducible exact Ot.refl _ _ | with_reducible refine Ot.drew ?_ | with_reducible refine Ot.setCell ?_ (by simp) _ | with_reducible refine Ot.alloc ?_ _)
      · omega
      · intro k hk; simp [Value.ownBlock] at hk; omega
      · repeat' (first | with_reducible exact Ot.of_below hB | with_reducible refine Ot.drew ?_ | with_reducible refine Ot.setCell ?_ (by simp) _ | with_reducible refine Ot.alloc ?_ _)
    · refine bodyPost_ret (v := .tuple #[x.val, .bool true]) ?_ rfl ⟨rfl, _, LO.ot (S := (· = w.heap.size)) (LO.set H1.blk H1.lt (v' := .slice (some ⟨b1, off + 6, none⟩) L.length (cap - 1)) (L' := L) (H1.row.tail _ _ (Or.inl ⟨rfl, rfl⟩)) (by simp [Value.ownBlock, hne])) ?_ ?_ ?_, rfl, ?_⟩
      · rw [results_cell_tmp rfl]
        go_simp
      · repeat' (first | with_reducible exact Ot.refl _ _ | with_reducible refine Ot.drew ?_ | with_reducible refine Ot.setCell ?_ (by simp) _ | with_reducible refine Ot.alloc ?_ _)
      · omega
      · intro k hk; simp [Value.ownBlock] at hk; omega
      · repeat' (first | with_reducible exact Ot.of_below hB | with_reducible refine Ot.drew ?_ | with_reducible refine Ot.setCell ?_ (by simp) _ | with_reducible refine Ot.alloc ?_ _)
theorem addO_mid {w W w1 : World} {ob : Obj} {b : Nat} {n : Nat} {T : TypeId} {C : Nat → Value} {o : Nat} {v : Value} {L : List Hd} (H : LO w b n T C o v L) (hB : Below (w.alloc ob).heap.size (w.alloc ob) W) (hg : W.grownBy w1 v.ownBlock) :
    w1.heap[b]? = w.heap[b]? ∧ w1.heap[w.heap.size]? = some ob ∧ w.heap.size + 1 ≤ w1.heap.size := by
  have hs : w.heap.size + 1 ≤ W.heap.size := by have := hB.size; simpa using this
  have hb := H.blk.lt
  refine ⟨?_, ?_, Nat.le_trans hs hg.size⟩
  · rw [hg.block b (by omega) (fun e => H.ne e.symm), hB.block b (by simp; omega), Below.heap_alloc _ _ _ hb]
  · rw [hg.block _ (by omega) (fun e => by have := H.row.lt e.symm; omega), hB.block _ (by simp)]
    exact heap_alloc_new w ob
theorem LO.two {w w1 : World} {b n : Nat} {T : TypeId} {C : Nat → Value} {o : Nat} {v : Value} {L : List Hd} (hB : Blk w1 b n T C) (h : LO w b n T C o v L) : w1.cell? ⟨b, o, none⟩ = some v ∧ w1.cell? ⟨b, o + 1, none⟩ = some (.int .i64 (sumL L)) ∧ w1.frozen? ⟨b, o, none⟩ = false ∧ w1.frozen? ⟨b, o + 1, none⟩ = false := by
  have h0 := hB.cell (i := o) (by have := h.lt; omega)
  have h1 := hB.cell (i := o + 1) h.lt
  rw [h.c0] at h0
  rw [h.c1] at h1
  exact ⟨h0.1, h1.1, h0.2, h1.2⟩
set_option maxHeartbeats 1000000 in
theorem addO_any {b : Nat} {n : Nat} {T : TypeId} {C : Nat → Value} {o : Nat} {v : Value} {L : List Hd} (x : Hd) (w : World) (h : LO w b n T C o v L) (hF : Fit (L ++ [x])) :
    Calls Tryd.prog 31 #[.pointer (some ⟨b, o, none⟩), x.val] w fun e w' => e = .returned (.tuple #[]) ∧ ∃ v', LO w' b n T (updL C o v' (L ++ [x])) o v' (L ++ [x]) ∧ (∀ k, v'.ownBlock = some k → v.ownBlock = some k ∨ w.heap.size ≤ k) ∧ Ot (fun k => k = b ∨ v.ownBlock = some k) w w' := by
  have H : Hid (LO w b n T C o v L) := h
  obtain ⟨c0, c1, f0, f1⟩ := h.cells
  have hb := h.blk.lt
  have HR : Hid (Hs w v L) := h.row
  clear h
  have hV := Hd.val_eq
  have hw : IntKind.i64.wrap (sumL L + x.l) = sumL (L ++ [x]) := by
    have h1 := Fit.sum hF.2
    have h3 := hF.1
    rw [IntKind.wrap_i64]
    rw [sumL_append] at h1 ⊢
    simp only [sumL, List.length_append, List.length_cons, List.length_nil] at h1 h3 ⊢
    omega
  have hln : L.length + 1 ≤ 1000000 := by have := hF.1; simpa using this
  obtain ⟨i0, hi, hz0, hz1, hz2⟩ := info_parts infoHeld
  go_enter Tryd.func31, Tryd.ntmps31
  go_wp2
  go_region_law (refine step_append_seg _ (by rfl) (.tmp 8) (.tmp 10) 57 (by rfl) 60 i0 _ 6 48 Tryd.underlying57 hi hz0 hz1 hz2 rfl (by decide) _ _ _ (by rfl) (HR.out.below (by repeat' (first | with_reducible exact Below.refl _ _ | with_reducible refine Below.drew ?_ | with_reducible refine below_alloc_ ?_ _))) ⟨w.heap.size + 1, 0, none⟩ 1 1 x.cs (by rfl) rfl (news_of (new_block_ (by simp))) x.one (by decide) (by unfold maxLen; omega) (by omega) _ rfl ?_; intro g off cap w1 hs1 hg1 ha1 hl1; obtain ⟨m0, m1, m2⟩ := addO_mid H.out (by repeat' (first | with_reducible exact Below.refl _ _ | with_reducible refine Below.drew ?_ | with_reducible refine below_alloc_ ?_ _)) hg1; have hB1 : Blk w1 b n T C := H.out.blk.kept m0; obtain ⟨d0, d1, e0, e1⟩ := LO.two hB1 H.out; obtain ⟨⟨z0, z1, z2, z3, z4, z5⟩, y0, y1, y2, y3, y4, y5⟩ := six m1; have hbs : b < w1.heap.size := by omega)
  all_goals
    go_wp2
    go_region
    go_wp2
    go_end0
    have hgb : g ≠ b := by
      rintro rfl
      rcases ha1 with ha1 | ha1
      · exact H.out.ne ha1
      · simp at ha1; omega
    refine ⟨rfl, _, (LO.set hB1 H.out.lt (Hs.snoc hs1 rfl) (by simpa [Value.ownBlock] using hgb)).kept rfl (fun _ _ => rfl), ?_, ?_⟩
    · intro k hk
      simp only [Value.ownBlock, Option.some.injEq] at hk
      subst hk
      rcases ha1 with ha1 | ha1
      · exact Or.inl ha1
      · right; simp at ha1; omega
    · refine Ot.drew ?_
      refine Ot.setCell ?_ (Or.inl (Or.inl rfl)) _
      refine Ot.setCell ?_ (Or.inl (Or.inl rfl)) _
      refine Ot.grown ?_ hg1 (fun k e => Or.inl (Or.inr e))
      refine Ot.of_below ?_
      repeat' (first | with_reducible exact Below.refl _ _ | with_reducible refine Below.drew ?_ | with_reducible refine below_alloc_ ?_ _)
end Go.Proofs.YtpgdocmpbeabpaaDoor
