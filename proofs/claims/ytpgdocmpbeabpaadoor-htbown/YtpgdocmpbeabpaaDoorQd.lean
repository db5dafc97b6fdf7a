/-
  queue.List: what Len, Bytes, Add, First and Next return, what each leaves of the list, and that nothing else that was there before is otherwise. Conditions: the list lies in memory; its bytes are few.
-/
import Derived.Test.YtpgdocmpbeabpaaDoorSg
import Derived.Laws.ResultCell
namespace Go.Proofs.YtpgdocmpbeabpaaDoor
open Go.RowKit Go.Extern.Stop Go.Stop Go.Extern

/-- A packet and its number: At, Len, Flow, Band, Mark, Number. -/
structure Hd where
  a : Int
  l : Int
  f : Int
  b : Int
  m : Int
  n : Int
def Hd.cs (x : Hd) : List Value := [.int .i64 x.a, .int .i64 x.l, .int .i64 x.f, .int .i64 x.b, .int .i64 x.m, .int .i64 x.n]
def Hd.val (x : Hd) : Value := .agg #[.int .i64 x.a, .int .i64 x.l, .int .i64 x.f, .int .i64 x.b, .int .i64 x.m, .int .i64 x.n]
theorem Hd.val_eq : ∀ x : Hd, x.val = .agg #[.int .i64 x.a, .int .i64 x.l, .int .i64 x.f, .int .i64 x.b, .int .i64 x.m, .int .i64 x.n] := fun _ => rfl
def hd0 : Hd := ⟨0, 0, 0, 0, 0, 0⟩
theorem Hd.len (x : Hd) : x.cs.length = 6 := rfl
theorem Hd.one (x : Hd) : ∀ u ∈ x.cs, u.oneCell' = true := by
  intro u hu
  simp only [Hd.cs, List.mem_cons, List.not_mem_nil, or_false] at hu
  rcases hu with rfl | rfl | rfl | rfl | rfl | rfl <;> rfl
/-- How many bytes packets have. -/
def sumL : List Hd → Int
  | [] => 0
  | x :: xs => x.l + sumL xs
theorem sumL_append (xs ys : List Hd) : sumL (xs ++ ys) = sumL xs + sumL ys := by
  induction xs with
  | nil => simp [sumL]
  | cons x xs ih => simp [sumL, ih]; omega
/-- Packets lie in a slice of the call's own. -/
def Hs (w : World) (v : Value) (L : List Hd) : Prop := Seg w 60 6 v L.length (flt Hd.cs L)
theorem Hs.nil (w : World) : Hs w (.slice none 0 0) [] := Seg.nil _ _ _
theorem infoHeld : (Tryd.prog.info? 60).map (fun i => (i.zero, i.size, i.bytes)) = some (some (.agg #[.int .i64 0, .int .i64 0, .int .i64 0, .int .i64 0, .int .i64 0, .int .i64 0]), 6, 48) := by kernel_rfl

/-- A list lies at the head of block b (its cells, and then others). -/
structure LAt (w : World) (b : Nat) (T : TypeId) (rest : List Value) (v : Value) (L : List Hd) : Prop where
  blk : w.heap[b]? = some (.cells (v :: .int .i64 (sumL L) :: rest).toArray T (0, 0))
  row : Hs w v L
  ne : v.ownBlock ≠ some b
theorem LAt.lt {w : World} {b : Nat} {T : TypeId} {rest : List Value} {v : Value} {L : List Hd} (h : LAt w b T rest v L) : b < w.heap.size := lt_of_block h.blk
theorem LAt.kept {w w' : World} {b : Nat} {T : TypeId} {rest : List Value} {v : Value} {L : List Hd} (h : LAt w b T rest v L) (hb : w'.heap[b]? = w.heap[b]?) (hv : ∀ k, v.ownBlock = some k → w'.heap[k]? = w.heap[k]?) : LAt w' b T rest v L :=
  ⟨hb.trans h.blk, h.row.kept hv, h.ne⟩
theorem LAt.cells {w : World} {b : Nat} {T : TypeId} {rest : List Value} {v : Value} {L : List Hd} (h : LAt w b T rest v L) : w.cell? ⟨b, 0, none⟩ = some v ∧ w.cell? ⟨b, 1, none⟩ = some (.int .i64 (sumL L)) ∧ w.frozen? ⟨b, 0, none⟩ = false ∧ w.frozen? ⟨b, 1, none⟩ = false := by
  have := h.blk
  refine ⟨?_, ?_, ?_, ?_⟩
  all_goals simp [World.cell?, World.frozen?, this]

theorem len_any {b : Nat} {T : TypeId} {rest : List Value} {v : Value} {L : List Hd} (w : World) (h : LAt w b T rest v L) :
    Calls Tryd.prog 29 #[.pointer (some ⟨b, 0, none⟩)] w fun e w' => e = .returned (.int .i64 L.length) ∧ w' = w := by
  obtain ⟨c0, c1, f0, f1⟩ := h.cells
  obtain ⟨x, cap, rfl⟩ : ∃ x cap, v = .slice x L.length cap := by
    rcases h.row.form with ⟨rfl, h0, _⟩ | ⟨b, off, cap, rfl, _⟩
    · exact ⟨none, 0, by rw [h0]⟩
    · exact ⟨_, _, rfl⟩
  clear h
  go_enter Tryd.func29, Tryd.ntmps29
  go_wp2
  go_ret
  exact ⟨rfl, rfl⟩
theorem bytes_any {b : Nat} {T : TypeId} {rest : List Value} {v : Value} {L : List Hd} (w : World) (h : LAt w b T rest v L) :
    Calls Tryd.prog 83 #[.pointer (some ⟨b, 0, none⟩)] w fun e w' => e = .returned (.int .i64 (sumL L)) ∧ w' = w := by
  obtain ⟨c0, c1, f0, f1⟩ := h.cells
  clear h
  go_enter Tryd.func83, Tryd.ntmps83
  go_wp2
  go_ret
  exact ⟨rfl, rfl⟩

/-- The first one, or nothing. -/
def hdOr (L : List Hd) : Hd := L.headD hd0
theorem first_any {b : Nat} {T : TypeId} {rest : List Value} {v : Value} {L : List Hd} (w : World) (h : LAt w b T rest v L) :
    Calls Tryd.prog 49 #[.pointer (some ⟨b, 0, none⟩)] w fun e w' => e = .returned (.tuple #[(hdOr L).val, .bool (!L.isEmpty)]) ∧ Below w.heap.size w w' := by
  obtain ⟨c0, c1, f0, f1⟩ := h.cells
  have hb := h.lt
  cases L with
  | nil =>
    obtain ⟨x, cap, rfl⟩ : ∃ x cap, v = .slice x 0 cap := by
      rcases h.row.form with ⟨rfl, h0, _⟩ | ⟨b, off, cap, rfl, _⟩
      · exact ⟨none, 0, rfl⟩
      · exact ⟨_, _, rfl⟩
    clear h
    go_enter Tryd.func49, Tryd.ntmps49
    go_wp2
    (try simp only [Exit.inBlock, Exit.then])
    refine bodyPost_ret (v := .tuple #[hd0.val, .bool false]) ?_ rfl ⟨rfl, ?_⟩
    · rw [results_cell_tmp rfl]
      go_simp
      rfl
    · repeat' (first | exact Below.refl _ _ | refine Below.setCell ?_ (by simp) _ | refine Below.alloc ?_ (by simp) _)
  | cons x L =>
    obtain ⟨b1, off, cap, rfl, hn, hx, hlt, hc⟩ := h.row.some (by simp)
    have k0 : w.cell? ⟨b1, off, none⟩ = some (.int .i64 x.a) := hc 0 _ rfl
    have k1 : w.cell? ⟨b1, off + 1, none⟩ = some (.int .i64 x.l) := hc 1 _ rfl
    have k2 : w.cell? ⟨b1, off + 2, none⟩ = some (.int .i64 x.f) := hc 2 _ rfl
    have k3 : w.cell? ⟨b1, off + 3, none⟩ = some (.int .i64 x.b) := hc 3 _ rfl
    have k4 : w.cell? ⟨b1, off + 4, none⟩ = some (.int .i64 x.m) := hc 4 _ rfl
    have k5 : w.cell? ⟨b1, off + 5, none⟩ = some (.int .i64 x.n) := hc 5 _ rfl
    clear hc h
    go_enter Tryd.func49, Tryd.ntmps49
    go_wp2
    (try simp only [Exit.inBlock, Exit.then])
    refine bodyPost_ret (v := .tuple #[x.val, .bool true]) ?_ rfl ⟨rfl, ?_⟩
    · rw [results_cell_tmp rfl]
      go_simp
      rfl
    · repeat' (first | exact Below.refl _ _ | refine Below.setCell ?_ (by simp) _ | refine Below.alloc ?_ (by simp) _)
/-- Few packets, none of them long. -/
def Fit (L : List Hd) : Prop := L.length ≤ 1000000 ∧ ∀ x ∈ L, 0 ≤ x.l ∧ x.l ≤ 10000
theorem Fit.sum : ∀ {L : List Hd}, (∀ x ∈ L, 0 ≤ x.l ∧ x.l ≤ 10000) → 0 ≤ sumL L ∧ sumL L ≤ 10000 * L.length := by
  intro L
  induction L with
  | nil => intro _; simp [sumL]
  | cons x L ih =>
    intro h
    have h1 := h x (by simp)
    have h2 := ih (fun y hy => h y (by simp [hy]))
    simp only [sumL, List.length_cons]
    omega
theorem Fit.tail {x : Hd} {L : List Hd} (h : Fit (x :: L)) : Fit L := ⟨by have := h.1; simp at this; omega, fun y hy => h.2 y (by simp [hy])⟩
theorem LAt.below {w w' : World} {b : Nat} {T : TypeId} {rest : List Value} {v : Value} {L : List Hd} (h : LAt w b T rest v L) (hb : Below w.heap.size w w') : LAt w' b T rest v L := h.kept (hb.block b h.lt) (fun k hk => hb.block k (h.row.lt hk))
/-- What is left of block b when its first two cells are written. -/
theorem blk_two {w : World} {b : Nat} {T : TypeId} {rest : List Value} {v u p q : Value} (h : w.heap[b]? = some (.cells (v :: u :: rest).toArray T (0, 0))) : ((w.setCell ⟨b, 0, none⟩ p).setCell ⟨b, 1, none⟩ q).heap[b]? = some (.cells (p :: q :: rest).toArray T (0, 0)) := by
  rw [heap_setCell_here (heap_setCell_here h p) q]
  simp

theorem after_new {w w1 : World} {o : Obj} (h : Below (w.alloc o).heap.size (w.alloc o) w1) : w.heap.size < w1.heap.size ∧ w1.heap[w.heap.size]? = some o := by
  refine ⟨by have := h.size; simp at this; omega, ?_⟩
  rw [h.block w.heap.size (by simp)]
  exact heap_alloc_new w o
/-- The cells of a block of six, and that each may be written. -/
theorem six {w : World} {b : Nat} {t : TypeId} {a0 a1 a2 a3 a4 a5 : Value} (h : w.heap[b]? = some (.cells #[a0, a1, a2, a3, a4, a5] t (0, 0))) : (w.cell? ⟨b, 0, none⟩ = some a0 ∧ w.cell? ⟨b, 1, none⟩ = some a1 ∧ w.cell? ⟨b, 2, none⟩ = some a2 ∧ w.cell? ⟨b, 3, none⟩ = some a3 ∧ w.cell? ⟨b, 4, none⟩ = some a4 ∧ w.cell? ⟨b, 5, none⟩ = some a5) ∧
    w.frozen? ⟨b, 0, none⟩ = false ∧ w.frozen? ⟨b, 1, none⟩ = false ∧ w.frozen? ⟨b, 2, none⟩ = false ∧ w.frozen? ⟨b, 3, none⟩ = false ∧ w.frozen? ⟨b, 4, none⟩ = false ∧ w.frozen? ⟨b, 5, none⟩ = false := by
  refine ⟨⟨?_, ?_, ?_, ?_, ?_, ?_⟩, ?_, ?_, ?_, ?_, ?_, ?_⟩
  all_goals simp [World.cell?, World.frozen?, h]
theorem LAt.ot {S : Nat → Prop} {w w' : World} {b : Nat} {T : TypeId} {rest : List Value} {v : Value} {L : List Hd} (h : LAt w b T rest v L) (ho : Ot S w w') (hb : ¬ S b) (hv : ∀ k, v.ownBlock = some k → ¬ S k) : LAt w' b T rest v L := h.kept (ho.block b h.lt hb) (fun k hk => ho.block k (h.row.lt hk) (hv k hk))
/-- The list is another one: its two cells are written. -/
theorem LAt.set {w : World} {b : Nat} {T : TypeId} {rest : List Value} {v v' : Value} {L L' : List Hd} (h : LAt w b T rest v L) (hv : Hs w v' L') (hne : v'.ownBlock ≠ some b) : LAt ((w.setCell ⟨b, 0, none⟩ v').setCell ⟨b, 1, none⟩ (.int .i64 (sumL L'))) b T rest v' L' :=
  ⟨blk_two h.blk, (hv.setCell (p := ⟨b, 0, none⟩) hne _).setCell (p := ⟨b, 1, none⟩) hne _, hne⟩
theorem LAt.of {w : World} {b : Nat} {T : TypeId} {rest : List Value} {v u v' : Value} {L' : List Hd} (h : w.heap[b]? = some (.cells (v :: u :: rest).toArray T (0, 0))) (hv : Hs w v' L') (hne : v'.ownBlock ≠ some b) : LAt ((w.setCell ⟨b, 0, none⟩ v').setCell ⟨b, 1, none⟩ (.int .i64 (sumL L'))) b T rest v' L' :=
  ⟨blk_two h, (hv.setCell (p := ⟨b, 0, none⟩) hne _).setCell (p := ⟨b, 1, none⟩) hne _, hne⟩
theorem Hs.tail {w : World} {b off cap : Nat} {x : Hd} {L : List Hd} (h : Hs w (.slice (some ⟨b, off, none⟩) (L.length + 1) cap) (x :: L)) (off' cap' : Nat) (ho : off' = off + 6 ∧ cap' = cap - 1 ∨ cap = 1 ∧ off' = off ∧ cap' = 0) : Hs w (.slice (some ⟨b, off', none⟩) L.length cap') L := by
  have := Seg.drop (w := w) (e := 60) (k := 6) (n := L.length + 1) (m := 1) h (by omega) off' (by omega)
  rw [flt_drop Hd.cs 6 Hd.len] at this
  unfold Hs
  have hc : cap' = cap - 1 := by omega
  rw [hc]
  simpa using this
set_option maxHeartbeats 1000000 in
theorem next_any {b : Nat} {T : TypeId} {rest : List Value} {v : Value} {L : List Hd} (w : World) (h : LAt w b T rest v L) (hF : Fit L) :
    Calls Tryd.prog 44 #[.pointer (some ⟨b, 0, none⟩)] w fun e w' => e = .returned (.tuple #[(hdOr L).val, .bool (!L.isEmpty)]) ∧ ∃ v', LAt w' b T rest v' L.tail ∧ v'.ownBlock = v.ownBlock ∧ Ot (· = b) w w' := by
  have H : Hid (LAt w b T rest v L) := h
  have hb := h.lt
  cases L with
  | nil =>
    clear h
    have hV := Hd.val_eq
    go_enter Tryd.func44, Tryd.ntmps44
    go_wp2_with (go_at_call 49; refine (first_any _ (H.out.below ((Below.refl _ _).alloc (Nat.le_refl _) _))).mono ?_; rintro e w1 ⟨rfl, hb1⟩; obtain ⟨c0, c1, f0, f1⟩ := ((H.out.below ((Below.refl _ _).alloc (Nat.le_refl _) _)).below hb1).cells; obtain ⟨hs1, hz⟩ := after_new hb1; have hbs : b < w1.heap.size := Nat.lt_trans hb hs1; obtain ⟨⟨z0, z1, z2, z3, z4, z5⟩, y0, y1, y2, y3, y4, y5⟩ := six hz)
    (try simp only [Exit.inBlock, Exit.then])
    have hB : Below w.heap.size w w1 := ((Below.refl _ _).alloc (Nat.le_refl _) _).trans (hb1.mono (by simp))
    refine bodyPost_ret (v := .tuple #[(hdOr []).val, .bool false]) ?_ rfl ⟨rfl, v, H.out.below ?_, rfl, Ot.of_below ?_⟩
    · rw [results_cell_tmp rfl]
      go_simp
    all_goals repeat' (first | with_reducible exact hB | with_reducible refine Below.setCell ?_ (by simp) _ | with_reducible refine Below.alloc ?_ (by simp; omega) _)
  | cons x L =>
    clear h
    have hV := Hd.val_eq
    have hO : hdOr (x :: L) = x := rfl
    have hw : IntKind.i64.wrap (sumL (x :: L) - x.l) = sumL L := by
      have h1 := Fit.sum hF.2
      have h2 := Fit.sum hF.tail.2
      have h3 := hF.1
      rw [IntKind.wrap_i64]
      simp only [sumL, List.length_cons] at h1 h3 ⊢
      omega
    obtain ⟨b1, off, cap, rfl, hn, hx, hlt, _⟩ := H.out.row.some (by simp)
    go_enter Tryd.func44, Tryd.ntmps44
    go_wp2_with (go_at_call 49; refine (first_any _ (H.out.below ((Below.refl _ _).alloc (Nat.le_refl _) _))).mono ?_; rintro e w1 ⟨rfl, hb1⟩; obtain ⟨c0, c1, f0, f1⟩ := ((H.out.below ((Below.refl _ _).alloc (Nat.le_refl _) _)).below hb1).cells; obtain ⟨hs1, hz⟩ := after_new hb1; have hbs : b < w1.heap.size := Nat.lt_trans hb hs1; obtain ⟨⟨z0, z1, z2, z3, z4, z5⟩, y0, y1, y2, y3, y4, y5⟩ := six hz)
    all_goals go_region
    all_goals go_wp2
    all_goals (try simp only [Exit.inBlock, Exit.then])
    all_goals
      have hB : Below w.heap.size w w1 := ((Below.refl _ _).alloc (Nat.le_refl _) _).trans (hb1.mono (by simp))
      have H1 := H.out.below hB
      have hne : b1 ≠ b := fun e => H1.ne (by rw [e]; rfl)
    · refine bodyPost_ret (v := .tuple #[x.val, .bool true]) ?_ rfl ⟨rfl, _, LAt.ot (S := (· = w.heap.size)) (H1.set (v' := .slice (some ⟨b1, off, none⟩) L.length 0) (L' := L) (H1.row.tail _ _ (Or.inr ⟨by omega, rfl, rfl⟩)) (by simp [Value.ownBlock, hne])) ?_ ?_ ?_, rfl, ?_⟩
      · rw [results_cell_tmp rfl]
        go_simp
      · repeat' (first | with_reducible exact Ot.refl _ _ | with_reducible refine Ot.drew ?_ | with_reducible refine Ot.setCell ?_ (by simp) _ | with_reducible refine Ot.alloc ?_ _)
      · omega
      · intro k hk; simp [Value.ownBlock] at hk; omega
      · repeat' (first | with_reducible exact Ot.of_below hB | with_reducible refine Ot.drew ?_ | with_reducible refine Ot.setCell ?_ (by simp) _ | with_reducible refine Ot.alloc ?_ _)
    · refine bodyPost_ret (v := .tuple #[x.val, .bool true]) ?_ rfl ⟨rfl, _, LAt.ot (S := (· = w.heap.size)) (H1.set (v' := .slice (some ⟨b1, off + 6, none⟩) L.length (cap - 1)) (L' := L) (H1.row.tail _ _ (Or.inl ⟨rfl, rfl⟩)) (by simp [Value.ownBlock, hne])) ?_ ?_ ?_, rfl, ?_⟩
      · rw [results_cell_tmp rfl]
        go_simp
      · repeat' (first | with_reducible exact Ot.refl _ _ | with_reducible refine Ot.drew ?_ | with_reducible refine Ot.setCell ?_ (by simp) _ | with_reducible refine Ot.alloc ?_ _)
      · omega
      · intro k hk; simp [Value.ownBlock] at hk; omega
      · repeat' (first | with_reducible exact Ot.of_below hB | with_reducible refine Ot.drew ?_ | with_reducible refine Ot.setCell ?_ (by simp) _ | with_reducible refine Ot.alloc ?_ _)
theorem Hs.below {w w' : World} {v : Value} {L : List Hd} (h : Hs w v L) (hb : Below w.heap.size w w') : Hs w' v L := Seg.below h hb
theorem Hs.snoc {w : World} {v : Value} {L : List Hd} {x : Hd} {n : Nat} (h : Seg w 60 6 v n (flt Hd.cs L ++ x.cs)) (hn : n = L.length + 1) : Hs w v (L ++ [x]) := by
  unfold Hs
  rw [flt_append, flt_one]
  simpa [hn] using h
theorem add_mid {w W w1 : World} {o : Obj} {b : Nat} {T : TypeId} {rest : List Value} {v : Value} {L : List Hd} (H : LAt w b T rest v L) (hB : Below (w.alloc o).heap.size (w.alloc o) W) (hg : W.grownBy w1 v.ownBlock) :
    w1.heap[b]? = some (.cells (v :: .int .i64 (sumL L) :: rest).toArray T (0, 0)) ∧ w1.heap[w.heap.size]? = some o ∧ w.heap.size + 1 ≤ w1.heap.size := by
  have hs : w.heap.size + 1 ≤ W.heap.size := by have := hB.size; simpa using this
  have hb := H.lt
  refine ⟨?_, ?_, Nat.le_trans hs hg.size⟩
  · rw [hg.block b (by omega) (fun e => H.ne e.symm), hB.block b (by simp; omega), Below.heap_alloc _ _ _ hb]
    exact H.blk
  · rw [hg.block _ (by omega) (fun e => by have := H.row.lt e.symm; omega), hB.block _ (by simp)]
    exact heap_alloc_new w o
theorem two_cells {w : World} {b : Nat} {T : TypeId} {rest : List Value} {v u : Value} (h : w.heap[b]? = some (.cells (v :: u :: rest).toArray T (0, 0))) : w.cell? ⟨b, 0, none⟩ = some v ∧ w.cell? ⟨b, 1, none⟩ = some u ∧ w.frozen? ⟨b, 0, none⟩ = false ∧ w.frozen? ⟨b, 1, none⟩ = false := by
  refine ⟨?_, ?_, ?_, ?_⟩
  all_goals simp [World.cell?, World.frozen?, h]
set_option maxHeartbeats 1000000 in
theorem add_any {b : Nat} {T : TypeId} {rest : List Value} {v : Value} {L : List Hd} (x : Hd) (w : World) (h : LAt w b T rest v L) (hF : Fit (L ++ [x])) :
    Calls Tryd.prog 31 #[.pointer (some ⟨b, 0, none⟩), x.val] w fun e w' => e = .returned (.tuple #[]) ∧ ∃ v', LAt w' b T rest v' (L ++ [x]) ∧ (∀ k, v'.ownBlock = some k → v.ownBlock = some k ∨ w.heap.size ≤ k) ∧ Ot (fun k => k = b ∨ v.ownBlock = some k) w w' := by
  have H : Hid (LAt w b T rest v L) := h
  obtain ⟨c0, c1, f0, f1⟩ := h.cells
  have hb := h.lt
  have HR : Hid (Hs w v L) := h.row
  clear h
  have hV := Hd.val_eq
  have hw : IntKind.i64.wrap (sumL L + x.l) = sumL (L ++ [x]) := by
    have h1 := Fit.sum hF.2
    have h3 := hF.1
    rw [IntKind.wrap_i64]
    rw [sumL_append] at h1 ⊢
    simp only [sumL, List.length_append, List.length_cons, List.length_nil] at h1 h3 ⊢
    omega
  have hln : L.length + 1 ≤ 1000000 := by have := hF.1; simpa using this
  obtain ⟨i0, hi, hz0, hz1, hz2⟩ := info_parts infoHeld
  go_enter Tryd.func31, Tryd.ntmps31
  go_wp2
  go_region_law (refine step_append_seg _ (by rfl) (.tmp 8) (.tmp 10) 57 (by rfl) 60 i0 _ 6 48 Tryd.underlying57 hi hz0 hz1 hz2 rfl (by decide) _ _ _ (by rfl) (HR.out.below (by repeat' (first | with_reducible exact Below.refl _ _ | with_reducible refine Below.drew ?_ | with_reducible refine below_alloc_ ?_ _))) ⟨w.heap.size + 1, 0, none⟩ 1 1 x.cs (by rfl) rfl (news_of (new_block_ (by simp))) x.one (by decide) (by unfold maxLen; omega) (by omega) _ rfl ?_; intro g off cap w1 hs1 hg1 ha1 hl1; obtain ⟨m0, m1, m2⟩ := add_mid H.out (by repeat' (first | with_reducible exact Below.refl _ _ | with_reducible refine Below.drew ?_ | with_reducible refine below_alloc_ ?_ _)) hg1; obtain ⟨d0, d1, e0, e1⟩ := two_cells m0; obtain ⟨⟨z0, z1, z2, z3, z4, z5⟩, y0, y1, y2, y3, y4, y5⟩ := six m1; have hbs : b < w1.heap.size := by omega)
  all_goals
    go_wp2
    go_region
    go_wp2
    go_end0
    have hgb : g ≠ b := by
      rintro rfl
      rcases ha1 with ha1 | ha1
      · exact H.out.ne ha1
      · simp at ha1; omega
    refine ⟨rfl, _, (LAt.of m0 (Hs.snoc hs1 rfl) (by simpa [Value.ownBlock] using hgb)).kept rfl (fun _ _ => rfl), ?_, ?_⟩
    · intro k hk
      simp only [Value.ownBlock, Option.some.injEq] at hk
      subst hk
      rcases ha1 with ha1 | ha1
      · exact Or.inl ha1
      · right; simp at ha1; omega
    · refine Ot.drew ?_
      refine Ot.setCell ?_ (Or.inl (Or.inl rfl)) _
      refine Ot.setCell ?_ (Or.inl (Or.inl rfl)) _
      refine Ot.grown ?_ hg1 (fun k e => Or.inl (Or.inr e))
      refine Ot.of_below ?_
      repeat' (first | with_reducible exact Below.refl _ _ | with_reducible refine Below.drew ?_ | with_reducible refine below_alloc_ ?_ _)
end Go.Proofs.YtpgdocmpbeabpaaDoor
