/-
  queue.List: what Len, Bytes, Add, First and Next return, what each leaves of the list, and that nothing else that was there before is otherwise. Conditions: the list lies in memory; its bytes are few.
  queue.Fifo: what NewFifo, Put, Take and When return, what each leaves of the list, and that nothing else that was there before is otherwise. Conditions: the list lies in memory; few packets, none of them long; room from 0 on.
  plain.Times: the steps with their times, in memory of the call's own; nothing that was there before is otherwise. Conditions: the steps lie in memory, a thousand at most.
-/
import Derived.Test.YtfakjedolecdcaaGreatDoorSg
import Derived.Laws.ResultCell
import Derived.Test.YtfakjedolecdcaaGreatDoorGa
namespace Go.Proofs.YtfakjedolecdcaaGreatDoor
open Go.RowKit Go.Extern.Stop Go.Stop Go.Extern

/-- A packet and its number: At, Len, Flow, Band, Mark, Number. -/
structure Hd where
  a : Int
  l : Int
  f : Int
  b : Int
  m : Int
  n : Int
def Hd.cs (x : Hd) : List Value := [.int .i64 x.a, .int .i64 x.l, .int .i64 x.f, .int .i64 x.b, .int .i64 x.m, .int .i64 x.n]
def Hd.val (x : Hd) : Value := .agg #[.int .i64 x.a, .int .i64 x.l, .int .i64 x.f, .int .i64 x.b, .int .i64 x.m, .int .i64 x.n]
theorem Hd.val_eq : ∀ x : Hd, x.val = .agg #[.int .i64 x.a, .int .i64 x.l, .int .i64 x.f, .int .i64 x.b, .int .i64 x.m, .int .i64 x.n] := fun _ => rfl
def hd0 : Hd := ⟨0, 0, 0, 0, 0, 0⟩
theorem Hd.len (x : Hd) : x.cs.length = 6 := rfl
theorem Hd.one (x : Hd) : ∀ u ∈ x.cs, u.oneCell' = true := by
  intro u hu
  simp only [Hd.cs, List.mem_cons, List.not_mem_nil, or_false] at hu
  rcases hu with rfl | rfl | rfl | rfl | rfl | rfl <;> rfl
/-- How many bytes packets have. -/
def sumL : List Hd → Int
  | [] => 0
  | x :: xs => x.l + sumL xs
theorem sumL_append (xs ys : List Hd) : sumL (xs ++ ys) = sumL xs + sumL ys := by
  induction xs with
  | nil => simp [sumL]
  | cons x xs ih => simp [sumL, ih]; omega
/-- Packets lie in a slice of the call's own. -/
def Hs (w : World) (v : Value) (L : List Hd) : Prop := Seg w 76 6 v L.length (flt Hd.cs L)
theorem Hs.nil (w : World) : Hs w (.slice none 0 0) [] := Seg.nil _ _ _
theorem infoHeld : (Tryz.prog.info? 76).map (fun i => (i.zero, i.size, i.bytes)) = some (some (.agg #[.int .i64 0, .int .i64 0, .int .i64 0, .int .i64 0, .int .i64 0, .int .i64 0]), 6, 48) := by kernel_rfl

/-- A list lies at the head of block b (its cells, and then others). -/
structure LAt (w : World) (b : Nat) (T : TypeId) (rest : List Value) (v : Value) (L : List Hd) : Prop where
  blk : w.heap[b]? = some (.cells (v :: .int .i64 (sumL L) :: rest).toArray T (0, 0))
  row : Hs w v L
  ne : v.ownBlock ≠ some b
theorem LAt.lt {w : World} {b : Nat} {T : TypeId} {rest : List Value} {v : Value} {L : List Hd} (h : LAt w b T rest v L) : b < w.heap.size := lt_of_block h.blk
theorem LAt.kept {w w' : World} {b : Nat} {T : TypeId} {rest : List Value} {v : Value} {L : List Hd} (h : LAt w b T rest v L) (hb : w'.heap[b]? = w.heap[b]?) (hv : ∀ k, v.ownBlock = some k → w'.heap[k]? = w.heap[k]?) : LAt w' b T rest v L :=
  ⟨hb.trans h.blk, h.row.kept hv, h.ne⟩
theorem LAt.cells {w : World} {b : Nat} {T : TypeId} {rest : List Value} {v : Value} {L : List Hd} (h : LAt w b T rest v L) : w.cell? ⟨b, 0, none⟩ = some v ∧ w.cell? ⟨b, 1, none⟩ = some (.int .i64 (sumL L)) ∧ w.frozen? ⟨b, 0, none⟩ = false ∧ w.frozen? ⟨b, 1, none⟩ = false := by
  have := h.blk
  refine ⟨?_, ?_, ?_, ?_⟩
  all_goals simp [World.cell?, World.frozen?, this]

theorem len_any {b : Nat} {T : TypeId} {rest : List Value} {v : Value} {L : List Hd} (w : World) (h : LAt w b T rest v L) :
    Calls Tryz.prog 139 #[.pointer (some ⟨b, 0, none⟩)] w fun e w' => e = .returned (.int .i64 L.length) ∧ w' = w := by
  obtain ⟨c0, c1, f0, f1⟩ := h.cells
  obtain ⟨x, cap, rfl⟩ : ∃ x cap, v = .slice x L.length cap := by
    rcases h.row.form with ⟨rfl, h0, _⟩ | ⟨b, off, cap, rfl, _⟩
    · exact ⟨none, 0, by rw [h0]⟩
    · exact ⟨_, _, rfl⟩
  clear h
  go_enter Tryz.func139, Tryz.ntmps139
  go_wp2
  go_ret
  exact ⟨rfl, rfl⟩
theorem bytes_any {b : Nat} {T : TypeId} {rest : List Value} {v : Value} {L : List Hd} (w : World) (h : LAt w b T rest v L) :
    Calls Tryz.prog 138 #[.pointer (some ⟨b, 0, none⟩)] w fun e w' => e = .returned (.int .i64 (sumL L)) ∧ w' = w := by
  obtain ⟨c0, c1, f0, f1⟩ := h.cells
  clear h
  go_enter Tryz.func138, Tryz.ntmps138
  go_wp2
  go_ret
  exact ⟨rfl, rfl⟩

/-- The first one, or nothing. -/
def hdOr (L : List Hd) : Hd := L.headD hd0
theorem first_any {b : Nat} {T : TypeId} {rest : List Value} {v : Value} {L : List Hd} (w : World) (h : LAt w b T rest v L) :
    Calls Tryz.prog 146 #[.pointer (some ⟨b, 0, none⟩)] w fun e w' => e = .returned (.tuple #[(hdOr L).val, .bool (!L.isEmpty)]) ∧ Below w.heap.size w w' := by
  obtain ⟨c0, c1, f0, f1⟩ := h.cells
  have hb := h.lt
  cases L with
  | nil =>
    obtain ⟨x, cap, rfl⟩ : ∃ x cap, v = .slice x 0 cap := by
      rcases h.row.form with ⟨rfl, h0, _⟩ | ⟨b, off, cap, rfl, _⟩
      · exact ⟨none, 0, rfl⟩
      · exact ⟨_, _, rfl⟩
    clear h
    go_enter Tryz.func146, Tryz.ntmps146
    go_wp2
    (try simp only [Exit.inBlock, Exit.then])
    refine bodyPost_ret (v := .tuple #[hd0.val, .bool false]) ?_ rfl ⟨rfl, ?_⟩
    · rw [results_cell_tmp rfl]
      go_simp
      rfl
    · repeat' (first | exact Below.refl _ _ | refine Below.setCell ?_ (by simp) _ | refine Below.alloc ?_ (by simp) _)
  | cons x L =>
    obtain ⟨b1, off, cap, rfl, hn, hx, hlt, hc⟩ := h.row.some (by simp)
    have k0 : w.cell? ⟨b1, off, none⟩ = some (.int .i64 x.a) := hc 0 _ rfl
    have k1 : w.cell? ⟨b1, off + 1, none⟩ = some (.int .i64 x.l) := hc 1 _ rfl
    have k2 : w.cell? ⟨b1, off + 2, none⟩ = some (.int .i64 x.f) := hc 2 _ rfl
    have k3 : w.cell? ⟨b1, off + 3, none⟩ = some (.int .i64 x.b) := hc 3 _ rfl
    have k4 : w.cell? ⟨b1, off + 4, none⟩ = some (.int .i64 x.m) := hc 4 _ rfl
    have k5 : w.cell? ⟨b1, off + 5, none⟩ = some (.int .i64 x.n) := hc 5 _ rfl
    clear hc h
    go_enter Tryz.func146, Tryz.ntmps146
    go_wp2
    (try simp only [Exit.inBlock, Exit.then])
    refine bodyPost_ret (v := .tuple #[x.val, .bool true]) ?_ rfl ⟨rfl, ?_⟩
    · rw [results_cell_tmp rfl]
      go_simp
      rfl
    · repeat' (first | exact Below.refl _ _ | refine Below.setCell ?_ (by simp) _ | refine Below.alloc ?_ (by simp) _)
/-- Few packets, none of them long. -/
def Fit (L : List Hd) : Prop := L.length ≤ 1000000 ∧ ∀ x ∈ L, 0 ≤ x.l ∧ x.l ≤ 10000
theorem Fit.sum : ∀ {L : List Hd}, (∀ x ∈ L, 0 ≤ x.l ∧ x.l ≤ 10000) → 0 ≤ sumL L ∧ sumL L ≤ 10000 * L.length := by
  intro L
  induction L with
  | nil => intro _; simp [sumL]
  | cons x L ih =>
    intro h
    have h1 := h x (by simp)
    have h2 := ih (fun y hy => h y (by simp [hy]))
    simp only [sumL, List.length_cons]
    omega
theorem Fit.tail {x : Hd} {L : List Hd} (h : Fit (x :: L)) : Fit L := ⟨by have := h.1; simp at this; omega, fun y hy => h.2 y (by simp [hy])⟩
theorem LAt.below {w w' : World} {b : Nat} {T : TypeId} {rest : List Value} {v : Value} {L : List Hd} (h : LAt w b T rest v L) (hb : Below w.heap.size w w') : LAt w' b T rest v L := h.kept (hb.block b h.lt) (fun k hk => hb.block k (h.row.lt hk))
/-- What is left of block b when its first two cells are written. -/
theorem blk_two {w : World} {b : Nat} {T : TypeId} {rest : List Value} {v u p q : Value} (h : w.heap[b]? = some (.cells (v :: u :: rest).toArray T (0, 0))) : ((w.setCell ⟨b, 0, none⟩ p).setCell ⟨b, 1, none⟩ q).heap[b]? = some (.cells (p :: q :: rest).toArray T (0, 0)) := by
  rw [heap_setCell_here (heap_setCell_here h p) q]
  simp

theorem after_new {w w1 : World} {o : Obj} (h : Below (w.alloc o).heap.size (w.alloc o) w1) : w.heap.size < w1.heap.size ∧ w1.heap[w.heap.size]? = some o := by
  refine ⟨by have := h.size; simp at this; omega, ?_⟩
  rw [h.block w.heap.size (by simp)]
  exact heap_alloc_new w o
/-- The cells of a block of six, and that each may be written. -/
theorem six {w : World} {b : Nat} {t : TypeId} {a0 a1 a2 a3 a4 a5 : Value} (h : w.heap[b]? = some (.cells #[a0, a1, a2, a3, a4, a5] t (0, 0))) : (w.cell? ⟨b, 0, none⟩ = some a0 ∧ w.cell? ⟨b, 1, none⟩ = some a1 ∧ w.cell? ⟨b, 2, none⟩ = some a2 ∧ w.cell? ⟨b, 3, none⟩ = some a3 ∧ w.cell? ⟨b, 4, none⟩ = some a4 ∧ w.cell? ⟨b, 5, none⟩ = some a5) ∧
    w.frozen? ⟨b, 0, none⟩ = false ∧ w.frozen? ⟨b, 1, none⟩ = false ∧ w.frozen? ⟨b, 2, none⟩ = false ∧ w.frozen? ⟨b, 3, none⟩ = false ∧ w.frozen? ⟨b, 4, none⟩ = false ∧ w.frozen? ⟨b, 5, none⟩ = false := by
  refine ⟨⟨?_, ?_, ?_, ?_, ?_, ?_⟩, ?_, ?_, ?_, ?_, ?_, ?_⟩
  all_goals simp [World.cell?, World.frozen?, h]
theorem LAt.ot {S : Nat → Prop} {w w' : World} {b : Nat} {T : TypeId} {rest : List Value} {v : Value} {L : List Hd} (h : LAt w b T rest v L) (ho : Ot S w w') (hb : ¬ S b) (hv : ∀ k, v.ownBlock = some k → ¬ S k) : LAt w' b T rest v L := h.kept (ho.block b h.lt hb) (fun k hk => ho.block k (h.row.lt hk) (hv k hk))
/-- The list is another one: its two cells are written. -/
theorem LAt.set {w : World} {b : Nat} {T : TypeId} {rest : List Value} {v v' : Value} {L L' : List Hd} (h : LAt w b T rest v L) (hv : Hs w v' L') (hne : v'.ownBlock ≠ some b) : LAt ((w.setCell ⟨b, 0, none⟩ v').setCell ⟨b, 1, none⟩ (.int .i64 (sumL L'))) b T rest v' L' :=
  ⟨blk_two h.blk, (hv.setCell (p := ⟨b, 0, none⟩) hne _).setCell (p := ⟨b, 1, none⟩) hne _, hne⟩
theorem LAt.of {w : World} {b : Nat} {T : TypeId} {rest : List Value} {v u v' : Value} {L' : List Hd} (h : w.heap[b]? = some (.cells (v :: u :: rest).toArray T (0, 0))) (hv : Hs w v' L') (hne : v'.ownBlock ≠ some b) : LAt ((w.setCell ⟨b, 0, none⟩ v').setCell ⟨b, 1, none⟩ (.int .i64 (sumL L'))) b T rest v' L' :=
  ⟨blk_two h, (hv.setCell (p := ⟨b, 0, none⟩) hne _).setCell (p := ⟨b, 1, none⟩) hne _, hne⟩
theorem Hs.tail {w : World} {b off cap : Nat} {x : Hd} {L : List Hd} (h : Hs w (.slice (some ⟨b, off, none⟩) (L.length + 1) cap) (x :: L)) (off' cap' : Nat) (ho : off' = off + 6 ∧ cap' = cap - 1 ∨ cap = 1 ∧ off' = off ∧ cap' = 0) : Hs w (.slice (some ⟨b, off', none⟩) L.length cap') L := by
  have := Seg.drop (w := w) (e := 76) (k := 6) (n := L.length + 1) (m := 1) h (by omega) off' (by omega)
  rw [flt_drop Hd.cs 6 Hd.len] at this
  unfold Hs
  have hc : cap' = cap - 1 := by omega
  rw [hc]
  simpa using this
set_option maxHeartbeats 1000000 in
theorem next_any {b : Nat} {T : TypeId} {rest : List Value} {v : Value} {L : List Hd} (w : World) (h : LAt w b T rest v L) (hF : Fit L) :
    Calls Tryz.prog 145 #[.pointer (some ⟨b, 0, none⟩)] w fun e w' => e = .returned (.tuple #[(hdOr L).val, .bool (!L.isEmpty)]) ∧ ∃ v', LAt w' b T rest v' L.tail ∧ v'.ownBlock = v.ownBlock ∧ Ot (· = b) w w' := by
  have H : Hid (LAt w b T rest v L) := h
  have hb := h.lt
  cases L with
  | nil =>
    clear h
    have hV := Hd.val_eq
    go_enter Tryz.func145, Tryz.ntmps145
    go_wp2_with (go_at_call 146; refine (first_any _ (H.out.below ((Below.refl _ _).alloc (Nat.le_refl _) _))).mono ?_; rintro e w1 ⟨rfl, hb1⟩; obtain ⟨c0, c1, f0, f1⟩ := ((H.out.below ((Below.refl _ _).alloc (Nat.le_refl _) _)).below hb1).cells; obtain ⟨hs1, hz⟩ := after_new hb1; have hbs : b < w1.heap.size := Nat.lt_trans hb hs1; obtain ⟨⟨z0, z1, z2, z3, z4, z5⟩, y0, y1, y2, y3, y4, y5⟩ := six hz)
    (try simp only [Exit.inBlock, Exit.then])
    have hB : Below w.heap.size w w1 := ((Below.refl _ _).alloc (Nat.le_refl _) _).trans (hb1.mono (by simp))
    refine bodyPost_ret (v := .tuple #[(hdOr []).val, .bool false]) ?_ rfl ⟨rfl, v, H.out.below ?_, rfl, Ot.of_below ?_⟩
    · rw [results_cell_tmp rfl]
      go_simp
    all_goals repeat' (first | with_reducible exact hB | with_reducible refine Below.setCell ?_ (by simp) _ | with_reducible refine Below.alloc ?_ (by simp; omega) _)
  | cons x L =>
    clear h
    have hV := Hd.val_eq
    have hO : hdOr (x :: L) = x := rfl
    have hw : IntKind.i64.wrap (sumL (x :: L) - x.l) = sumL L := by
      have h1 := Fit.sum hF.2
      have h2 := Fit.sum hF.tail.2
      have h3 := hF.1
      rw [IntKind.wrap_i64]
      simp only [sumL, List.length_cons] at h1 h3 ⊢
      omega
    obtain ⟨b1, off, cap, rfl, hn, hx, hlt, _⟩ := H.out.row.some (by simp)
    go_enter Tryz.func145, Tryz.ntmps145
    go_wp2_with (go_at_call 146; refine (first_any _ (H.out.below ((Below.refl _ _).alloc (Nat.le_refl _) _))).mono ?_; rintro e w1 ⟨rfl, hb1⟩; obtain ⟨c0, c1, f0, f1⟩ := ((H.out.below ((Below.refl _ _).alloc (Nat.le_refl _) _)).below hb1).cells; obtain ⟨hs1, hz⟩ := after_new hb1; have hbs : b < w1.heap.size := Nat.lt_trans hb hs1; obtain ⟨⟨z0, z1, z2, z3, z4, z5⟩, y0, y1, y2, y3, y4, y5⟩ := six hz)
    all_goals go_region
    all_goals go_wp2
    all_goals (try simp only [Exit.inBlock, Exit.then])
    all_goals
      have hB : Below w.heap.size w w1 := ((Below.refl _ _).alloc (Nat.le_refl _) _).trans (hb1.mono (by simp))
      have H1 := H.out.below hB
      have hne : b1 ≠ b := fun e => H1.ne (by rw [e]; rfl)
    · refine bodyPost_ret (v := .tuple #[x.val, .bool true]) ?_ rfl ⟨rfl, _, LAt.ot (S := (· = w.heap.size)) (H1.set (v' := .slice (some ⟨b1, off, none⟩) L.length 0) (L' := L) (H1.row.tail _ _ (Or.inr ⟨by omega, rfl, rfl⟩)) (by simp [Value.ownBlock, hne])) ?_ ?_ ?_, rfl, ?_⟩
      · rw [results_cell_tmp rfl]
        go_simp
      · repeat' (first | with_reducible exact Ot.refl _ _ | with_reducible refine Ot.drew ?_ | with_reducible refine Ot.setCell ?_ (by simp) _ | with_reducible refine Ot.alloc ?_ _)
      · omega
      · intro k hk; simp [Value.ownBlock] at hk; omega
      · repeat' (first | with_reducible exact Ot.of_below hB | with_reducible refine Ot.drew ?_ | with_reducible refine Ot.setCell ?_ (by simp) _ | with_reducible refine Ot.alloc ?_ _)
    · refine bodyPost_ret (v := .tuple #[x.val, .bool true]) ?_ rfl ⟨rfl, _, LAt.ot (S := (· = w.heap.size)) (H1.set (v' := .slice (some ⟨b1, off + 6, none⟩) L.length (cap - 1)) (L' := L) (H1.row.tail _ _ (Or.inl ⟨rfl, rfl⟩)) (by simp [Value.ownBlock, hne])) ?_ ?_ ?_, rfl, ?_⟩
      · rw [results_cell_tmp rfl]
        go_simp
      · repeat' (first | with_reducible exact Ot.refl _ _ | with_reducible refine Ot.drew ?_ | with_reducible refine Ot.setCell ?_ (by simp) _ | with_reducible refine Ot.alloc ?_ _)
      · omega
      · intro k hk; simp [Value.ownBlock] at hk; omega
      · repeat' (first | with_reducible exact Ot.of_below hB | with_reducible refine Ot.drew ?_ | with_reducible refine Ot.setCell ?_ (by simp) _ | with_reducible refine Ot.alloc ?_ _)
theorem Hs.below {w w' : World} {v : Value} {L : List Hd} (h : Hs w v L) (hb : Below w.heap.size w w') : Hs w' v L := Seg.below h hb
theorem Hs.snoc {w : World} {v : Value} {L : List Hd} {x : Hd} {n : Nat} (h : Seg w 76 6 v n (flt Hd.cs L ++ x.cs)) (hn : n = L.length + 1) : Hs w v (L ++ [x]) := by
  unfold Hs
  rw [flt_append, flt_one]
  simpa [hn] using h
theorem add_mid {w W w1 : World} {o : Obj} {b : Nat} {T : TypeId} {rest : List Value} {v : Value} {L : List Hd} (H : LAt w b T rest v L) (hB : Below (w.alloc o).heap.size (w.alloc o) W) (hg : W.grownBy w1 v.ownBlock) :
    w1.heap[b]? = some (.cells (v :: .int .i64 (sumL L) :: rest).toArray T (0, 0)) ∧ w1.heap[w.heap.size]? = some o ∧ w.heap.size + 1 ≤ w1.heap.size := by
  have hs : w.heap.size + 1 ≤ W.heap.size := by have := hB.size; simpa using this
  have hb := H.lt
  refine ⟨?_, ?_, Nat.le_trans hs hg.size⟩
  · rw [hg.block b (by omega) (fun e => H.ne e.symm), hB.block b (by simp; omega), Below.heap_alloc _ _ _ hb]
    exact H.blk
  · rw [hg.block _ (by omega) (fun e => by have := H.row.lt e.symm; omega), hB.block _ (by simp)]
    exact heap_alloc_new w o
theorem two_cells {w : World} {b : Nat} {T : TypeId} {rest : List Value} {v u : Value} (h : w.heap[b]? = some (.cells (v :: u :: rest).toArray T (0, 0))) : w.cell? ⟨b, 0, none⟩ = some v ∧ w.cell? ⟨b, 1, none⟩ = some u ∧ w.frozen? ⟨b, 0, none⟩ = false ∧ w.frozen? ⟨b, 1, none⟩ = false := by
  refine ⟨?_, ?_, ?_, ?_⟩
  all_goals simp [World.cell?, World.frozen?, h]
set_option maxHeartbeats 1000000 in
theorem add_any {b : Nat} {T : TypeId} {rest : List Value} {v : Value} {L : List Hd} (x : Hd) (w : World) (h : LAt w b T rest v L) (hF : Fit (L ++ [x])) :
    Calls Tryz.prog 143 #[.pointer (some ⟨b, 0, none⟩), x.val] w fun e w' => e = .returned (.tuple #[]) ∧ ∃ v', LAt w' b T rest v' (L ++ [x]) ∧ (∀ k, v'.ownBlock = some k → v.ownBlock = some k ∨ w.heap.size ≤ k) ∧ Ot (fun k => k = b ∨ v.ownBlock = some k) w w' := by
  have H : Hid (LAt w b T rest v L) := h
  obtain ⟨c0, c1, f0, f1⟩ := h.cells
  have hb := h.lt
  have HR : Hid (Hs w v L) := h.row
  clear h
  have hV := Hd.val_eq
  have hw : IntKind.i64.wrap (sumL L + x.l) = sumL (L ++ [x]) := by
    have h1 := Fit.sum hF.2
    have h3 := hF.1
    rw [IntKind.wrap_i64]
    rw [sumL_append] at h1 ⊢
    simp only [sumL, List.length_append, List.length_cons, List.length_nil] at h1 h3 ⊢
    omega
  have hln : L.length + 1 ≤ 1000000 := by have := hF.1; simpa using this
  obtain ⟨i0, hi, hz0, hz1, hz2⟩ := info_parts infoHeld
  go_enter Tryz.func143, Tryz.ntmps143
  go_wp2
  go_region_law (refine step_append_seg _ (by rfl) (.tmp 8) (.tmp 10) 74 (by rfl) 76 i0 _ 6 48 Tryz.underlying74 hi hz0 hz1 hz2 rfl (by decide) _ _ _ (by rfl) (HR.out.below (by repeat' (first | with_reducible exact Below.refl _ _ | with_reducible refine Below.drew ?_ | with_reducible refine below_alloc_ ?_ _))) ⟨w.heap.size + 1, 0, none⟩ 1 1 x.cs (by rfl) rfl (news_of (new_block_ (by simp))) x.one (by decide) (by unfold maxLen; omega) (by omega) _ rfl ?_; intro g off cap w1 hs1 hg1 ha1 hl1; obtain ⟨m0, m1, m2⟩ := add_mid H.out (by repeat' (first | with_reducible exact Below.refl _ _ | with_reducible refine Below.drew ?_ | with_reducible refine below_alloc_ ?_ _)) hg1; obtain ⟨d0, d1, e0, e1⟩ := two_cells m0; obtain ⟨⟨z0, z1, z2, z3, z4, z5⟩, y0, y1, y2, y3, y4, y5⟩ := six m1; have hbs : b < w1.heap.size := by omega)
  all_goals
    go_wp2
    go_region
    go_wp2
    go_end0
    have hgb : g ≠ b := by
      rintro rfl
      rcases ha1 with ha1 | ha1
      · exact H.out.ne ha1
      · simp at ha1; omega
    refine ⟨rfl, _, (LAt.of m0 (Hs.snoc hs1 rfl) (by simpa [Value.ownBlock] using hgb)).kept rfl (fun _ _ => rfl), ?_, ?_⟩
    · intro k hk
      simp only [Value.ownBlock, Option.some.injEq] at hk
      subst hk
      rcases ha1 with ha1 | ha1
      · exact Or.inl ha1
      · right; simp at ha1; omega
    · refine Ot.drew ?_
      refine Ot.setCell ?_ (Or.inl (Or.inl rfl)) _
      refine Ot.setCell ?_ (Or.inl (Or.inl rfl)) _
      refine Ot.grown ?_ hg1 (fun k e => Or.inl (Or.inr e))
      refine Ot.of_below ?_
      repeat' (first | with_reducible exact Below.refl _ _ | with_reducible refine Below.drew ?_ | with_reducible refine below_alloc_ ?_ _)
end Go.Proofs.YtfakjedolecdcaaGreatDoor
namespace Go.Proofs.YtfakjedolecdcaaGreatDoor
open Go.RowKit Go.Extern.Stop Go.Stop Go.Extern

theorem LAt.drewN {w : World} {b : Nat} {T : TypeId} {rest : List Value} {v : Value} {L : List Hd} (h : LAt w b T rest v L) (n : Nat) : LAt (w.drewN n) b T rest v L := ⟨h.blk, h.row, h.ne⟩
theorem LAt.grown {w W w2 : World} {row : Option Nat} {b : Nat} {T : TypeId} {rest : List Value} {v : Value} {L : List Hd} (h : LAt w b T rest v L) (hB : Below w.heap.size w W) (hg : W.grownBy w2 row) (hb : row ≠ some b) (hv : ∀ k, v.ownBlock = some k → row ≠ some k) : LAt w2 b T rest v L :=
  h.kept ((hg.block b (Nat.lt_of_lt_of_le h.lt hB.size) (fun e => hb e.symm)).trans (hB.block b h.lt)) (fun k hk => (hg.block k (Nat.lt_of_lt_of_le (h.row.lt hk) hB.size) (fun e => hv k hk e.symm)).trans (hB.block k (h.row.lt hk)))
theorem after_ot {S : Nat → Prop} {w w1 : World} {o : Obj} (h : Ot S (w.alloc o) w1) (hs : ¬ S w.heap.size) : w.heap.size < w1.heap.size ∧ w1.heap[w.heap.size]? = some o := by
  refine ⟨by have := h.size; simp at this; omega, ?_⟩
  rw [h.block w.heap.size (by simp) hs]
  exact heap_alloc_new w o
/-- A Fifo's cells behind its list. -/
def frest (P R : Int) (hd : Bool) (more : List Value) : List Value := .int .i64 P :: .int .i64 R :: .bool hd :: more
theorem fifo_cells {w : World} {b : Nat} {T : TypeId} {P R : Int} {hd : Bool} {more : List Value} {v : Value} {L : List Hd} (h : LAt w b T (frest P R hd more) v L) : w.cell? ⟨b, 2, none⟩ = some (.int .i64 P) ∧ w.cell? ⟨b, 3, none⟩ = some (.int .i64 R) ∧ w.cell? ⟨b, 4, none⟩ = some (.bool hd) := by
  have := h.blk
  refine ⟨?_, ?_, ?_⟩
  all_goals simp [World.cell?, this, frest]
/-- There is no room for so many. -/
def over (P R : Int) (L : List Hd) : Bool := decide (P < (L.length : Int)) || decide (R < sumL L)
/-- The first ones are thrown away until the others have room. -/
def cutL (P R : Int) : List Hd → List Hd × List Hd
  | [] => ([], [])
  | x :: L => if over P R (x :: L) then (x :: (cutL P R L).1, (cutL P R L).2) else ([], x :: L)
theorem cutL_no {P R : Int} {L : List Hd} (h : over P R L = false) : cutL P R L = ([], L) := by
  cases L with
  | nil => rfl
  | cons x L => simp [cutL, h]
theorem cutL_yes {P R : Int} {x : Hd} {L : List Hd} (h : over P R (x :: L) = true) : cutL P R (x :: L) = (x :: (cutL P R L).1, (cutL P R L).2) := by simp [cutL, h]
theorem over_nil {P R : Int} (hP : 0 ≤ P) (hR : 0 ≤ R) : over P R [] = false := by
  unfold over
  have h1 : ¬ P < (([] : List Hd).length : Int) := by simp only [List.length_nil]; omega
  have h2 : ¬ R < sumL [] := by simp only [sumL]; omega
  rw [decide_eq_false h1, decide_eq_false h2]
  rfl
def lenOf : Value → Nat
  | .slice _ n _ => n
  | _ => 0
theorem Hs.len {w : World} {v : Value} {L : List Hd} (h : Hs w v L) : lenOf v = L.length := by
  rcases h.form with ⟨rfl, h0, _⟩ | ⟨b, off, cap, rfl, _⟩
  · rw [h0]; rfl
  · rfl
theorem Fit.suff {A B : List Hd} (h : Fit (A ++ B)) : Fit B := ⟨by have := h.1; simp at this; omega, fun y hy => h.2 y (by simp [hy])⟩
theorem Fit.pref {A B : List Hd} (h : Fit (A ++ B)) : Fit A := ⟨by have := h.1; simp at this; omega, fun y hy => h.2 y (by simp [hy])⟩

/-- A round of cut: what was thrown away, and what is left. -/
structure CutR (P R : Int) (L : List Hd) (w : World) (b : Nat) (T : TypeId) (hd : Bool) (more : List Value) (v : Value) (A B : List Hd) (u : Value) (v' : Value) (wr : World) : Prop where
  parts : L = A ++ B
  cut : cutL P R L = (A ++ (cutL P R B).1, (cutL P R B).2)
  list : LAt wr b T (frest P R hd more) v' B
  lost : Hs wr u A
  blk : v'.ownBlock = v.ownBlock
  new : ∀ k, u.ownBlock = some k → w.heap.size ≤ k
  ot : Ot (· = b) w wr

set_option maxHeartbeats 2000000 in
theorem cut_any {b : Nat} {T : TypeId} {P R : Int} {hd : Bool} {more : List Value} {v : Value} {L : List Hd} (w : World) (h : LAt w b T (frest P R hd more) v L) (hF : Fit L) (hP : 0 ≤ P) (hR : 0 ≤ R) :
    Calls Tryz.prog 144 #[.pointer (some ⟨b, 0, none⟩)] w fun e w' => ∃ u v', e = .returned u ∧ Hs w' u (cutL P R L).1 ∧ LAt w' b T (frest P R hd more) v' (cutL P R L).2 ∧ v'.ownBlock = v.ownBlock ∧ (∀ k, u.ownBlock = some k → w.heap.size ≤ k) ∧ Ot (· = b) w w' := by
  have H : Hid (LAt w b T (frest P R hd more) v L) := h
  have hb := h.lt
  clear h
  obtain ⟨i0, hi, hz0, hz1, hz2⟩ := info_parts infoHeld
  go_enter Tryz.func144, Tryz.ntmps144
  go_wp2
  go_loopw [3] (fun u wr => ∃ A B v', CutR P R L w b T hd more v A B u v' wr) (fun u _ => L.length - lenOf u)
  case atStart => exact ⟨[], L, v, rfl, rfl, H.out, Hs.nil _, rfl, fun k hk => by simp [Value.ownBlock] at hk, Ot.refl _ _⟩
  case round =>
    obtain ⟨A, B, v', hr⟩ := hrel
    have HR : Hid (CutR P R L w b T hd more v A B u3 v' wr) := hr
    have HL : Hid (LAt wr b T (frest P R hd more) v' B) := hr.list
    obtain ⟨c0, c1, f0, f1⟩ := hr.list.cells
    obtain ⟨c2, c3, c4⟩ := fifo_cells hr.list
    have hbs := hr.list.lt
    have hFB : Fit B := (hr.parts ▸ hF).suff
    clear hr
    cases ho : over P R B with
    | false =>
      have HO : Hid (over P R B = false) := ho
      have o1 : decide (P < (B.length : Int)) = false := by simp [over] at ho; simpa using ho.1
      have o2 : decide (R < sumL B) = false := by simp [over] at ho; simpa using ho.2
      clear ho
      go_wp2
      go_quiet (first | (go_at_call 139; go_loud (exact Calls.quiet_of_same (len_any _ (HL.out.drewN _)))) | (go_at_call 138; go_loud (exact Calls.quiet_of_same (bytes_any _ (HL.out.drewN _)))))
      go_wp2
      go_ret
      have hr := HR.out
      have hc : cutL P R L = (A, B) := by rw [hr.cut, cutL_no HO.out]; simp
      rw [hc]
      exact ⟨u3, v', rfl, hr.lost, hr.list.drewN _, hr.blk, hr.new, hr.ot.drewN _⟩
    | true =>
      obtain ⟨x, B', hB⟩ : ∃ x B', B = x :: B' := by
        cases B with
        | nil => rw [over_nil hP hR] at ho; cases ho
        | cons x B' => exact ⟨x, B', rfl⟩
      have HO : Hid (over P R B = true) := ho
      have hV := Hd.val_eq
      have hO : hdOr B = x := by rw [hB]; rfl
      have hE : B.isEmpty = false := by rw [hB]; rfl
      have HT : Hid (B.tail = B') := by rw [hB]; rfl
      have hla : A.length + 1 ≤ 1000000 := by have := hF.1; rw [HR.out.parts, hB] at this; simp at this; omega
      have HB : Hid (B = x :: B') := hB
      have HQ : Hid (∀ {u u' : Value} {v1 : Value} {w1 : World}, LAt w1 b T (frest P R hd more) v1 B.tail → Hs w1 u' (A ++ [x]) → v1.ownBlock = v'.ownBlock → (∀ k, u'.ownBlock = some k → w.heap.size ≤ k) → Ot (· = b) w w1 → CutR P R L w b T hd more v (A ++ [x]) B' u' v1 w1) := by
        intro u u' v1 w1 h1 h2 h3 h4 h5
        refine ⟨?_, ?_, HT.out ▸ h1, h2, h3.trans HR.out.blk, h4, h5⟩
        · rw [HR.out.parts, HB.out]; simp
        · rw [HR.out.cut, HB.out, cutL_yes (HB.out ▸ HO.out)]; simp
      clear ho hB
      have HS3 : Hid (∀ {n : Nat} (w1 : World), Ot (· = b) (wr.drewN n) w1 → Hs w1 u3 A) := by
        intro n w1 ho
        refine Seg.oth (S := (· = b)) (w := wr.drewN n) (HR.out.lost.drewN n) ho (fun k hk e => ?_)
        have := HR.out.new k hk
        omega
      cases o1 : decide (P < (B.length : Int)) with
      | true =>
        go_wp2
        go_quiet (first | (go_at_call 139; exact Calls.quiet_of_same (len_any _ (HL.out.drewN _))) | (go_at_call 138; exact Calls.quiet_of_same (bytes_any _ (HL.out.drewN _))))
        go_wp2_with (first | (go_at_call 145; refine (next_any _ (HL.out.drewN _) hFB).mono ?_; rintro e w1 ⟨rfl, v1, hl1, hk1, ho1⟩; have hs3 := HS3.out _ ho1) | (at_builtin; refine wpList_append_seg _ rfl (.tmp 35) (.tmp 37) 74 rfl 76 i0 _ 6 48 Tryz.underlying74 hi hz0 hz1 hz2 rfl (by decide) _ _ _ rfl (Hs.below hs3 (by repeat' (first | with_reducible exact Below.refl _ _ | with_reducible refine Below.drew ?_ | with_reducible refine below_alloc_ ?_ _))) ⟨w1.heap.size + 1, 0, none⟩ 1 1 x.cs rfl rfl (news_of (new_block_ (by simp))) x.one (by decide) (by unfold maxLen; omega) (by omega) _ rfl ?_; intro g off cap w2 hs2 hg2 ha2 hl2))
        go_roundw
        case rel =>
          refine ⟨A ++ [x], B', v1, HQ.out (u := u3) (hl1.grown (by repeat' (first | with_reducible exact Below.refl _ _ | with_reducible refine Below.drew ?_ | with_reducible refine below_alloc_ ?_ _)) hg2 ?_ ?_) (Hs.snoc hs2 rfl) hk1 ?_ ?_⟩
          · intro e; have := HR.out.new _ e; omega
          · intro k hk e
            have h1 := HR.out.new _ e
            have h2 := H.out.row.lt (b := k) (by rw [← HR.out.blk, ← hk1, hk])
            omega
          · intro k hk
            simp only [Value.ownBlock, Option.some.injEq] at hk
            subst hk
            rcases ha2 with ha2 | ha2
            · exact HR.out.new _ ha2
            · have h1 := HR.out.ot.size
              have h2 := ho1.size
              simp at ha2 h2
              omega
          · refine Ot.grown (row := u3.ownBlock) ?_ hg2 (fun k e => Or.inr (HR.out.new k e))
            refine Ot.alloc (Ot.alloc ?_ _) _
            exact (HR.out.ot.drewN _).trans ho1
        case measure =>
          have h1 := HR.out.lost.len
          have h2 : L.length = A.length + (B'.length + 1) := by rw [HR.out.parts, HB.out]; simp
          rw [h1]
          show L.length - (A.length + 1) < L.length - A.length
          omega
      | false =>
        have o2 : decide (R < sumL B) = true := by
          have := HO.out
          simp only [over, o1, Bool.false_or] at this
          exact this
        go_wp2
        go_quiet (first | (go_at_call 139; exact Calls.quiet_of_same (len_any _ (HL.out.drewN _))) | (go_at_call 138; exact Calls.quiet_of_same (bytes_any _ (HL.out.drewN _))))
        go_wp2_with (first | (go_at_call 145; refine (next_any _ (HL.out.drewN _) hFB).mono ?_; rintro e w1 ⟨rfl, v1, hl1, hk1, ho1⟩; have hs3 := HS3.out _ ho1) | (at_builtin; refine wpList_append_seg _ rfl (.tmp 35) (.tmp 37) 74 rfl 76 i0 _ 6 48 Tryz.underlying74 hi hz0 hz1 hz2 rfl (by decide) _ _ _ rfl (Hs.below hs3 (by repeat' (first | with_reducible exact Below.refl _ _ | with_reducible refine Below.drew ?_ | with_reducible refine below_alloc_ ?_ _))) ⟨w1.heap.size + 1, 0, none⟩ 1 1 x.cs rfl rfl (news_of (new_block_ (by simp))) x.one (by decide) (by unfold maxLen; omega) (by omega) _ rfl ?_; intro g off cap w2 hs2 hg2 ha2 hl2))
        go_roundw
        case rel =>
          refine ⟨A ++ [x], B', v1, HQ.out (u := u3) (hl1.grown (by repeat' (first | with_reducible exact Below.refl _ _ | with_reducible refine Below.drew ?_ | with_reducible refine below_alloc_ ?_ _)) hg2 ?_ ?_) (Hs.snoc hs2 rfl) hk1 ?_ ?_⟩
          · intro e; have := HR.out.new _ e; omega
          · intro k hk e
            have h1 := HR.out.new _ e
            have h2 := H.out.row.lt (b := k) (by rw [← HR.out.blk, ← hk1, hk])
            omega
          · intro k hk
            simp only [Value.ownBlock, Option.some.injEq] at hk
            subst hk
            rcases ha2 with ha2 | ha2
            · exact HR.out.new _ ha2
            · have h1 := HR.out.ot.size
              have h2 := ho1.size
              simp at ha2 h2
              omega
          · refine Ot.grown (row := u3.ownBlock) ?_ hg2 (fun k e => Or.inr (HR.out.new k e))
            refine Ot.alloc (Ot.alloc ?_ _) _
            exact (HR.out.ot.drewN _).trans ho1
        case measure =>
          have h1 := HR.out.lost.len
          have h2 : L.length = A.length + (B'.length + 1) := by rw [HR.out.parts, HB.out]; simp
          rw [h1]
          show L.length - (A.length + 1) < L.length - A.length
          omega

/-- NewFifo. -/
theorem newFifo_yes (P R : Int) (hd : Bool) (w : World) (hP : 0 ≤ P) (hP1 : P ≤ 1000000) (hR : 0 ≤ R) (hR1 : R ≤ 1000000) :
    Calls Tryz.prog 27 #[.int .i64 P, .int .i64 R, .bool hd] w fun e w' => e = .returned (.tuple #[.pointer (some ⟨w.heap.size, 0, none⟩), .nilIface]) ∧ LAt w' w.heap.size 110 (frest P R hd []) (.slice none 0 0) [] ∧ w' = w.alloc (.cells #[.slice none 0 0, .int .i64 0, .int .i64 P, .int .i64 R, .bool hd] 110) := by
  have a1 : decide (P < 0) = false := by simp; omega
  have a2 : decide (R < 0) = false := by simp; omega
  have a3 : decide (1000000 < P) = false := by simp; omega
  have a4 : decide (1000000 < R) = false := by simp; omega
  by_cases hPR : P < R
  · go_enter Tryz.func27, Tryz.ntmps27
    go_wp2
    all_goals
      go_ret2
      exact ⟨rfl, ⟨new_block _ _, Hs.nil _, by simp [Value.ownBlock]⟩, rfl⟩
  · go_enter Tryz.func27, Tryz.ntmps27
    go_wp2
    all_goals
      go_ret2
      exact ⟨rfl, ⟨new_block _ _, Hs.nil _, by simp [Value.ownBlock]⟩, rfl⟩
theorem newFifo_no (P R : Int) (hd : Bool) (w : World) (h : ¬ (0 ≤ P ∧ P ≤ 1000000 ∧ 0 ≤ R ∧ R ≤ 1000000)) :
    Calls Tryz.prog 27 #[.int .i64 P, .int .i64 R, .bool hd] w fun e w' => e = .returned (.tuple #[.pointer none, .iface 57 (.int .i64 2)]) ∧ w' = w := by
  by_cases hPR : P < R
  · by_cases h1 : P < 0
    · clear h
      go_enter Tryz.func27, Tryz.ntmps27
      go_wp2
      all_goals
        go_ret2
        exact ⟨rfl, rfl⟩
    · have h2 : 1000000 < R := by omega
      clear h
      go_enter Tryz.func27, Tryz.ntmps27
      go_wp2
      all_goals
        go_ret2
        exact ⟨rfl, rfl⟩
  · by_cases h1 : R < 0
    · clear h
      go_enter Tryz.func27, Tryz.ntmps27
      go_wp2
      all_goals
        go_ret2
        exact ⟨rfl, rfl⟩
    · have h2 : 1000000 < P := by omega
      clear h
      go_enter Tryz.func27, Tryz.ntmps27
      go_wp2
      all_goals
        go_ret2
        exact ⟨rfl, rfl⟩

theorem fifo_when {b : Nat} {T : TypeId} {rest : List Value} {v : Value} {L : List Hd} (now : Int) (w : World) (h : LAt w b T rest v L) :
    Calls Tryz.prog 142 #[.pointer (some ⟨b, 0, none⟩), .int .i64 now] w fun e w' => e = .returned (.tuple #[.int .i64 now, .bool (!L.isEmpty)]) ∧ w' = w := by
  have H : Hid (LAt w b T rest v L) := h
  have HE : Hid (decide (0 < L.length) = !L.isEmpty) := by
    cases L with
    | nil => rfl
    | cons x L => simp [Hid]
  clear h
  go_enter Tryz.func142, Tryz.ntmps142
  go_wp2_with (go_at_call 139; refine (len_any _ H.out).mono ?_; rintro e w1 ⟨rfl, rfl⟩)
  go_ret2
  exact ⟨by rw [← HE.out]; rfl, rfl⟩

theorem six_set {w : World} {b : Nat} {t : TypeId} {p0 p1 p2 p3 p4 p5 : Value} (h : w.heap[b]? = some (.cells #[p0, p1, p2, p3, p4, p5] t (0, 0))) (a0 a1 a2 a3 a4 a5 : Value) :
    ((((((w.setCell ⟨b, 0, none⟩ a0).setCell ⟨b, 1, none⟩ a1).setCell ⟨b, 2, none⟩ a2).setCell ⟨b, 3, none⟩ a3).setCell ⟨b, 4, none⟩ a4).setCell ⟨b, 5, none⟩ a5).heap[b]? = some (.cells #[a0, a1, a2, a3, a4, a5] t (0, 0)) := by
  rw [heap_setCell_here (heap_setCell_here (heap_setCell_here (heap_setCell_here (heap_setCell_here (heap_setCell_here h a0) a1) a2) a3) a4) a5]
  simp
theorem sizeHeld : (Tryz.prog.info? 76).map (·.size) = some 6 := by kernel_rfl
theorem load_held {w : World} {b : Nat} {t : TypeId} {fr : Nat × Nat} {x : Hd} (h : w.heap[b]? = some (.cells #[.int .i64 x.a, .int .i64 x.l, .int .i64 x.f, .int .i64 x.b, .int .i64 x.m, .int .i64 x.n] t fr)) : (loadVar 76 ⟨b, 0, none⟩).run Tryz.prog w = .ok x.val w :=
  run_loadVar_row w b t 76 _ fr _ h Tryz.underlying76 rfl sizeHeld
theorem results_cell_tmp2 {fn : Func} {p u u2 : Tmp} {ty : TypeId} (h : fn.results = #[.cell p ty, .tmp u, .tmp u2]) (tmps : Array Value) (P : Program) (w : World) :
    (results fn tmps).run P w =
      ((asAddr (tmps.getD p undef)).run P w).andThen fun a w₁ => ((loadVar ty a).run P w₁).andThen fun v w₂ => .ok (.tuple #[v, tmps.getD u undef, tmps.getD u2 undef]) w₂ := by
  simp only [results, h]
  simp [Sem.run_bind, Result.andThen]
set_option maxHeartbeats 1000000 in
theorem fifo_take {b : Nat} {T : TypeId} {rest : List Value} {v : Value} {L : List Hd} (now : Int) (w : World) (h : LAt w b T rest v L) (hF : Fit L) :
    Calls Tryz.prog 141 #[.pointer (some ⟨b, 0, none⟩), .int .i64 now] w fun e w' => e = .returned (.tuple #[(hdOr L).val, .slice none 0 0, .bool (!L.isEmpty)]) ∧ ∃ v', LAt w' b T rest v' L.tail ∧ v'.ownBlock = v.ownBlock ∧ Ot (· = b) w w' := by
  have H : Hid (LAt w b T rest v L) := h
  have hb := h.lt
  clear h
  have hV := Hd.val_eq
  go_enter Tryz.func141, Tryz.ntmps141
  go_wp2_with (go_at_call 145; refine (next_any _ (H.out.below ((Below.refl _ _).alloc (Nat.le_refl _) _)) hF).mono ?_; rintro e w1 ⟨rfl, v1, hl1, hk1, ho1⟩; obtain ⟨hs1, hz⟩ := after_ot ho1 (by omega); obtain ⟨⟨z0, z1, z2, z3, z4, z5⟩, y0, y1, y2, y3, y4, y5⟩ := six hz)
  (try simp only [Exit.inBlock, Exit.then])
  refine bodyPost_ret (v := .tuple #[(hdOr L).val, .slice none 0 0, .bool (!L.isEmpty)]) ?_ rfl ⟨rfl, v1, LAt.ot (S := (· = w.heap.size)) hl1 ?_ ?_ ?_, hk1, ?_⟩
  · rw [results_cell_tmp2 rfl]
    have hld := load_held (x := hdOr L) (six_set (six_set hz (.int .i64 (hdOr L).a) (.int .i64 (hdOr L).l) (.int .i64 (hdOr L).f) (.int .i64 (hdOr L).b) (.int .i64 (hdOr L).m) (.int .i64 (hdOr L).n)) (.int .i64 (hdOr L).a) (.int .i64 (hdOr L).l) (.int .i64 (hdOr L).f) (.int .i64 (hdOr L).b) (.int .i64 (hdOr L).m) (.int .i64 (hdOr L).n))
    simp [asAddr, Result.andThen, hld]
  · repeat' (first | with_reducible exact Ot.refl _ _ | with_reducible refine Ot.setCell ?_ (by simp) _)
  · omega
  · intro k hk; have := H.out.row.lt (b := k) (by rw [← hk1, hk]); omega
  · have hO : Ot (· = b) w w1 := (Ot.of_below ((Below.refl _ _).alloc (Nat.le_refl _) _)).trans ho1
    repeat' (first | with_reducible exact hO | with_reducible refine Ot.setCell ?_ (by simp) _)

/-- What Put throws away, and what waits then. -/
def putF (P R : Int) (hd : Bool) (L : List Hd) (x : Hd) : List Hd × List Hd :=
  if hd then cutL P R (L ++ [x]) else if decide (P ≤ (L.length : Int)) || decide (R - sumL L < x.l) then ([x], L) else ([], L ++ [x])
theorem putF_head (P R : Int) (L : List Hd) (x : Hd) : putF P R true L x = cutL P R (L ++ [x]) := rfl
theorem putF_full {P R : Int} {L : List Hd} {x : Hd} (h : (decide (P ≤ (L.length : Int)) || decide (R - sumL L < x.l)) = true) : putF P R false L x = ([x], L) := by simp only [putF, h]; rfl
theorem putF_room {P R : Int} {L : List Hd} {x : Hd} (h : (decide (P ≤ (L.length : Int)) || decide (R - sumL L < x.l)) = false) : putF P R false L x = ([], L ++ [x]) := by simp only [putF, h]; rfl
theorem Hs.one {w : World} {b : Nat} {x : Hd} (h : w.heap[b]? = some (.cells x.cs.toArray 76 (0, 0))) : Hs w (.slice (some ⟨b, 0, none⟩) 1 1) [x] := by
  refine ⟨rfl, Or.inr ⟨b, 0, 1, _, rfl, h, by simp, by decide, by simp [Hd.cs], fun j u hj => ?_⟩⟩
  rw [flt_one] at hj
  simpa using hj
set_option maxHeartbeats 2000000 in
theorem fifo_put {b : Nat} {T : TypeId} {P R : Int} {hd : Bool} {more : List Value} {v : Value} {L : List Hd} (now : Int) (x : Hd) (w : World) (h : LAt w b T (frest P R hd more) v L) (hF : Fit (L ++ [x])) (hP : 0 ≤ P) (hR : 0 ≤ R) (hR1 : R ≤ 1000000) :
    Calls Tryz.prog 140 #[.pointer (some ⟨b, 0, none⟩), .int .i64 now, x.val] w fun e w' => ∃ u v', e = .returned u ∧ Hs w' u (putF P R hd L x).1 ∧ LAt w' b T (frest P R hd more) v' (putF P R hd L x).2 ∧ (∀ k, v'.ownBlock = some k → v.ownBlock = some k ∨ w.heap.size ≤ k) ∧ (∀ k, u.ownBlock = some k → w.heap.size ≤ k) ∧ Ot (fun k => k = b ∨ v.ownBlock = some k) w w' := by
  have H : Hid (LAt w b T (frest P R hd more) v L) := h
  have HA : Hid (∀ (o : Obj) (n : Nat), LAt ((w.alloc o).drewN n) b T (frest P R hd more) v L) := fun o n => (h.below ((Below.refl _ _).alloc (Nat.le_refl _) _)).drewN n
  have hb := h.lt
  obtain ⟨c0, c1, f0, f1⟩ := h.cells
  obtain ⟨c2, c3, c4⟩ := fifo_cells h
  clear h
  have hV := Hd.val_eq
  cases hd with
  | true =>
    go_enter Tryz.func140, Tryz.ntmps140
    go_wp2
    go_region_with (go_at_call 143; refine (add_any x _ (HA.out _ _) hF).mono ?_; rintro e w1 ⟨rfl, v1, hl1, hk1, ho1⟩)
    go_wp2_with (go_at_call 144; refine (cut_any _ hl1 hF hP hR).mono ?_; rintro e w2 ⟨u, v2, rfl, hu2, hl2, hk2, hn2, ho2⟩)
    go_ret
    have hO1 : Ot (fun k => k = b ∨ v.ownBlock = some k) w w1 := ((Ot.of_below ((Below.refl _ _).alloc (Nat.le_refl _) _)).drew).trans ho1
    have hs1 := hO1.size
    refine ⟨u, v2, rfl, hu2, hl2, ?_, ?_, hO1.trans (ho2.mono (fun k _ e => Or.inl e))⟩
    · intro k hk
      rw [hk2] at hk
      rcases hk1 k hk with h | h
      · exact Or.inl h
      · right; simp at h; omega
    · intro k hk
      have := hn2 k hk
      omega
  | false =>
    have hwr : IntKind.i64.wrap (R - sumL L) = R - sumL L := by
      have h1 := Fit.sum hF.pref.2
      have h2 := hF.pref.1
      rw [IntKind.wrap_i64]
      omega
    cases o1 : decide (P ≤ (L.length : Int)) with
    | true =>
      have HO : Hid ((decide (P ≤ (L.length : Int)) || decide (R - sumL L < x.l)) = true) := by simp only [Hid, o1, Bool.true_or]
      go_enter Tryz.func140, Tryz.ntmps140
      go_wp2
      go_quiet (first | (go_at_call 139; exact Calls.quiet_of_same (len_any _ (HA.out _ _))) | (go_at_call 138; exact Calls.quiet_of_same (bytes_any _ (HA.out _ _))))
      go_wp2
      go_ret
      rw [putF_full HO.out]
      refine ⟨.slice (some ⟨w.heap.size + 1, 0, none⟩) 1 1, v, rfl, Hs.one (x := x) (new_block_ (by simp)), (HA.out _ _).below (below_alloc_ (Below.refl _ _) _), fun k hk => Or.inl hk, ?_, Ot.alloc (Ot.drewN (Ot.alloc (Ot.refl _ _) _) _) _⟩
      intro k hk
      simp only [Value.ownBlock, Option.some.injEq] at hk
      omega
    | false =>
      cases o2 : decide (R - sumL L < x.l) with
      | true =>
        have HO : Hid ((decide (P ≤ (L.length : Int)) || decide (R - sumL L < x.l)) = true) := by simp only [Hid, o2, Bool.or_true]
        go_enter Tryz.func140, Tryz.ntmps140
        go_wp2
        go_quiet (first | (go_at_call 139; exact Calls.quiet_of_same (len_any _ (HA.out _ _))) | (go_at_call 138; exact Calls.quiet_of_same (bytes_any _ (HA.out _ _))))
        go_wp2
        go_ret
        rw [putF_full HO.out]
        refine ⟨.slice (some ⟨w.heap.size + 1, 0, none⟩) 1 1, v, rfl, Hs.one (x := x) (new_block_ (by simp)), (HA.out _ _).below (below_alloc_ (Below.refl _ _) _), fun k hk => Or.inl hk, ?_, Ot.alloc (Ot.drewN (Ot.alloc (Ot.refl _ _) _) _) _⟩
        intro k hk
        simp only [Value.ownBlock, Option.some.injEq] at hk
        omega
      | false =>
        have HO : Hid ((decide (P ≤ (L.length : Int)) || decide (R - sumL L < x.l)) = false) := by simp only [Hid, o1, o2, Bool.or_false]
        go_enter Tryz.func140, Tryz.ntmps140
        go_wp2
        go_quiet (first | (go_at_call 139; exact Calls.quiet_of_same (len_any _ (HA.out _ _))) | (go_at_call 138; exact Calls.quiet_of_same (bytes_any _ (HA.out _ _))))
        go_wp2
        go_region_with (go_at_call 143; refine (add_any x _ ((HA.out _ _).drewN 1) hF).mono ?_; rintro e w1 ⟨rfl, v1, hl1, hk1, ho1⟩)
        go_wp2
        go_ret
        rw [putF_room HO.out]
        refine ⟨_, v1, rfl, Hs.nil _, hl1, ?_, fun k hk => by simp [Value.ownBlock] at hk, (((Ot.of_below ((Below.refl _ _).alloc (Nat.le_refl _) _)).drewN _).drew).trans ho1⟩
        intro k hk
        rcases hk1 k hk with h | h
        · exact Or.inl h
        · right; simp at h; omega
end Go.Proofs.YtfakjedolecdcaaGreatDoor
namespace Go.Proofs.YtfakjedolecdcaaGreatDoor
open Go.RowKit Go.Extern.Stop Go.Stop Go.Extern

/-- A step: What, Later; At, Len, Flow, Band, Mark of its packet. -/
structure Stp where
  what : Int
  lt : Int
  a : Int
  l : Int
  f : Int
  b : Int
  m : Int
def Stp.cs (s : Stp) : List Value := [.int .i64 s.what, .int .i64 s.lt, .int .i64 s.a, .int .i64 s.l, .int .i64 s.f, .int .i64 s.b, .int .i64 s.m]
theorem Stp.len (s : Stp) : s.cs.length = 7 := rfl
theorem Stp.one (s : Stp) : ∀ u ∈ s.cs, u.oneCell' = true := by
  intro u hu
  simp only [Stp.cs, List.mem_cons, List.not_mem_nil, or_false] at hu
  rcases hu with rfl | rfl | rfl | rfl | rfl | rfl | rfl <;> rfl
/-- How many ticks later, from 0 to 1000. -/
def later (s : Stp) : Int := max 0 (min s.lt 1000)
theorem later_le (s : Stp) : 0 ≤ later s ∧ later s ≤ 1000 := by unfold later; omega
/-- A step at its time. -/
def timed (t : Int) (s : Stp) : Stp := { s with lt := t, a := t, what := if s.what = 0 ∧ It.ok ⟨t, s.l, s.f, s.b, s.m⟩ = false then 2 else s.what }
def nowAt (t : Int) : List Stp → Nat → Int
  | _, 0 => t
  | [], _ + 1 => t
  | s :: r, k + 1 => nowAt (t + later s) r k
def timesL (t : Int) : List Stp → List Stp
  | [] => []
  | s :: r => timed (t + later s) s :: timesL (t + later s) r
theorem timesL_length (t : Int) (xs : List Stp) : (timesL t xs).length = xs.length := by
  induction xs generalizing t with
  | nil => rfl
  | cons s r ih => simp [timesL, ih]
theorem nowAt_succ {t : Int} {xs : List Stp} {k : Nat} {s : Stp} (h : xs[k]? = some s) : nowAt t xs (k + 1) = nowAt t xs k + later s := by
  induction xs generalizing t k with
  | nil => simp at h
  | cons y r ih =>
    cases k with
    | zero =>
      simp at h; subst h
      cases r <;> rfl
    | succ k => simpa [nowAt] using ih (t := t + later y) (by simpa using h)
theorem timesL_at {t : Int} {xs : List Stp} {k : Nat} {s : Stp} (h : xs[k]? = some s) : (timesL t xs)[k]? = some (timed (nowAt t xs (k + 1)) s) := by
  induction xs generalizing t k with
  | nil => simp at h
  | cons y r ih =>
    cases k with
    | zero =>
      simp at h; subst h
      cases r <;> simp [timesL, nowAt]
    | succ k => simpa [timesL, nowAt] using ih (t := t + later y) (by simpa using h)
theorem nowAt_le (t : Int) (xs : List Stp) (k : Nat) : t ≤ nowAt t xs k ∧ nowAt t xs k ≤ t + 1000 * k := by
  induction xs generalizing t k with
  | nil => cases k <;> simp only [nowAt] <;> omega
  | cons y r ih =>
    cases k with
    | zero => simp only [nowAt]; omega
    | succ k =>
      have := ih (t + later y) k
      have := later_le y
      simp only [nowAt]
      omega
/-- Cells lie in memory, from an address on. -/
def Lies (w : World) (x : Option Addr) (cells : List Value) : Prop := cells = [] ∨ ∃ b off, x = some ⟨b, off, none⟩ ∧ b < w.heap.size ∧ ∀ j u, cells[j]? = some u → w.cell? ⟨b, off + j, none⟩ = some u
theorem Lies.below {w w' : World} {x : Option Addr} {cells : List Value} (h : Lies w x cells) (hb : Below w.heap.size w w') : Lies w' x cells := by
  rcases h with h | ⟨b, off, e, hl, h⟩
  · exact Or.inl h
  · exact Or.inr ⟨b, off, e, Nat.lt_of_lt_of_le hl hb.size, fun j u hj => by rw [hb.cell (p := ⟨b, off + j, none⟩) hl]; exact h j u hj⟩
theorem Lies.ot {S : Nat → Prop} {w w' : World} {x : Option Addr} {cells : List Value} (h : Lies w x cells) (hb : Ot S w w') (hs : ∀ a, x = some a → ¬ S a.block) : Lies w' x cells := by
  rcases h with h | ⟨b, off, e, hl, h⟩
  · exact Or.inl h
  · exact Or.inr ⟨b, off, e, Nat.lt_of_lt_of_le hl hb.size, fun j u hj => by rw [hb.cell (p := ⟨b, off + j, none⟩) hl (hs ⟨b, off, none⟩ e)]; exact h j u hj⟩
theorem Seg.lies {w : World} {e : TypeId} {k : Nat} {v : Value} {n : Nat} {xs : List Value} (h : Seg w e k v n xs) : ∃ x cap, v = .slice x n cap ∧ Lies w x xs := by
  rcases h.form with ⟨rfl, h0, hx⟩ | ⟨b, off, cap, rfl, _, _, hl, h⟩
  · exact ⟨none, 0, by rw [h0], Or.inl hx⟩
  · exact ⟨_, cap, rfl, Or.inr ⟨b, off, rfl, hl, h⟩⟩
theorem Lies.seven {w : World} {x : Option Addr} {xs : List Stp} (h : Lies w x (flt Stp.cs xs)) {k : Nat} {s : Stp} (hk : xs[k]? = some s) : ∃ b off, x = some ⟨b, off, none⟩ ∧ b < w.heap.size ∧ w.cell? ⟨b, off + k * 7, none⟩ = some (.int .i64 s.what) ∧ w.cell? ⟨b, off + k * 7 + 1, none⟩ = some (.int .i64 s.lt) ∧ w.cell? ⟨b, off + k * 7 + 2, none⟩ = some (.int .i64 s.a) ∧ w.cell? ⟨b, off + k * 7 + 3, none⟩ = some (.int .i64 s.l) ∧ w.cell? ⟨b, off + k * 7 + 4, none⟩ = some (.int .i64 s.f) ∧ w.cell? ⟨b, off + k * 7 + 5, none⟩ = some (.int .i64 s.b) ∧ w.cell? ⟨b, off + k * 7 + 6, none⟩ = some (.int .i64 s.m) := by
  have hat : ∀ j, j < 7 → (flt Stp.cs xs)[k * 7 + j]? = s.cs[j]? := fun j hj => flt_at Stp.cs 7 Stp.len hk hj
  rcases h with h | ⟨b, off, e, hl, h⟩
  · have := hat 0 (by omega)
    rw [h] at this
    simp [Stp.cs] at this
  · refine ⟨b, off, e, hl, ?_, ?_, ?_, ?_, ?_, ?_, ?_⟩
    · exact h _ _ (hat 0 (by omega))
    · exact h _ _ (hat 1 (by omega))
    · exact h _ _ (hat 2 (by omega))
    · exact h _ _ (hat 3 (by omega))
    · exact h _ _ (hat 4 (by omega))
    · exact h _ _ (hat 5 (by omega))
    · exact h _ _ (hat 6 (by omega))
theorem infoStep : (Tryz.prog.info? 70).map (fun i => (i.zero, i.size, i.bytes)) = some (some (.agg #[.int .i64 0, .int .i64 0, .int .i64 0, .int .i64 0, .int .i64 0, .int .i64 0, .int .i64 0]), 7, 56) := by kernel_rfl
/-- The steps with their times, as far as k. -/
def Tms (xs : List Stp) (k : Nat) : List Stp := (timesL 0 xs).take k
theorem Tms_succ {xs : List Stp} {k : Nat} {s : Stp} (h : xs[k]? = some s) : Tms xs (k + 1) = Tms xs k ++ [timed (nowAt 0 xs k + later s) s] := by
  unfold Tms
  rw [List.take_add_one, timesL_at h, nowAt_succ h]
  rfl
theorem Tms_length {xs : List Stp} {k : Nat} (h : k ≤ xs.length) : (Tms xs k).length = k := by simp [Tms, timesL_length]; omega
theorem Tms_all (xs : List Stp) : Tms xs xs.length = timesL 0 xs := by rw [Tms, List.take_of_length_le (by rw [timesL_length]; exact Nat.le_refl _)]
def Sts (w : World) (v : Value) (xs : List Stp) : Prop := Seg w 70 7 v xs.length (flt Stp.cs xs)

set_option maxRecDepth 20000 in
set_option maxHeartbeats 4000000 in
theorem times_any (x : Option Addr) (cap : Nat) (xs : List Stp) (w : World) (h : Lies w x (flt Stp.cs xs)) (hn : xs.length ≤ 1000) :
    Calls Tryz.prog 23 #[.slice x xs.length cap] w fun e w' => ∃ u, e = .returned u ∧ Sts w' u (timesL 0 xs) ∧ (∀ k, u.ownBlock = some k → w.heap.size ≤ k) ∧ Below w.heap.size w w' := by
  have HL : Hid (Lies w x (flt Stp.cs xs)) := h
  clear h
  generalize hq : xs.length = q at *
  have HN : Hid (xs.length = q) := hq
  clear hq
  obtain ⟨i0, hi, hz0, hz1, hz2⟩ := info_parts infoStep
  go_enter Tryz.func23, Tryz.ntmps23
  go_wp2
  go_loopw [3, 4, 9] (fun u t i wr => ∃ k : Nat, k ≤ q ∧ i = .int .i64 k ∧ t = .int .i64 (nowAt 0 xs k) ∧ Seg wr 70 7 u k (flt Stp.cs (Tms xs k)) ∧ (∀ k, u.ownBlock = some k → w.heap.size ≤ k) ∧ Below w.heap.size w wr) (fun _ _ i _ => q - (intOf i).toNat)
  case atStart => exact ⟨0, Nat.zero_le _, rfl, by cases xs <;> rfl, Seg.nil _ _ _, fun k hk => by simp [Value.ownBlock] at hk, Below.refl _ _⟩
  case round =>
    obtain ⟨k, hk, rfl, rfl, hs, hnw, hb⟩ := hrel
    have HS : Hid (Seg wr 70 7 u3 k (flt Stp.cs (Tms xs k))) := hs
    have HW : Hid (∀ k, u3.ownBlock = some k → w.heap.size ≤ k) := hnw
    clear hs hnw
    by_cases hlt : k < q
    · obtain ⟨s, hx⟩ : ∃ s, xs[k]? = some s := ⟨_, List.getElem?_eq_getElem (by have := HN.out; omega)⟩
      have HX : Hid (xs[k]? = some s) := hx
      obtain ⟨b, off, rfl, hbl, c0, c1, c2, c3, c4, c5, c6⟩ := (HL.out.below hb).seven hx
      clear hx
      obtain ⟨t, ht⟩ : ∃ t, nowAt 0 xs k = t := ⟨_, rfl⟩
      have HT : Hid (nowAt 0 xs k = t) := ht
      have ht0 : 0 ≤ t ∧ t ≤ 1000 * k := by have := nowAt_le 0 xs k; omega
      rw [ht]
      clear ht
      obtain ⟨m, hm⟩ : ∃ m, t + later s = m := ⟨_, rfl⟩
      have HQ : Hid (∀ {u : Value} {w2 : World} {l : List Value} {W : World}, Seg w2 70 7 u (k + 1) (flt Stp.cs (Tms xs k) ++ l) → l = (timed m s).cs → Seg w2 70 7 u (k + 1) (flt Stp.cs (Tms xs (k + 1)))) := by
        intro u w2 l W h1 h2
        rw [Tms_succ HX.out, HT.out, flt_append, flt_one, hm, ← h2]
        exact h1
      have HM : Hid (nowAt 0 xs (k + 1) = m) := by rw [← hm, ← HT.out]; exact nowAt_succ HX.out
      have hcase : (s.lt ≤ 0 ∧ t = m) ∨ (0 < s.lt ∧ s.lt < 1000 ∧ t + s.lt = m) ∨ (1000 ≤ s.lt ∧ t + 1000 = m) := by rw [← hm]; unfold later; omega
      have hm0 : 0 ≤ m ∧ m ≤ 1000 * k + 1000 := by have := later_le s; omega
      clear hm
      go_upto_region 6 with (fail)
      go_cut [4] (fun v wx => v = .int .i64 m ∧ wx = wr.alloc (.cells #[.int .i64 s.what, .int .i64 s.lt, .int .i64 s.a, .int .i64 s.l, .int .i64 s.f, .int .i64 s.b, .int .i64 s.m] 70))
      case first =>
        rcases hcase with ⟨h1, h2⟩ | ⟨h1, h2, h3⟩ | ⟨h1, h2⟩
        · subst h2
          go_wp2
          all_goals
            go_meet
            case rel => exact ⟨rfl, rfl⟩
        · have H3 : Hid (t + s.lt = m) := h3
          clear h3
          go_wp2
          all_goals
            go_meet
            case rel => exact ⟨by have := H3.out; first | (congr 1; done) | (congr 1; omega), rfl⟩
        · have H3 : Hid (t + 1000 = m) := h2
          clear h2
          go_wp2
          all_goals
            go_meet
            case rel => exact ⟨by have := H3.out; first | (congr 1; done) | (congr 1; omega), rfl⟩
      case rest =>
      obtain ⟨rfl, rfl⟩ := hcut
      by_cases hw : s.what = 0
      · cases hok : It.ok ⟨m, s.l, s.f, s.b, s.m⟩ with
        | true =>
          have HK : Hid (It.ok ⟨m, s.l, s.f, s.b, s.m⟩ = true) := hok
          clear hok
          have HT2 : Hid (timed m s = ⟨0, m, m, s.l, s.f, s.b, s.m⟩) := by
            show _ = _
            simp [timed, HK.out, hw]
          go_wp2_with (first | (go_at_call 38; refine (check_yes _ _ _ _ _ _ HK.out).mono ?_; rintro e w1 ⟨rfl, rfl⟩) | (at_builtin; refine wpList_append_seg _ rfl (.tmp 34) (.tmp 36) 23 rfl 70 i0 _ 7 56 Tryz.underlying23 hi hz0 hz1 hz2 rfl (by decide) _ _ _ rfl (HS.out.below (by repeat' (first | with_reducible exact Below.refl _ _ | with_reducible refine Below.drew ?_ | with_reducible refine below_alloc_ ?_ _ | with_reducible refine below_set_ ?_ (by simp) _))) _ 1 1 _ rfl rfl (news_of (new_block_ (by simp))) (by simp [Value.oneCell']) (by decide) (by unfold maxLen; omega) (by omega) _ rfl ?_; intro g off cap w2 hs2 hg2 ha2 hl2))
          go_roundw
          case rel =>
            refine ⟨k + 1, by omega, by go_num, by rw [HM.out], HQ.out (W := w) hs2 (by rw [HT2.out]; rfl), ?_, ?_⟩
            · intro j hj
              simp only [Value.ownBlock, Option.some.injEq] at hj
              subst hj
              rcases ha2 with ha2 | ha2
              · exact HW.out _ ha2
              · have h1 := hb.size
                simp at ha2
                omega
            · refine below_grown_ ?_ hg2 HW.out
              repeat' (first | with_reducible exact hb | with_reducible refine Below.drew ?_ | with_reducible refine below_alloc_ ?_ _ | with_reducible refine below_set_ ?_ (by simp; have := hb.size; omega) _)
          case measure => simp [intOf]; omega
        | false =>
          have HK : Hid (It.ok ⟨m, s.l, s.f, s.b, s.m⟩ = false) := hok
          clear hok
          have HT2 : Hid (timed m s = ⟨2, m, m, s.l, s.f, s.b, s.m⟩) := by
            show _ = _
            simp [timed, HK.out, hw]
          go_wp2_with (first | (go_at_call 38; refine (check_no _ _ _ _ _ _ HK.out).mono ?_; rintro e w1 ⟨rfl, rfl⟩) | (at_builtin; refine wpList_append_seg _ rfl (.tmp 34) (.tmp 36) 23 rfl 70 i0 _ 7 56 Tryz.underlying23 hi hz0 hz1 hz2 rfl (by decide) _ _ _ rfl (HS.out.below (by repeat' (first | with_reducible exact Below.refl _ _ | with_reducible refine Below.drew ?_ | with_reducible refine below_alloc_ ?_ _ | with_reducible refine below_set_ ?_ (by simp) _))) _ 1 1 _ rfl rfl (news_of (new_block_ (by simp))) (by simp [Value.oneCell']) (by decide) (by unfold maxLen; omega) (by omega) _ rfl ?_; intro g off cap w2 hs2 hg2 ha2 hl2))
          go_roundw
          case rel =>
            refine ⟨k + 1, by omega, by go_num, by rw [HM.out], HQ.out (W := w) hs2 (by rw [HT2.out]; rfl), ?_, ?_⟩
            · intro j hj
              simp only [Value.ownBlock, Option.some.injEq] at hj
              subst hj
              rcases ha2 with ha2 | ha2
              · exact HW.out _ ha2
              · have h1 := hb.size
                simp at ha2
                omega
            · refine below_grown_ ?_ hg2 HW.out
              repeat' (first | with_reducible exact hb | with_reducible refine Below.drew ?_ | with_reducible refine below_alloc_ ?_ _ | with_reducible refine below_set_ ?_ (by simp; have := hb.size; omega) _)
          case measure => simp [intOf]; omega
      · have hw2 : (s.what == 0) = false := by simpa using hw
        have HT2 : Hid (timed m s = ⟨s.what, m, m, s.l, s.f, s.b, s.m⟩) := by
          show _ = _
          simp [timed, hw]
        go_wp2_with (first | (at_builtin; refine wpList_append_seg _ rfl (.tmp 34) (.tmp 36) 23 rfl 70 i0 _ 7 56 Tryz.underlying23 hi hz0 hz1 hz2 rfl (by decide) _ _ _ rfl (HS.out.below (by repeat' (first | with_reducible exact Below.refl _ _ | with_reducible refine Below.drew ?_ | with_reducible refine below_alloc_ ?_ _ | with_reducible refine below_set_ ?_ (by simp) _))) _ 1 1 _ rfl rfl (news_of (new_block_ (by simp))) (by simp [Value.oneCell']) (by decide) (by unfold maxLen; omega) (by omega) _ rfl ?_; intro g off cap w2 hs2 hg2 ha2 hl2))
        go_roundw
        case rel =>
          refine ⟨k + 1, by omega, by go_num, by rw [HM.out], HQ.out (W := w) hs2 (by rw [HT2.out]; rfl), ?_, ?_⟩
          · intro j hj
            simp only [Value.ownBlock, Option.some.injEq] at hj
            subst hj
            rcases ha2 with ha2 | ha2
            · exact HW.out _ ha2
            · have h1 := hb.size
              simp at ha2
              omega
          · refine below_grown_ ?_ hg2 HW.out
            repeat' (first | with_reducible exact hb | with_reducible refine Below.drew ?_ | with_reducible refine below_alloc_ ?_ _ | with_reducible refine below_set_ ?_ (by simp; have := hb.size; omega) _)
        case measure => simp [intOf]; omega
    · obtain rfl : k = q := by omega
      go_wp2
      go_ret
      refine ⟨u3, rfl, ?_, HW.out, hb⟩
      have := HS.out
      rw [← HN.out, Tms_all] at this
      unfold Sts
      rw [timesL_length]
      exact this
end Go.Proofs.YtfakjedolecdcaaGreatDoor
