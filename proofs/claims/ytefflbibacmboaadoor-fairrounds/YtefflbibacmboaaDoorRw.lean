/-
  millraceref.Fifo and Bytes: what Put, Take, When, All and Bytes return, and what each leaves. Conditions: the list lies in memory; few packets, none of them long; room from 0 on.
  millraceref.Fifo: what Take and Put return, and what each leaves. Conditions: the list lies in memory; few packets, none of them long; room from 0 on.
  millraceref.Fifo: what Put returns, and what it leaves. Conditions: the list lies in memory; few packets, none of them long; room from 0 on.
-/
import Derived.Test.YtefflbibacmboaaDoorFm
namespace Go.Proofs.YtefflbibacmboaaDoor
open Go.RowKit Go.Extern.Stop Go.Stop Go.Extern

/-- The reference's packets lie in a slice of the call's own. -/
def Ps (w : World) (v : Value) (L : List Hd) : Prop := Seg w 99 6 v L.length (flt Hd.cs L)
theorem Ps.nil (w : World) : Ps w (.slice none 0 0) [] := Seg.nil _ _ _
theorem infoPack : (Tryd.prog.info? 99).map (fun i => (i.zero, i.size, i.bytes)) = some (some (.agg #[.int .i64 0, .int .i64 0, .int .i64 0, .int .i64 0, .int .i64 0, .int .i64 0]), 6, 48) := by kernel_rfl
theorem sizePack : (Tryd.prog.info? 99).map (·.size) = some 6 := by kernel_rfl
theorem load_pack {w : World} {b : Nat} {t : TypeId} {fr : Nat × Nat} {x : Hd} (h : w.heap[b]? = some (.cells #[.int .i64 x.a, .int .i64 x.l, .int .i64 x.f, .int .i64 x.b, .int .i64 x.m, .int .i64 x.n] t fr)) : (loadVar 99 ⟨b, 0, none⟩).run Tryd.prog w = .ok x.val w :=
  run_loadVar_row w b t 99 _ fr _ h Tryd.underlying99 rfl sizePack
theorem Ps.below {w w' : World} {v : Value} {L : List Hd} (h : Ps w v L) (hb : Below w.heap.size w w') : Ps w' v L := Seg.below h hb
theorem Ps.shape {w : World} {v : Value} {L : List Hd} (h : Ps w v L) : ∃ x cap, v = .slice x L.length cap ∧ L.length ≤ cap := by
  rcases h.form with ⟨h, h0, _⟩ | ⟨b, off, cap, h, h1, _⟩
  · exact ⟨none, 0, by rw [h, h0], by omega⟩
  · exact ⟨_, _, h, h1⟩
theorem Ps.snoc {w : World} {v : Value} {L : List Hd} {x : Hd} {n : Nat} (h : Seg w 99 6 v n (flt Hd.cs L ++ x.cs)) (hn : n = L.length + 1) : Ps w v (L ++ [x]) := by
  unfold Ps
  rw [flt_append, flt_one]
  simpa [hn] using h
theorem Ps.one {w : World} {b : Nat} {x : Hd} (h : w.heap[b]? = some (.cells x.cs.toArray 99 (0, 0))) : Ps w (.slice (some ⟨b, 0, none⟩) 1 1) [x] := by
  refine ⟨rfl, Or.inr ⟨b, 0, 1, _, rfl, h, by simp, by decide, by simp [Hd.cs], fun j u hj => ?_⟩⟩
  rw [flt_one] at hj
  simpa using hj
theorem Ps.cells {w : World} {b off cap n : Nat} {L : List Hd} (h : Ps w (.slice (some ⟨b, off, none⟩) n cap) L) {k : Nat} {x : Hd} (hk : L[k]? = some x) : w.cell? ⟨b, off + k * 6, none⟩ = some (.int .i64 x.a) ∧ w.cell? ⟨b, off + k * 6 + 1, none⟩ = some (.int .i64 x.l) ∧ w.cell? ⟨b, off + k * 6 + 2, none⟩ = some (.int .i64 x.f) ∧ w.cell? ⟨b, off + k * 6 + 3, none⟩ = some (.int .i64 x.b) ∧ w.cell? ⟨b, off + k * 6 + 4, none⟩ = some (.int .i64 x.m) ∧ w.cell? ⟨b, off + k * 6 + 5, none⟩ = some (.int .i64 x.n) := by
  have hat : ∀ j, j < 6 → (flt Hd.cs L)[k * 6 + j]? = x.cs[j]? := fun j hj => flt_at Hd.cs 6 Hd.len hk hj
  rcases h.form with ⟨h1, _, _⟩ | ⟨b', off', cap', h1, _, _, _, hc⟩
  · simp at h1
  · simp only [Value.slice.injEq, Option.some.injEq, Addr.mk.injEq, and_true] at h1
    obtain ⟨⟨rfl, rfl⟩, _⟩ := h1
    exact ⟨hc _ _ (hat 0 (by omega)), hc _ _ (hat 1 (by omega)), hc _ _ (hat 2 (by omega)), hc _ _ (hat 3 (by omega)), hc _ _ (hat 4 (by omega)), hc _ _ (hat 5 (by omega))⟩
theorem Ps.head {w : World} {b off cap n : Nat} {x : Hd} {L : List Hd} (h : Ps w (.slice (some ⟨b, off, none⟩) n cap) (x :: L)) : w.cell? ⟨b, off, none⟩ = some (.int .i64 x.a) ∧ w.cell? ⟨b, off + 1, none⟩ = some (.int .i64 x.l) ∧ w.cell? ⟨b, off + 2, none⟩ = some (.int .i64 x.f) ∧ w.cell? ⟨b, off + 3, none⟩ = some (.int .i64 x.b) ∧ w.cell? ⟨b, off + 4, none⟩ = some (.int .i64 x.m) ∧ w.cell? ⟨b, off + 5, none⟩ = some (.int .i64 x.n) := by
  have := h.cells (k := 0) (x := x) rfl
  simpa using this
theorem sumL_take_succ {L : List Hd} {j : Nat} {x : Hd} (h : L[j]? = some x) : sumL (L.take (j + 1)) = sumL (L.take j) + x.l := by
  rw [List.take_add_one, h, sumL_append]
  simp [sumL]
set_option maxHeartbeats 1000000 in
/-- Bytes. -/
theorem rbytes_any {v : Value} {L : List Hd} (w : World) (h : Ps w v L) (hF : Fit L) : Calls Tryd.prog 33 #[v] w fun e w' => e = .returned (.int .i64 (sumL L)) ∧ Below w.heap.size w w' := by
  have H : Hid (Ps w v L) := h
  obtain ⟨x, cap, rfl, _⟩ := h.shape
  clear h
  obtain ⟨n, hn⟩ : ∃ n, L.length = n := ⟨_, rfl⟩
  have HN : Hid (L.length = n) := hn
  have hn1 : n ≤ 1000000 := by rw [← hn]; exact hF.1
  rw [hn] at H ⊢
  clear hn
  go_enter Tryd.func33, Tryd.ntmps33
  go_wp2
  go_loopw [3, 8] (fun s i wr => ∃ k : Nat, k ≤ n ∧ i = .int .i64 k ∧ s = .int .i64 (sumL (L.take k)) ∧ Below w.heap.size w wr) (fun _ i _ => n - (intOf i).toNat)
  case atStart => exact ⟨0, Nat.zero_le _, rfl, by simp [sumL], Below.refl _ _⟩
  case round =>
    obtain ⟨k, hk, rfl, rfl, hb⟩ := hrel
    by_cases hlt : k < n
    · obtain ⟨y, hy⟩ : ∃ y, L[k]? = some y := ⟨_, List.getElem?_eq_getElem (by rw [HN.out]; exact hlt)⟩
      have HSU : Hid (sumL (L.take (k + 1)) = sumL (L.take k) + y.l) := sumL_take_succ hy
      obtain ⟨b, off, cap', hx, _⟩ := H.out.some (by rw [HN.out]; omega)
      have hx' : x = some ⟨b, off, none⟩ := by simp at hx; exact hx.1
      subst hx'
      obtain ⟨p0, p1, p2, p3, p4, p5⟩ := (H.out.below hb).cells hy
      have hsl := Fit.sum (L := L.take k) (fun t ht => hF.2 t (List.mem_of_mem_take ht))
      have hlj : (L.take k).length ≤ k := List.length_take_le _ _
      have hyl := hF.2 y (List.mem_of_getElem? hy)
      obtain ⟨sj, hsj⟩ : ∃ sj, sumL (L.take k) = sj := ⟨_, rfl⟩
      have HSJ : Hid (sumL (L.take k) = sj) := hsj
      rw [hsj] at hsl ⊢
      clear hx hy hsj
      go_wp2
      go_roundw
      case rel => exact ⟨k + 1, by omega, by go_num, by rw [HSU.out, HSJ.out], below_alloc_ hb _⟩
      case measure => simp [intOf]; omega
    · obtain rfl : k = n := by omega
      have HSA : Hid (sumL (L.take k) = sumL L) := by show _ = _; rw [List.take_of_length_le (by rw [HN.out]; exact Nat.le_refl _)]
      go_wp2
      go_ret
      exact ⟨by show Ending.returned (.int .i64 (sumL (L.take k))) = _; rw [HSA.out], hb⟩

/-- A reference's Fifo lies at the head of block b. -/
structure RAt (w : World) (b : Nat) (T : TypeId) (P R : Int) (hd : Bool) (more : List Value) (v : Value) (L : List Hd) : Prop where
  blk : w.heap[b]? = some (.cells (.int .i64 P :: .int .i64 R :: .bool hd :: v :: more).toArray T (0, 0))
  row : Ps w v L
  ne : v.ownBlock ≠ some b
theorem RAt.lt {w : World} {b : Nat} {T : TypeId} {P R : Int} {hd : Bool} {more : List Value} {v : Value} {L : List Hd} (h : RAt w b T P R hd more v L) : b < w.heap.size := lt_of_block h.blk
theorem RAt.kept {w w' : World} {b : Nat} {T : TypeId} {P R : Int} {hd : Bool} {more : List Value} {v : Value} {L : List Hd} (h : RAt w b T P R hd more v L) (hb : w'.heap[b]? = w.heap[b]?) (hv : ∀ k, v.ownBlock = some k → w'.heap[k]? = w.heap[k]?) : RAt w' b T P R hd more v L := ⟨hb.trans h.blk, h.row.kept hv, h.ne⟩
theorem RAt.below {w w' : World} {b : Nat} {T : TypeId} {P R : Int} {hd : Bool} {more : List Value} {v : Value} {L : List Hd} (h : RAt w b T P R hd more v L) (hb : Below w.heap.size w w') : RAt w' b T P R hd more v L := h.kept (hb.block b h.lt) (fun k hk => hb.block k (h.row.lt hk))
theorem RAt.drewN {w : World} {b : Nat} {T : TypeId} {P R : Int} {hd : Bool} {more : List Value} {v : Value} {L : List Hd} (h : RAt w b T P R hd more v L) (n : Nat) : RAt (w.drewN n) b T P R hd more v L := ⟨h.blk, h.row, h.ne⟩
theorem RAt.cells {w : World} {b : Nat} {T : TypeId} {P R : Int} {hd : Bool} {more : List Value} {v : Value} {L : List Hd} (h : RAt w b T P R hd more v L) : w.cell? ⟨b, 0, none⟩ = some (.int .i64 P) ∧ w.cell? ⟨b, 1, none⟩ = some (.int .i64 R) ∧ w.cell? ⟨b, 2, none⟩ = some (.bool hd) ∧ w.cell? ⟨b, 3, none⟩ = some v ∧ w.frozen? ⟨b, 3, none⟩ = false := by
  have := h.blk
  refine ⟨?_, ?_, ?_, ?_, ?_⟩
  all_goals simp [World.cell?, World.frozen?, this]
/-- Its list is another one. -/
theorem RAt.set {w : World} {b : Nat} {T : TypeId} {P R : Int} {hd : Bool} {more : List Value} {v v' : Value} {L' : List Hd} (h : w.heap[b]? = some (.cells (.int .i64 P :: .int .i64 R :: .bool hd :: v :: more).toArray T (0, 0))) (hv : Ps w v' L') (hne : v'.ownBlock ≠ some b) : RAt (w.setCell ⟨b, 3, none⟩ v') b T P R hd more v' L' :=
  ⟨by rw [heap_setCell_here h v']; simp, hv.setCell (p := ⟨b, 3, none⟩) hne _, hne⟩
theorem rfifo_all {b : Nat} {T : TypeId} {P R : Int} {hd : Bool} {more : List Value} {v : Value} {L : List Hd} (w : World) (h : RAt w b T P R hd more v L) :
    Calls Tryd.prog 84 #[.pointer (some ⟨b, 0, none⟩)] w fun e w' => e = .returned v ∧ w' = w := by
  obtain ⟨c0, c1, c2, c3, f3⟩ := h.cells
  clear h
  go_enter Tryd.func84, Tryd.ntmps84
  go_wp2
  go_ret
  exact ⟨rfl, rfl⟩
theorem rfifo_when {b : Nat} {T : TypeId} {P R : Int} {hd : Bool} {more : List Value} {v : Value} {L : List Hd} (now : Int) (w : World) (h : RAt w b T P R hd more v L) :
    Calls Tryd.prog 87 #[.pointer (some ⟨b, 0, none⟩), .int .i64 now] w fun e w' => e = .returned (.tuple #[.int .i64 now, .bool (!L.isEmpty)]) ∧ ∃ n, w' = w.drewN n := by
  obtain ⟨c0, c1, c2, c3, f3⟩ := h.cells
  obtain ⟨x, cap, rfl, _⟩ := h.row.shape
  have HE : Hid (decide (0 < L.length) = !L.isEmpty) := by
    cases L with
    | nil => rfl
    | cons x L => simp [Hid]
  clear h
  go_enter Tryd.func87, Tryd.ntmps87
  go_wp2
  go_quiet (fail)
  go_wp2
  go_ret2
  exact ⟨by rw [← HE.out]; rfl, _, rfl⟩
end Go.Proofs.YtefflbibacmboaaDoor
namespace Go.Proofs.YtefflbibacmboaaDoor
open Go.RowKit Go.Extern.Stop Go.Stop Go.Extern

theorem pseg_empty {w : World} {b : Nat} {e : TypeId} (h : w.heap[b]? = some (.cells #[] e (0, 0))) : Seg w e 6 (.slice (some ⟨b, 0, none⟩) 0 0) 0 [] := ⟨rfl, Or.inr ⟨b, 0, 0, #[], rfl, h, Nat.le_refl _, Nat.zero_le _, by simp, fun j u hj => by simp at hj⟩⟩
theorem pflt_ones (xs : List Hd) : ∀ u ∈ flt Hd.cs xs, u.oneCell' = true := by
  intro u hu
  simp only [flt, List.mem_flatMap] at hu
  obtain ⟨x, _, hx⟩ := hu
  exact x.one u hx
theorem Ps.tailc {w : World} {b off cap n : Nat} {x : Hd} {L : List Hd} (h : Ps w (.slice (some ⟨b, off, none⟩) n cap) (x :: L)) : ∀ j u, (flt Hd.cs L)[j]? = some u → w.cell? ⟨b, off + 6 + j, none⟩ = some u := by
  intro j u hj
  rcases h.form with ⟨h1, _, _⟩ | ⟨b', off', cap', h1, _, _, _, hc⟩
  · simp at h1
  · simp only [Value.slice.injEq, Option.some.injEq, Addr.mk.injEq, and_true] at h1
    obtain ⟨⟨rfl, rfl⟩, _⟩ := h1
    have h2 := hc (6 + j) u (by rw [flt_cons, List.getElem?_append_right (by rw [Hd.len]; omega), Hd.len, Nat.add_sub_cancel_left]; exact hj)
    rwa [← Nat.add_assoc] at h2
/-- Nothing is appended. -/
theorem wpList_append_empty {P : Program} (w : World) {ops : Array Oper} {rest : List Oper} {o : Oper} {a : Act} {Q : Exit → Act → World → Prop} (hgd : o.guard = none) (s x : Operand) (t : TypeId)
    (ho : o.op = .call { callee := .builtin .append, args := #[s, x], argTypes := #[t, t] })
    (e : TypeId) (i : TypeInfo) (ht : P.underlying t = some (.slice e)) (hi : P.info? e = some i)
    (ad : Option Addr) (n cap : Nat) (hs : a.eval s = .slice ad n cap) (hle : n ≤ cap) (xa : Option Addr) (xc : Nat) (hx : a.eval x = .slice xa 0 xc)
    (h : wpList P ops Q rest (a.put o.dst (.slice ad n cap)) w) : wpList P ops Q (o :: rest) a w := by
  refine wpList_plain hgd fun K hK => ?_
  have hr : (Builtin.append_ #[t, t] o.type #[.slice ad n cap, .slice xa 0 xc]).run P w = .ok (.slice ad n cap) w := by
    cases ad <;> cases xa <;> simp [Builtin.append_, Builtin.lenOf, Builtin.firstCells, run_underlying ht, sizeOf, typeInfo, hi, hle, storeCells, loadCells, loadCellsFrom]
  unfold Oper.wp execOp
  simp only [ho, resolve, invoke, builtin, Sem.run_bind, Sem.run_pure, Result.andThen_ok, List.map_toArray, List.map_cons, List.map_nil, hs, hx, hr]
  exact hK _ _ h
theorem r_cells {w : World} {b : Nat} {T : TypeId} {P R : Int} {hd : Bool} {more : List Value} {v : Value} (h : w.heap[b]? = some (.cells (.int .i64 P :: .int .i64 R :: .bool hd :: v :: more).toArray T (0, 0))) : w.cell? ⟨b, 3, none⟩ = some v ∧ w.frozen? ⟨b, 3, none⟩ = false := by
  refine ⟨?_, ?_⟩
  all_goals simp [World.cell?, World.frozen?, h]
theorem take_blocks {w w1 : World} {b : Nat} {o0 o1 o2 : Obj} {ob : Obj} (hb : b < w.heap.size) (hg : (((w.alloc o0).alloc o1).alloc o2).grownBy w1 (some (w.heap.size + 1 + 1))) (h : w.heap[b]? = some ob) : w1.heap[b]? = some ob ∧ w1.heap[w.heap.size]? = some o0 ∧ w1.heap[w.heap.size + 1]? = some o1 ∧ w.heap.size + 1 + 1 < w1.heap.size := by
  have hs := hg.size
  simp at hs
  refine ⟨?_, ?_, ?_, by omega⟩
  · rw [hg.block b (by simp; omega) (by simp; omega), Below.heap_alloc _ _ _ (by simp; omega), Below.heap_alloc _ _ _ (by simp; omega), Below.heap_alloc _ _ _ hb]
    exact h
  · rw [hg.block _ (by simp; omega) (by simp; omega), Below.heap_alloc _ _ _ (by simp; omega), Below.heap_alloc _ _ _ (by simp)]
    exact new_block_ rfl
  · rw [hg.block _ (by simp) (by simp), Below.heap_alloc _ _ _ (by simp)]
    exact new_block_ (by simp)
/-- What Take leaves. -/
structure RTake (w : World) (b : Nat) (T : TypeId) (P R : Int) (hd : Bool) (more : List Value) (v : Value) (L : List Hd) (w' : World) (v' : Value) : Prop where
  list : RAt w' b T P R hd more v' L
  own : ∀ k, v'.ownBlock = some k → v.ownBlock = some k ∨ w.heap.size ≤ k
  ot : Ot (· = b) w w'
set_option maxRecDepth 20000 in
set_option maxHeartbeats 1000000 in
theorem rfifo_take {b : Nat} {T : TypeId} {P R : Int} {hd : Bool} {more : List Value} {v : Value} {L : List Hd} (now : Int) (w : World) (h : RAt w b T P R hd more v L) (hF : Fit L) :
    Calls Tryd.prog 86 #[.pointer (some ⟨b, 0, none⟩), .int .i64 now] w fun e w' => e = .returned (.tuple #[(hdOr L).val, .slice none 0 0, .bool (!L.isEmpty)]) ∧ ∃ v', RTake w b T P R hd more v L.tail w' v' := by
  have H : Hid (RAt w b T P R hd more v L) := h
  have hb := h.lt
  obtain ⟨c0, c1, c2, c3, f3⟩ := h.cells
  have hV := Hd.val_eq
  obtain ⟨i0, hi, hz0, hz1, hz2⟩ := info_parts infoPack
  cases L with
  | nil =>
    obtain ⟨x, cap, rfl, _⟩ := h.row.shape
    clear h
    go_enter Tryd.func86, Tryd.ntmps86
    go_wp2
    (try simp only [Exit.inBlock, Exit.then])
    refine bodyPost_ret (v := .tuple #[hd0.val, .slice none 0 0, .bool false]) ?_ rfl ⟨rfl, _, H.out.below ?_, fun k hk => Or.inl hk, Ot.of_below ?_⟩
    · rw [results_cell_tmp2 rfl]
      go_simp
      exact ⟨rfl, rfl, rfl, rfl, rfl, rfl⟩
    all_goals repeat' (first | with_reducible exact Below.refl _ _ | with_reducible refine below_set_ ?_ (by simp) _ | with_reducible refine below_alloc_ ?_ _)
  | cons y L =>
    obtain ⟨b1, off, cap, rfl, hnc, hx, hlt, _⟩ := h.row.some (by simp)
    obtain ⟨k0, k1, k2, k3, k4, k5⟩ := h.row.head
    have HTC : Hid (∀ j u, (flt Hd.cs L)[j]? = some u → w.cell? ⟨b1, off + 6 + j, none⟩ = some u) := h.row.tailc
    have hne : b1 ≠ b := fun e => h.ne (by rw [e]; rfl)
    have hb1 : b < w.heap.size + 1 := by omega
    have hb2 : b < w.heap.size + 1 + 1 := by omega
    have hl1 : b1 < w.heap.size + 1 := by omega
    have hl2 : b1 < w.heap.size + 1 + 1 := by omega
    obtain ⟨n1, hn1⟩ : ∃ n1, L.length = n1 := ⟨_, rfl⟩
    have HN1 : Hid (L.length = n1) := hn1
    have hlen : (y :: L).length = n1 + 1 := by simp [hn1]
    have hfit : n1 + 1 ≤ 1000000 := by rw [← hlen]; exact hF.1
    unfold maxLen at hx
    rw [hlen] at c3 hnc H
    have HBLK : Hid (w.heap[b]? = some (.cells (.int .i64 P :: .int .i64 R :: .bool hd :: .slice (some ⟨b1, off, none⟩) (n1 + 1) cap :: more).toArray T (0, 0))) := H.out.blk
    clear h hn1 hlen
    have HEND : Hid (∀ {vv v' : Value} {w5 : World}, w5.heap[b]? = some (.cells (.int .i64 P :: .int .i64 R :: .bool hd :: v' :: more).toArray T (0, 0)) → Ps w5 v' L → (∀ k, v'.ownBlock = some k → w.heap.size ≤ k) → Ot (· = b) w w5 → RTake w b T P R hd more vv L w5 v') := fun hblk hp hk ho => ⟨⟨hblk, hp, fun e => by have := hk b e; omega⟩, fun k hk' => Or.inr (hk k hk'), ho⟩
    have HSET : Hid (∀ (v' : Value), (w.setCell ⟨b, 3, none⟩ v').heap[b]? = some (.cells (.int .i64 P :: .int .i64 R :: .bool hd :: v' :: more).toArray T (0, 0))) := fun v' => by rw [heap_setCell_here HBLK.out v']; simp
    cases L with
    | nil =>
      obtain rfl : n1 = 0 := HN1.out.symm
      by_cases hcap : cap = 1
      · subst hcap
        go_enter Tryd.func86, Tryd.ntmps86
        go_wp2
        all_goals (try simp only [Exit.inBlock, Exit.then])
        all_goals
          refine bodyPost_ret (v := .tuple #[y.val, .slice none 0 0, .bool true]) ?_ rfl ⟨rfl, .slice (some ⟨w.heap.size + 1 + 1, 0, none⟩) 0 0, HEND.out ?_ (pseg_empty (new_block_ (by simp [World.setCell]))) (fun k hk => by simp only [Value.ownBlock, Option.some.injEq] at hk; omega) (Ot.alloc (Ot.alloc (Ot.alloc (Ot.setCell (S := (· = b)) (p := ⟨b, 3, none⟩) (Ot.refl _ _) (Or.inl rfl) _) _) _) _)⟩
          · rw [results_cell_tmp2 rfl]
            go_simp
          · rw [Below.heap_alloc _ _ _ (by simp [World.setCell]; omega), Below.heap_alloc _ _ _ (by simp [World.setCell]; omega), Below.heap_alloc _ _ _ (by simpa [World.setCell] using hb)]
            exact HSET.out _
      · go_enter Tryd.func86, Tryd.ntmps86
        go_wp2
        all_goals (try simp only [Exit.inBlock, Exit.then])
        all_goals
          refine bodyPost_ret (v := .tuple #[y.val, .slice none 0 0, .bool true]) ?_ rfl ⟨rfl, .slice (some ⟨w.heap.size + 1 + 1, 0, none⟩) 0 0, HEND.out ?_ (pseg_empty (new_block_ (by simp [World.setCell]))) (fun k hk => by simp only [Value.ownBlock, Option.some.injEq] at hk; omega) (Ot.alloc (Ot.alloc (Ot.alloc (Ot.setCell (S := (· = b)) (p := ⟨b, 3, none⟩) (Ot.refl _ _) (Or.inl rfl) _) _) _) _)⟩
          · rw [results_cell_tmp2 rfl]
            go_simp
          · rw [Below.heap_alloc _ _ _ (by simp [World.setCell]; omega), Below.heap_alloc _ _ _ (by simp [World.setCell]; omega), Below.heap_alloc _ _ _ (by simpa [World.setCell] using hb)]
            exact HSET.out _
    | cons y2 L2 =>
      have hml : 0 < n1 := by rw [← HN1.out]; simp
      have hcap : ¬ cap = 1 := by omega
      go_enter Tryd.func86, Tryd.ntmps86
      go_wp2_with (at_builtin; refine wpList_append_seg _ rfl (.tmp 22) (.tmp 27) 36 rfl 99 i0 _ 6 48 Tryd.underlying36 hi hz0 hz1 hz2 rfl (by decide) (.slice (some ⟨w.heap.size + 1 + 1, 0, none⟩) 0 0) 0 [] rfl (pseg_empty (new_block_ (by simp))) ⟨b1, off + 6, none⟩ n1 (cap - 1) (flt Hd.cs (y2 :: L2)) rfl (by rw [flt_length Hd.cs 6 Hd.len, HN1.out]) (fun j u hj => by rw [Addr.add_lit, World.cell?_alloc_lt _ _ _ (by simp; omega), World.cell?_alloc_lt _ _ _ (by simp; omega), World.cell?_alloc_lt _ _ _ (by exact hlt)]; exact HTC.out j u hj) (pflt_ones _) hml (by unfold maxLen; omega) (by omega) _ rfl ?_; intro g goff gcap w1 hs1 hg1 ha1 hl1; obtain ⟨q0, q1, q2, q3⟩ := take_blocks hb hg1 HBLK.out; obtain ⟨d0, d3⟩ := r_cells q0; obtain ⟨⟨x0, x1, x2, x3, x4, x5⟩, t0, t1, t2, t3, t4, t5⟩ := six q1; obtain ⟨⟨z0, z1, z2, z3, z4, z5⟩, _, _, _, _, _, _⟩ := six q2; have hbw : b < w1.heap.size := by omega)
      (try simp only [Exit.inBlock, Exit.then])
      have hgl : w.heap.size + 1 + 1 ≤ g := by
        rcases ha1 with h | h
        · simp only [Value.ownBlock, Option.some.injEq] at h; omega
        · simp at h; omega
      have hps : Ps w1 (.slice (some ⟨g, goff, none⟩) n1 gcap) (y2 :: L2) := by
        unfold Ps
        rw [HN1.out]
        simpa using hs1
      have hot : Ot (fun k => k = b ∨ k = w.heap.size) w1 (((((((w1.setCell ⟨b, 3, none⟩ (.slice (some ⟨g, goff, none⟩) n1 gcap)).setCell ⟨w.heap.size, 0, none⟩ (.int .i64 y.a)).setCell ⟨w.heap.size, 1, none⟩ (.int .i64 y.l)).setCell ⟨w.heap.size, 2, none⟩ (.int .i64 y.f)).setCell ⟨w.heap.size, 3, none⟩ (.int .i64 y.b)).setCell ⟨w.heap.size, 4, none⟩ (.int .i64 y.m)).setCell ⟨w.heap.size, 5, none⟩ (.int .i64 y.n)) := by
        repeat' (first | with_reducible exact Ot.refl _ _ | with_reducible refine Ot.setCell ?_ (Or.inl (by simp)) _)
      refine bodyPost_ret (v := .tuple #[y.val, .slice none 0 0, .bool true]) ?_ rfl ⟨rfl, .slice (some ⟨g, goff, none⟩) n1 gcap, HEND.out ?_ (Seg.oth hps hot (fun k hk h => ?_)) (fun k hk => ?_) ?_⟩
      · rw [results_cell_tmp2 rfl]
        have hld := load_pack (x := y) (six_set (w := w1.setCell ⟨b, 3, none⟩ (.slice (some ⟨g, goff, none⟩) n1 gcap)) ((Below.heap_setCell _ _ _ _ (by show w.heap.size ≠ b; omega)).trans q1) (.int .i64 y.a) (.int .i64 y.l) (.int .i64 y.f) (.int .i64 y.b) (.int .i64 y.m) (.int .i64 y.n))
        simp [asAddr, Result.andThen, hld]
      · have e : b ≠ w.heap.size := by omega
        rw [Below.heap_setCell _ _ _ _ e, Below.heap_setCell _ _ _ _ e, Below.heap_setCell _ _ _ _ e, Below.heap_setCell _ _ _ _ e, Below.heap_setCell _ _ _ _ e, Below.heap_setCell _ _ _ _ e, heap_setCell_here q0]
        simp
      · simp only [Value.ownBlock, Option.some.injEq] at hk
        omega
      · simp only [Value.ownBlock, Option.some.injEq] at hk
        omega
      · refine ((Ot.grown (S := (· = b)) (row := some (w.heap.size + 1 + 1)) (Ot.alloc (Ot.alloc (Ot.alloc (Ot.refl _ w) _) _) _) hg1 (fun k e => Or.inr (by simp at e; omega))).trans' hot (fun k h hk => by omega))
/-- What Put leaves. -/
structure RPut (w : World) (b : Nat) (T : TypeId) (P R : Int) (hd : Bool) (more : List Value) (v : Value) (L lost : List Hd) (w' : World) (v' u : Value) : Prop where
  list : RAt w' b T P R hd more v' L
  lost : Ps w' u lost
  own : ∀ k, v'.ownBlock = some k → v.ownBlock = some k ∨ w.heap.size ≤ k
  new : ∀ k, u.ownBlock = some k → w.heap.size ≤ k
  ot : Ot (fun k => k = b ∨ v.ownBlock = some k) w w'
end Go.Proofs.YtefflbibacmboaaDoor
namespace Go.Proofs.YtefflbibacmboaaDoor
open Go.RowKit Go.Extern.Stop Go.Stop Go.Extern

theorem putF_full' {P R : Int} {L : List Hd} {x : Hd} (h : P < (L.length : Int) + 1 ∨ R < sumL L + x.l) : putF P R false L x = ([x], L) := by
  refine putF_full ?_
  rcases h with h | h
  · rw [decide_eq_true (by omega : P ≤ (L.length : Int))]; rfl
  · rw [decide_eq_true (by omega : R - sumL L < x.l)]; simp
theorem putF_room' {P R : Int} {L : List Hd} {x : Hd} (h1 : ¬ P < (L.length : Int) + 1) (h2 : ¬ R < sumL L + x.l) : putF P R false L x = ([], L ++ [x]) := by
  refine putF_room ?_
  rw [decide_eq_false (by omega : ¬ P ≤ (L.length : Int)), decide_eq_false (by omega : ¬ R - sumL L < x.l)]
  rfl
/-- The block and what Put puts beside it, behind an append. -/
theorem put_mid {w W w1 : World} {o : Obj} {b : Nat} {T : TypeId} {P R : Int} {hd : Bool} {more : List Value} {v : Value} {L : List Hd} (H : RAt w b T P R hd more v L) (hB : Below (w.alloc o).heap.size (w.alloc o) W) (hg : W.grownBy w1 v.ownBlock) :
    w1.heap[b]? = some (.cells (.int .i64 P :: .int .i64 R :: .bool hd :: v :: more).toArray T (0, 0)) ∧ w1.heap[w.heap.size]? = some o ∧ w.heap.size + 1 ≤ w1.heap.size := by
  have hs : w.heap.size + 1 ≤ W.heap.size := by have := hB.size; simpa using this
  have hb := H.lt
  refine ⟨?_, ?_, Nat.le_trans hs hg.size⟩
  · rw [hg.block b (by omega) (fun e => H.ne e.symm), hB.block b (by simp; omega), Below.heap_alloc _ _ _ hb]
    exact H.blk
  · rw [hg.block _ (by omega) (fun e => by have := H.row.lt e.symm; omega), hB.block _ (by simp)]
    exact heap_alloc_new w o
/-- The list has one more: f.L = append(f.L, x). -/
theorem put_grown {w W w1 : World} {o : Obj} {b g goff gcap : Nat} {T : TypeId} {P R : Int} {hd : Bool} {more : List Value} {v : Value} {L : List Hd} {x : Hd} (H : RAt w b T P R hd more v L) (hB : Below (w.alloc o).heap.size (w.alloc o) W) (hg : W.grownBy w1 v.ownBlock) (hs : Seg w1 99 6 (.slice (some ⟨g, goff, none⟩) (L.length + 1) gcap) (L.length + 1) (flt Hd.cs L ++ x.cs)) (ha : v.ownBlock = some g ∨ W.heap.size ≤ g) :
    RPut w b T P R hd more v (L ++ [x]) [] (w1.setCell ⟨b, 3, none⟩ (.slice (some ⟨g, goff, none⟩) (L.length + 1) gcap)) (.slice (some ⟨g, goff, none⟩) (L.length + 1) gcap) (.slice none 0 0) := by
  obtain ⟨m0, m1, m2⟩ := put_mid H hB hg
  have hs' : w.heap.size + 1 ≤ W.heap.size := by have := hB.size; simpa using this
  have hb := H.lt
  have hgb : g ≠ b := by
    rintro rfl
    rcases ha with h | h
    · exact H.ne h
    · omega
  refine ⟨RAt.set m0 (Ps.snoc hs rfl) (by simpa [Value.ownBlock] using hgb), Ps.nil _, fun k hk => ?_, fun k hk => by simp [Value.ownBlock] at hk, ?_⟩
  · simp only [Value.ownBlock, Option.some.injEq] at hk
    subst hk
    rcases ha with h | h
    · exact Or.inl h
    · right; omega
  · refine Ot.setCell (S := fun k => k = b ∨ v.ownBlock = some k) (p := ⟨b, 3, none⟩) (Ot.grown (row := v.ownBlock) (Ot.of_below (w := w) (w' := W) ?_) hg (fun k e => Or.inl (Or.inr e))) (Or.inl (Or.inl rfl)) _
    exact (below_alloc_ (Below.refl w.heap.size w) o).trans (hB.mono (by simp))
set_option maxRecDepth 20000 in
set_option maxHeartbeats 2000000 in
theorem rfifo_put_tail {b : Nat} {T : TypeId} {P R : Int} {more : List Value} {v : Value} {L : List Hd} (now : Int) (x : Hd) (w : World) (h : RAt w b T P R false more v L) (hF : Fit (L ++ [x])) :
    Calls Tryd.prog 88 #[.pointer (some ⟨b, 0, none⟩), .int .i64 now, x.val] w fun e w' => ∃ u v', e = .returned u ∧ RPut w b T P R false more v (putF P R false L x).2 (putF P R false L x).1 w' v' u := by
  have H : Hid (RAt w b T P R false more v L) := h
  have hb := h.lt
  obtain ⟨c0, c1, c2, c3, f3⟩ := h.cells
  have hV := Hd.val_eq
  obtain ⟨i0, hi, hz0, hz1, hz2⟩ := info_parts infoPack
  obtain ⟨xa, cap, hv, _⟩ := h.row.shape
  have hln : L.length + 1 ≤ 1000000 := by have := hF.1; simpa using this
  have hsum := Fit.sum hF.pref.2
  have hxl : 0 ≤ x.l ∧ x.l ≤ 10000 := hF.2 x (by simp)
  obtain ⟨n, hn⟩ : ∃ n, L.length = n := ⟨_, rfl⟩
  have HN : Hid (L.length = n) := hn
  rw [hn] at hv hln hsum
  have HV : Hid (v = .slice xa n cap) := hv
  rw [hv] at c3
  obtain ⟨sm, hsm⟩ : ∃ sm, sumL L = sm := ⟨_, rfl⟩
  have HSM : Hid (sumL L = sm) := hsm
  rw [hsm] at hsum
  have HFL : Hid (Fit L) := hF.pref
  clear h hn hv hsm
  by_cases o1 : P < (n : Int) + 1
  · have HO : Hid (putF P R false L x = ([x], L)) := putF_full' (Or.inl (by rw [HN.out]; exact o1))
    have d1 : decide (P < (n : Int) + 1) = true := by simpa using o1
    go_enter Tryd.func88, Tryd.ntmps88
    go_wp2
    go_quiet (fail)
    go_wp2
    go_ret
    rw [HO.out]
    refine ⟨.slice (some ⟨w.heap.size + 1, 0, none⟩) 1 1, v, rfl, (H.out.below (below_alloc_ (Below.refl _ _) _)).drewN _ |>.below (below_alloc_ (Below.refl _ _) _), Ps.one (x := x) (new_block_ (by simp)), fun k hk => Or.inl hk, ?_, Ot.alloc (Ot.drewN (Ot.alloc (Ot.refl _ _) _) _) _⟩
    intro k hk
    simp only [Value.ownBlock, Option.some.injEq] at hk
    omega
  · have d1 : decide (P < (n : Int) + 1) = false := by simpa using o1
    have d2 : decide (P ≤ (n : Int)) = false := by simp; omega
    have HO1 : Hid (¬ P < (n : Int) + 1) := o1
    clear o1
    have hw1 : IntKind.i64.wrap ((n : Int) + 1) = (n : Int) + 1 := by rw [IntKind.wrap_i64]; omega
    have hw2 : IntKind.i64.wrap (sm + x.l) = sm + x.l := by rw [IntKind.wrap_i64]; omega
    have HBY : Hid (∀ W : World, Below (w.alloc (.cells #[.int .i64 x.a, .int .i64 x.l, .int .i64 x.f, .int .i64 x.b, .int .i64 x.m, .int .i64 x.n] 99)).heap.size (w.alloc (.cells #[.int .i64 x.a, .int .i64 x.l, .int .i64 x.f, .int .i64 x.b, .int .i64 x.m, .int .i64 x.n] 99)) W → Calls Tryd.prog 33 #[.slice xa n cap] W fun e w' => e = .returned (.int .i64 sm) ∧ Below W.heap.size W w') := by
      intro W hW
      have h1 := rbytes_any W (Ps.below (Ps.below H.out.row (below_alloc_ (Below.refl _ _) _)) hW) HFL.out
      rw [HV.out, HSM.out] at h1
      exact h1
    have HSS : Hid (∀ W : World, Below (w.alloc (.cells #[.int .i64 x.a, .int .i64 x.l, .int .i64 x.f, .int .i64 x.b, .int .i64 x.m, .int .i64 x.n] 99)).heap.size (w.alloc (.cells #[.int .i64 x.a, .int .i64 x.l, .int .i64 x.f, .int .i64 x.b, .int .i64 x.m, .int .i64 x.n] 99)) W → W.cell? ⟨b, 3, none⟩ = some (.slice xa n cap) ∧ W.cell? ⟨b, 0, none⟩ = some (.int .i64 P) ∧ W.cell? ⟨b, 1, none⟩ = some (.int .i64 R) ∧ W.cell? ⟨w.heap.size, 1, none⟩ = some (.int .i64 x.l)) := by
      intro W hW
      obtain ⟨e0, e1, _, e3, _⟩ := ((H.out.below (below_alloc_ (Below.refl _ _) _)).below hW).cells
      refine ⟨by rw [← HV.out]; exact e3, e0, e1, ?_⟩
      have h1 : W.heap[w.heap.size]? = some (.cells #[.int .i64 x.a, .int .i64 x.l, .int .i64 x.f, .int .i64 x.b, .int .i64 x.m, .int .i64 x.n] 99 (0, 0)) := (hW.block _ (by simp)).trans (new_block _ _)
      exact (six h1).1.2.1
    cases o2 : decide (R < sm + x.l) with
    | true =>
      have HO : Hid (putF P R false L x = ([x], L)) := putF_full' (Or.inr (by rw [HSM.out]; simpa using o2))
      go_enter Tryd.func88, Tryd.ntmps88
      go_wp2
      go_region_held3 (fun W => W.cell? ⟨b, 3, none⟩ = some (.slice xa n cap) ∧ W.cell? ⟨b, 0, none⟩ = some (.int .i64 P) ∧ W.cell? ⟨b, 1, none⟩ = some (.int .i64 R) ∧ W.cell? ⟨w.heap.size, 1, none⟩ = some (.int .i64 x.l)) ((refine HSS.out _ ?_; first | exact (Below.refl _ _).drew | assumption | exact Below.refl _ _)) ((go_at_call 33; refine (HBY.out _ (by first | exact (Below.refl _ _).drew | assumption | exact Below.refl _ _)).mono ?_; rintro e w' ⟨rfl, hbb⟩; have hbq : Below (w.alloc (.cells #[.int .i64 x.a, .int .i64 x.l, .int .i64 x.f, .int .i64 x.b, .int .i64 x.m, .int .i64 x.n] 99)).heap.size (w.alloc (.cells #[.int .i64 x.a, .int .i64 x.l, .int .i64 x.f, .int .i64 x.b, .int .i64 x.m, .int .i64 x.n] 99)) w' := Below.trans (b := World.drew _) (Below.refl _ _).drew hbb))
      have hz : w'.heap[w.heap.size]? = some (.cells #[.int .i64 x.a, .int .i64 x.l, .int .i64 x.f, .int .i64 x.b, .int .i64 x.m, .int .i64 x.n] 99 (0, 0)) := (hbq.block _ (by simp)).trans (new_block _ _)
      obtain ⟨⟨z0, z1, z2, z3, z4, z5⟩, y0, y1, y2, y3, y4, y5⟩ := six hz
      go_wp2
      go_ret
      rw [HO.out]
      have hb0 : Below w.heap.size w w' := (below_alloc_ (Below.refl w.heap.size w) (.cells #[.int .i64 x.a, .int .i64 x.l, .int .i64 x.f, .int .i64 x.b, .int .i64 x.m, .int .i64 x.n] 99)).trans (hbq.mono (by simp))
      refine ⟨.slice (some ⟨w'.heap.size, 0, none⟩) 1 1, v, rfl, (H.out.below hb0).below (below_alloc_ (Below.refl _ _) _), Ps.one (x := x) (new_block _ _), fun k hk => Or.inl hk, ?_, Ot.alloc (Ot.of_below hb0) _⟩
      intro k hk
      simp only [Value.ownBlock, Option.some.injEq] at hk
      have := hb0.size
      omega
    | false =>
      have HO : Hid (putF P R false L x = ([], L ++ [x])) := putF_room' (by rw [HN.out]; exact HO1.out) (by rw [HSM.out]; simpa using o2)
      go_enter Tryd.func88, Tryd.ntmps88
      go_wp2
      go_region_held3 (fun W => W.cell? ⟨b, 3, none⟩ = some (.slice xa n cap) ∧ W.cell? ⟨b, 0, none⟩ = some (.int .i64 P) ∧ W.cell? ⟨b, 1, none⟩ = some (.int .i64 R) ∧ W.cell? ⟨w.heap.size, 1, none⟩ = some (.int .i64 x.l)) ((refine HSS.out _ ?_; first | exact (Below.refl _ _).drew | assumption | exact Below.refl _ _)) ((go_at_call 33; refine (HBY.out _ (by first | exact (Below.refl _ _).drew | assumption | exact Below.refl _ _)).mono ?_; rintro e w' ⟨rfl, hbb⟩; have hbq : Below (w.alloc (.cells #[.int .i64 x.a, .int .i64 x.l, .int .i64 x.f, .int .i64 x.b, .int .i64 x.m, .int .i64 x.n] 99)).heap.size (w.alloc (.cells #[.int .i64 x.a, .int .i64 x.l, .int .i64 x.f, .int .i64 x.b, .int .i64 x.m, .int .i64 x.n] 99)) w' := Below.trans (b := World.drew _) (Below.refl _ _).drew hbb))
      have hz : w'.heap[w.heap.size]? = some (.cells #[.int .i64 x.a, .int .i64 x.l, .int .i64 x.f, .int .i64 x.b, .int .i64 x.m, .int .i64 x.n] 99 (0, 0)) := (hbq.block _ (by simp)).trans (new_block _ _)
      obtain ⟨⟨z0, z1, z2, z3, z4, z5⟩, y0, y1, y2, y3, y4, y5⟩ := six hz
      have hb0 : Below w.heap.size w w' := (below_alloc_ (Below.refl w.heap.size w) (.cells #[.int .i64 x.a, .int .i64 x.l, .int .i64 x.f, .int .i64 x.b, .int .i64 x.m, .int .i64 x.n] 99)).trans (hbq.mono (by simp))
      obtain ⟨p0, p1, p2, p3, p4⟩ := (H.out.below hb0).cells
      rw [HV.out] at p3
      have hbw : b < w'.heap.size := (H.out.below hb0).lt
      have hzw : w.heap.size < w'.heap.size := lt_of_block hz
      have HROW : Hid (Seg w' 99 6 (.slice xa n cap) n (flt Hd.cs L)) := by
        have h1 := (H.out.below hb0).row
        unfold Ps at h1
        rw [HV.out, HN.out] at h1
        exact h1
      have HBQ : Hid (Below (w.alloc (.cells #[.int .i64 x.a, .int .i64 x.l, .int .i64 x.f, .int .i64 x.b, .int .i64 x.m, .int .i64 x.n] 99)).heap.size (w.alloc (.cells #[.int .i64 x.a, .int .i64 x.l, .int .i64 x.f, .int .i64 x.b, .int .i64 x.m, .int .i64 x.n] 99)) w') := hbq
      have HB0 : Hid (Below w.heap.size w w') := hb0
      have HBX : Hid (∀ W : World, Below w'.heap.size w' W → Below (w.alloc (.cells #[.int .i64 x.a, .int .i64 x.l, .int .i64 x.f, .int .i64 x.b, .int .i64 x.m, .int .i64 x.n] 99)).heap.size (w.alloc (.cells #[.int .i64 x.a, .int .i64 x.l, .int .i64 x.f, .int .i64 x.b, .int .i64 x.m, .int .i64 x.n] 99)) W) := fun W h => HBQ.out.trans (h.mono HBQ.out.size)
      clear hbb hb0 hbq
      go_wp2
      go_region_law (refine step_append_seg _ (by rfl) (.tmp 97) (.tmp 99) 36 (by rfl) 99 i0 _ 6 48 Tryd.underlying36 hi hz0 hz1 hz2 rfl (by decide) _ _ _ (by rfl) (HROW.out.below (by repeat' (first | with_reducible exact Below.refl _ _ | with_reducible refine Below.drew ?_ | with_reducible refine below_alloc_ ?_ _))) ⟨w'.heap.size, 0, none⟩ 1 1 x.cs (by rfl) rfl (news_of (new_block_ (by simp))) x.one (by decide) (by unfold maxLen; omega) (by omega) _ rfl ?_; intro g off cp w1 hs1 hg1 ha1 hl1; have hg2 := hg1; rw [← HV.out] at hg2 ha1; have hbx := HBX.out _ (by repeat' (first | with_reducible exact Below.refl _ _ | with_reducible refine Below.drew ?_ | with_reducible refine below_alloc_ ?_ _) : Below w'.heap.size w' (World.alloc (World.drew w') (.cells x.cs.toArray 99))); obtain ⟨m0, m1, m2⟩ := put_mid H.out hbx hg2; obtain ⟨d0, d3⟩ := r_cells m0; have hbs : b < w1.heap.size := by omega)
      all_goals
        go_wp2
        go_ret
        rw [HO.out]
        have hs2 : Seg w1 99 6 (.slice (some ⟨g, off, none⟩) (L.length + 1) cp) (L.length + 1) (flt Hd.cs L ++ x.cs) := by rw [HN.out]; exact hs1
        have h1 := put_grown H.out hbx hg2 hs2 ha1
        rw [HN.out] at h1
        exact ⟨_, _, rfl, h1⟩
/-- A round of the loop that throws the first ones away. -/
structure RCut (P R : Int) (L : List Hd) (w : World) (b : Nat) (T : TypeId) (more : List Value) (v : Value) (A B : List Hd) (u v' : Value) (wr : World) : Prop where
  parts : L = A ++ B
  cut : cutL P R L = (A ++ (cutL P R B).1, (cutL P R B).2)
  list : RAt wr b T P R true more v' B
  lost : Ps wr u A
  own : ∀ k, v'.ownBlock = some k → v.ownBlock = some k ∨ w.heap.size ≤ k
  new : ∀ k, u.ownBlock = some k → w.heap.size ≤ k
  apart : ∀ k, u.ownBlock = some k → v'.ownBlock ≠ some k
  ot : Ot (fun k => k = b ∨ v.ownBlock = some k) w wr
end Go.Proofs.YtefflbibacmboaaDoor
