/-
  millraceref.Fifo: what Take and Put return, and what each leaves. Conditions: the list lies in memory; few packets, none of them long; room from 0 on.
-/
import Derived.Test.YtejomfmbhifeaaaDoorRf
namespace Go.Proofs.YtejomfmbhifeaaaDoor
open Go.RowKit Go.Extern.Stop Go.Stop Go.Extern

theorem pseg_empty {w : World} {b : Nat} {e : TypeId} (h : w.heap[b]? = some (.cells #[] e (0, 0))) : Seg w e 6 (.slice (some ⟨b, 0, none⟩) 0 0) 0 [] := ⟨rfl, Or.inr ⟨b, 0, 0, #[], rfl, h, Nat.le_refl _, Nat.zero_le _, by simp, fun j u hj => by simp at hj⟩⟩
theorem pflt_ones (xs : List Hd) : ∀ u ∈ flt Hd.cs xs, u.oneCell' = true := by
  intro u hu
  simp only [flt, List.mem_flatMap] at hu
  obtain ⟨x, _, hx⟩ := hu
  exact x.one u hx
theorem Ps.tailc {w : World} {b off cap n : Nat} {x : Hd} {L : List Hd} (h : Ps w (.slice (some ⟨b, off, none⟩) n cap) (x :: L)) : ∀ j u, (flt Hd.cs L)[j]? = some u → w.cell? ⟨b, off + 6 + j, none⟩ = some u := by
  intro j u hj
  rcases h.form with ⟨h1, _, _⟩ | ⟨b', off', cap', h1, _, _, _, hc⟩
  · simp at h1
  · simp only [Value.slice.injEq, Option.some.injEq, Addr.mk.injEq, and_true] at h1
    obtain ⟨⟨rfl, rfl⟩, _⟩ := h1
    have h2 := hc (6 + j) u (by rw [flt_cons, List.getElem?_append_right (by rw [Hd.len]; omega), Hd.len, Nat.add_sub_cancel_left]; exact hj)
    rwa [← Nat.add_assoc] at h2
/-- Nothing is appended. -/
theorem wpList_append_empty {P : Program} (w : World) {ops : Array Oper} {rest : List Oper} {o : Oper} {a : Act} {Q : Exit → Act → World → Prop} (hgd : o.guard = none) (s x : Operand) (t : TypeId)
    (ho : o.op = .call { callee := .builtin .append, args := #[s, x], argTypes := #[t, t] })
    (e : TypeId) (i : TypeInfo) (ht : P.underlying t = some (.slice e)) (hi : P.info? e = some i)
    (ad : Option Addr) (n cap : Nat) (hs : a.eval s = .slice ad n cap) (hle : n ≤ cap) (xa : Option Addr) (xc : Nat) (hx : a.eval x = .slice xa 0 xc)
    (h : wpList P ops Q rest (a.put o.dst (.slice ad n cap)) w) : wpList P ops Q (o :: rest) a w := by
  refine wpList_plain hgd fun K hK => ?_
  have hr : (Builtin.append_ #[t, t] o.type #[.slice ad n cap, .slice xa 0 xc]).run P w = .ok (.slice ad n cap) w := by
    cases ad <;> cases xa <;> simp [Builtin.append_, Builtin.lenOf, Builtin.firstCells, run_underlying ht, sizeOf, typeInfo, hi, hle, storeCells, loadCells, loadCellsFrom]
  unfold Oper.wp execOp
  simp only [ho, resolve, invoke, builtin, Sem.run_bind, Sem.run_pure, Result.andThen_ok, List.map_toArray, List.map_cons, List.map_nil, hs, hx, hr]
  exact hK _ _ h
theorem r_cells {w : World} {b : Nat} {T : TypeId} {P R : Int} {hd : Bool} {more : List Value} {v : Value} (h : w.heap[b]? = some (.cells (.int .i64 P :: .int .i64 R :: .bool hd :: v :: more).toArray T (0, 0))) : w.cell? ⟨b, 3, none⟩ = some v ∧ w.frozen? ⟨b, 3, none⟩ = false := by
  refine ⟨?_, ?_⟩
  all_goals simp [World.cell?, World.frozen?, h]
theorem take_blocks {w w1 : World} {b : Nat} {o0 o1 o2 : Obj} {ob : Obj} (hb : b < w.heap.size) (hg : (((w.alloc o0).alloc o1).alloc o2).grownBy w1 (some (w.heap.size + 1 + 1))) (h : w.heap[b]? = some ob) : w1.heap[b]? = some ob ∧ w1.heap[w.heap.size]? = some o0 ∧ w1.heap[w.heap.size + 1]? = some o1 ∧ w.heap.size + 1 + 1 < w1.heap.size := by
  have hs := hg.size
  simp at hs
  refine ⟨?_, ?_, ?_, by omega⟩
  · rw [hg.block b (by simp; omega) (by simp; omega), Below.heap_alloc _ _ _ (by simp; omega), Below.heap_alloc _ _ _ (by simp; omega), Below.heap_alloc _ _ _ hb]
    exact h
  · rw [hg.block _ (by simp; omega) (by simp; omega), Below.heap_alloc _ _ _ (by simp; omega), Below.heap_alloc _ _ _ (by simp)]
    exact new_block_ rfl
  · rw [hg.block _ (by simp) (by simp), Below.heap_alloc _ _ _ (by simp)]
    exact new_block_ (by simp)
/-- What Take leaves. -/
structure RTake (w : World) (b : Nat) (T : TypeId) (P R : Int) (hd : Bool) (more : List Value) (v : Value) (L : List Hd) (w' : World) (v' : Value) : Prop where
  list : RAt w' b T P R hd more v' L
  own : ∀ k, v'.ownBlock = some k → v.ownBlock = some k ∨ w.heap.size ≤ k
  ot : Ot (· = b) w w'
set_option maxRecDepth 20000 in
set_option maxHeartbeats 1000000 in
theorem rfifo_take {b : Nat} {T : TypeId} {P R : Int} {hd : Bool} {more : List Value} {v : Value} {L : List Hd} (now : Int) (w : World) (h : RAt w b T P R hd more v L) (hF : Fit L) :
    Calls Tryd.prog 86 #[.pointer (some ⟨b, 0, none⟩), .int .i64 now] w fun e w' => e = .returned (.tuple #[(hdOr L).val, .slice none 0 0, .bool (!L.isEmpty)]) ∧ ∃ v', RTake w b T P R hd more v L.tail w' v' := by
  have H : Hid (RAt w b T P R hd more v L) := h
  have hb := h.lt
  obtain ⟨c0, c1, c2, c3, f3⟩ := h.cells
  have hV := Hd.val_eq
  obtain ⟨i0, hi, hz0, hz1, hz2⟩ := info_parts infoPack
  cases L with
  | nil =>
    obtain ⟨x, cap, rfl, _⟩ := h.row.shape
    clear h
    go_enter Tryd.func86, Tryd.ntmps86
    go_wp2
    (try simp only [Exit.inBlock, Exit.then])
    refine bodyPost_ret (v := .tuple #[hd0.val, .slice none 0 0, .bool false]) ?_ rfl ⟨rfl, _, H.out.below ?_, fun k hk => Or.inl hk, Ot.of_below ?_⟩
    · rw [results_cell_tmp2 rfl]
      go_simp
      exact ⟨rfl, rfl, rfl, rfl, rfl, rfl⟩
    all_goals repeat' (first | with_reducible exact Below.refl _ _ | with_reducible refine below_set_ ?_ (by simp) _ | with_reducible refine below_alloc_ ?_ _)
  | cons y L =>
    obtain ⟨b1, off, cap, rfl, hnc, hx, hlt, _⟩ := h.row.some (by simp)
    obtain ⟨k0, k1, k2, k3, k4, k5⟩ := h.row.head
    have HTC : Hid (∀ j u, (flt Hd.cs L)[j]? = some u → w.cell? ⟨b1, off + 6 + j, none⟩ = some u) := h.row.tailc
    have hne : b1 ≠ b := fun e => h.ne (by rw [e]; rfl)
    have hb1 : b < w.heap.size + 1 := by omega
    have hb2 : b < w.heap.size + 1 + 1 := by omega
    have hl1 : b1 < w.heap.size + 1 := by omega
    have hl2 : b1 < w.heap.size + 1 + 1 := by omega
    obtain ⟨n1, hn1⟩ : ∃ n1, L.length = n1 := ⟨_, rfl⟩
    have HN1 : Hid (L.length = n1) := hn1
    have hlen : (y :: L).length = n1 + 1 := by simp [hn1]
    have hfit : n1 + 1 ≤ 1000000 := by rw [← hlen]; exact hF.1
    unfold maxLen at hx
    rw [hlen] at c3 hnc H
    have HBLK : Hid (w.heap[b]? = some (.cells (.int .i64 P :: .int .i64 R :: .bool hd :: .slice (some ⟨b1, off, none⟩) (n1 + 1) cap :: more).toArray T (0, 0))) := H.out.blk
    clear h hn1 hlen
    have HEND : Hid (∀ {vv v' : Value} {w5 : World}, w5.heap[b]? = some (.cells (.int .i64 P :: .int .i64 R :: .bool hd :: v' :: more).toArray T (0, 0)) → Ps w5 v' L → (∀ k, v'.ownBlock = some k → w.heap.size ≤ k) → Ot (· = b) w w5 → RTake w b T P R hd more vv L w5 v') := fun hblk hp hk ho => ⟨⟨hblk, hp, fun e => by have := hk b e; omega⟩, fun k hk' => Or.inr (hk k hk'), ho⟩
    have HSET : Hid (∀ (v' : Value), (w.setCell ⟨b, 3, none⟩ v').heap[b]? = some (.cells (.int .i64 P :: .int .i64 R :: .bool hd :: v' :: more).toArray T (0, 0))) := fun v' => by rw [heap_setCell_here HBLK.out v']; simp
    cases L with
    | nil =>
      obtain rfl : n1 = 0 := HN1.out.symm
      by_cases hcap : cap = 1
      · subst hcap
        go_enter Tryd.func86, Tryd.ntmps86
        go_wp2
        all_goals (try simp only [Exit.inBlock, Exit.then])
        all_goals
          refine bodyPost_ret (v := .tuple #[y.val, .slice none 0 0, .bool true]) ?_ rfl ⟨rfl, .slice (some ⟨w.heap.size + 1 + 1, 0, none⟩) 0 0, HEND.out ?_ (pseg_empty (new_block_ (by simp [World.setCell]))) (fun k hk => by simp only [Value.ownBlock, Option.some.injEq] at hk; omega) (Ot.alloc (Ot.alloc (Ot.alloc (Ot.setCell (S := (· = b)) (p := ⟨b, 3, none⟩) (Ot.refl _ _) (Or.inl rfl) _) _) _) _)⟩
          · rw [results_cell_tmp2 rfl]
            go_simp
          · rw [Below.heap_alloc _ _ _ (by simp [World.setCell]; omega), Below.heap_alloc _ _ _ (by simp [World.setCell]; omega), Below.heap_alloc _ _ _ (by simpa [World.setCell] using hb)]
            exact HSET.out _
      · go_enter Tryd.func86, Tryd.ntmps86
        go_wp2
        all_goals (try simp only [Exit.inBlock, Exit.then])
        all_goals
          refine bodyPost_ret (v := .tuple #[y.val, .slice none 0 0, .bool true]) ?_ rfl ⟨rfl, .slice (some ⟨w.heap.size + 1 + 1, 0, none⟩) 0 0, HEND.out ?_ (pseg_empty (new_block_ (by simp [World.setCell]))) (fun k hk => by simp only [Value.ownBlock, Option.some.injEq] at hk; omega) (Ot.alloc (Ot.alloc (Ot.alloc (Ot.setCell (S := (· = b)) (p := ⟨b, 3, none⟩) (Ot.refl _ _) (Or.inl rfl) _) _) _) _)⟩
          · rw [results_cell_tmp2 rfl]
            go_simp
          · rw [Below.heap_alloc _ _ _ (by simp [World.setCell]; omega), Below.heap_alloc _ _ _ (by simp [World.setCell]; omega), Below.heap_alloc _ _ _ (by simpa [World.setCell] using hb)]
            exact HSET.out _
    | cons y2 L2 =>
      have hml : 0 < n1 := by rw [← HN1.out]; simp
      have hcap : ¬ cap = 1 := by omega
      go_enter Tryd.func86, Tryd.ntmps86
      go_wp2_with (at_builtin; refine wpList_append_seg _ rfl (.tmp 22) (.tmp 27) 36 rfl 99 i0 _ 6 48 Tryd.underlying36 hi hz0 hz1 hz2 rfl (by decide) (.slice (some ⟨w.heap.size + 1 + 1, 0, none⟩) 0 0) 0 [] rfl (pseg_empty (new_block_ (by simp))) ⟨b1, off + 6, none⟩ n1 (cap - 1) (flt Hd.cs (y2 :: L2)) rfl (by rw [flt_length Hd.cs 6 Hd.len, HN1.out]) (fun j u hj => by rw [Addr.add_lit, World.cell?_alloc_lt _ _ _ (by simp; omega), World.cell?_alloc_lt _ _ _ (by simp; omega), World.cell?_alloc_lt _ _ _ (by exact hlt)]; exact HTC.out j u hj) (pflt_ones _) hml (by unfold maxLen; omega) (by omega) _ rfl ?_; intro g goff gcap w1 hs1 hg1 ha1 hl1; obtain ⟨q0, q1, q2, q3⟩ := take_blocks hb hg1 HBLK.out; obtain ⟨d0, d3⟩ := r_cells q0; obtain ⟨⟨x0, x1, x2, x3, x4, x5⟩, t0, t1, t2, t3, t4, t5⟩ := six q1; obtain ⟨⟨z0, z1, z2, z3, z4, z5⟩, _, _, _, _, _, _⟩ := six q2; have hbw : b < w1.heap.size := by omega)
      (try simp only [Exit.inBlock, Exit.then])
      have hgl : w.heap.size + 1 + 1 ≤ g := by
        rcases ha1 with h | h
        · simp only [Value.ownBlock, Option.some.injEq] at h; omega
        · simp at h; omega
      have hps : Ps w1 (.slice (some ⟨g, goff, none⟩) n1 gcap) (y2 :: L2) := by
        unfold Ps
        rw [HN1.out]
        simpa using hs1
      have hot : Ot (fun k => k = b ∨ k = w.heap.size) w1 (((((((w1.setCell ⟨b, 3, none⟩ (.slice (some ⟨g, goff, none⟩) n1 gcap)).setCell ⟨w.heap.size, 0, none⟩ (.int .i64 y.a)).setCell ⟨w.heap.size, 1, none⟩ (.int .i64 y.l)).setCell ⟨w.heap.size, 2, none⟩ (.int .i64 y.f)).setCell ⟨w.heap.size, 3, none⟩ (.int .i64 y.b)).setCell ⟨w.heap.size, 4, none⟩ (.int .i64 y.m)).setCell ⟨w.heap.size, 5, none⟩ (.int .i64 y.n)) := by
        repeat' (first | with_reducible exact Ot.refl _ _ | with_reducible refine Ot.setCell ?_ (Or.inl (by simp)) _)
      refine bodyPost_ret (v := .tuple #[y.val, .slice none 0 0, .bool true]) ?_ rfl ⟨rfl, .slice (some ⟨g, goff, none⟩) n1 gcap, HEND.out ?_ (Seg.oth hps hot (fun k hk h => ?_)) (fun k hk => ?_) ?_⟩
      · rw [results_cell_tmp2 rfl]
        have hld := load_pack (x := y) (six_set (w := w1.setCell ⟨b, 3, none⟩ (.slice (some ⟨g, goff, none⟩) n1 gcap)) ((Below.heap_setCell _ _ _ _ (by show w.heap.size ≠ b; omega)).trans q1) (.int .i64 y.a) (.int .i64 y.l) (.int .i64 y.f) (.int .i64 y.b) (.int .i64 y.m) (.int .i64 y.n))
        simp [asAddr, Result.andThen, hld]
      · have e : b ≠ w.heap.size := by omega
        rw [Below.heap_setCell _ _ _ _ e, Below.heap_setCell _ _ _ _ e, Below.heap_setCell _ _ _ _ e, Below.heap_setCell _ _ _ _ e, Below.heap_setCell _ _ _ _ e, Below.heap_setCell _ _ _ _ e, heap_setCell_here q0]
        simp
      · simp only [Value.ownBlock, Option.some.injEq] at hk
        omega
      · simp only [Value.ownBlock, Option.some.injEq] at hk
        omega
      · refine ((Ot.grown (S := (· = b)) (row := some (w.heap.size + 1 + 1)) (Ot.alloc (Ot.alloc (Ot.alloc (Ot.refl _ w) _) _) _) hg1 (fun k e => Or.inr (by simp at e; omega))).trans' hot (fun k h hk => by omega))
/-- What Put leaves. -/
structure RPut (w : World) (b : Nat) (T : TypeId) (P R : Int) (hd : Bool) (more : List Value) (v : Value) (L lost : List Hd) (w' : World) (v' u : Value) : Prop where
  list : RAt w' b T P R hd more v' L
  lost : Ps w' u lost
  own : ∀ k, v'.ownBlock = some k → v.ownBlock = some k ∨ w.heap.size ≤ k
  new : ∀ k, u.ownBlock = some k → w.heap.size ≤ k
  ot : Ot (fun k => k = b ∨ v.ownBlock = some k) w w'
end Go.Proofs.YtejomfmbhifeaaaDoor
