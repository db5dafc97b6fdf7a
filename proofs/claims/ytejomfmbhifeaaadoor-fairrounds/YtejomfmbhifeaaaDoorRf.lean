/-
  millraceref.Fifo and Bytes: what Put, Take, When, All and Bytes return, and what each leaves. Conditions: the list lies in memory; few packets, none of them long; room from 0 on.
-/
import Derived.Test.YtejomfmbhifeaaaDoorFm
namespace Go.Proofs.YtejomfmbhifeaaaDoor
open Go.RowKit Go.Extern.Stop Go.Stop Go.Extern

/-- The reference's packets lie in a slice of the call's own. -/
def Ps (w : World) (v : Value) (L : List Hd) : Prop := Seg w 99 6 v L.length (flt Hd.cs L)
theorem Ps.nil (w : World) : Ps w (.slice none 0 0) [] := Seg.nil _ _ _
theorem infoPack : (Tryd.prog.info? 99).map (fun i => (i.zero, i.size, i.bytes)) = some (some (.agg #[.int .i64 0, .int .i64 0, .int .i64 0, .int .i64 0, .int .i64 0, .int .i64 0]), 6, 48) := by kernel_rfl
theorem sizePack : (Tryd.prog.info? 99).map (·.size) = some 6 := by kernel_rfl
theorem load_pack {w : World} {b : Nat} {t : TypeId} {fr : Nat × Nat} {x : Hd} (h : w.heap[b]? = some (.cells #[.int .i64 x.a, .int .i64 x.l, .int .i64 x.f, .int .i64 x.b, .int .i64 x.m, .int .i64 x.n] t fr)) : (loadVar 99 ⟨b, 0, none⟩).run Tryd.prog w = .ok x.val w :=
  run_loadVar_row w b t 99 _ fr _ h Tryd.underlying99 rfl sizePack
theorem Ps.below {w w' : World} {v : Value} {L : List Hd} (h : Ps w v L) (hb : Below w.heap.size w w') : Ps w' v L := Seg.below h hb
theorem Ps.shape {w : World} {v : Value} {L : List Hd} (h : Ps w v L) : ∃ x cap, v = .slice x L.length cap ∧ L.length ≤ cap := by
  rcases h.form with ⟨h, h0, _⟩ | ⟨b, off, cap, h, h1, _⟩
  · exact ⟨none, 0, by rw [h, h0], by omega⟩
  · exact ⟨_, _, h, h1⟩
theorem Ps.snoc {w : World} {v : Value} {L : List Hd} {x : Hd} {n : Nat} (h : Seg w 99 6 v n (flt Hd.cs L ++ x.cs)) (hn : n = L.length + 1) : Ps w v (L ++ [x]) := by
  unfold Ps
  rw [flt_append, flt_one]
  simpa [hn] using h
theorem Ps.one {w : World} {b : Nat} {x : Hd} (h : w.heap[b]? = some (.cells x.cs.toArray 99 (0, 0))) : Ps w (.slice (some ⟨b, 0, none⟩) 1 1) [x] := by
  refine ⟨rfl, Or.inr ⟨b, 0, 1, _, rfl, h, by simp, by decide, by simp [Hd.cs], fun j u hj => ?_⟩⟩
  rw [flt_one] at hj
  simpa using hj
theorem Ps.cells {w : World} {b off cap n : Nat} {L : List Hd} (h : Ps w (.slice (some ⟨b, off, none⟩) n cap) L) {k : Nat} {x : Hd} (hk : L[k]? = some x) : w.cell? ⟨b, off + k * 6, none⟩ = some (.int .i64 x.a) ∧ w.cell? ⟨b, off + k * 6 + 1, none⟩ = some (.int .i64 x.l) ∧ w.cell? ⟨b, off + k * 6 + 2, none⟩ = some (.int .i64 x.f) ∧ w.cell? ⟨b, off + k * 6 + 3, none⟩ = some (.int .i64 x.b) ∧ w.cell? ⟨b, off + k * 6 + 4, none⟩ = some (.int .i64 x.m) ∧ w.cell? ⟨b, off + k * 6 + 5, none⟩ = some (.int .i64 x.n) := by
  have hat : ∀ j, j < 6 → (flt Hd.cs L)[k * 6 + j]? = x.cs[j]? := fun j hj => flt_at Hd.cs 6 Hd.len hk hj
  rcases h.form with ⟨h1, _, _⟩ | ⟨b', off', cap', h1, _, _, _, hc⟩
  · simp at h1
  · simp only [Value.slice.injEq, Option.some.injEq, Addr.mk.injEq, and_true] at h1
    obtain ⟨⟨rfl, rfl⟩, _⟩ := h1
    exact ⟨hc _ _ (hat 0 (by omega)), hc _ _ (hat 1 (by omega)), hc _ _ (hat 2 (by omega)), hc _ _ (hat 3 (by omega)), hc _ _ (hat 4 (by omega)), hc _ _ (hat 5 (by omega))⟩
theorem Ps.head {w : World} {b off cap n : Nat} {x : Hd} {L : List Hd} (h : Ps w (.slice (some ⟨b, off, none⟩) n cap) (x :: L)) : w.cell? ⟨b, off, none⟩ = some (.int .i64 x.a) ∧ w.cell? ⟨b, off + 1, none⟩ = some (.int .i64 x.l) ∧ w.cell? ⟨b, off + 2, none⟩ = some (.int .i64 x.f) ∧ w.cell? ⟨b, off + 3, none⟩ = some (.int .i64 x.b) ∧ w.cell? ⟨b, off + 4, none⟩ = some (.int .i64 x.m) ∧ w.cell? ⟨b, off + 5, none⟩ = some (.int .i64 x.n) := by
  have := h.cells (k := 0) (x := x) rfl
  simpa using this
theorem sumL_take_succ {L : List Hd} {j : Nat} {x : Hd} (h : L[j]? = some x) : sumL (L.take (j + 1)) = sumL (L.take j) + x.l := by
  rw [List.take_add_one, h, sumL_append]
  simp [sumL]
set_option maxHeartbeats 1000000 in
/-- Bytes. -/
theorem rbytes_any {v : Value} {L : List Hd} (w : World) (h : Ps w v L) (hF : Fit L) : Calls Tryd.prog 33 #[v] w fun e w' => e = .returned (.int .i64 (sumL L)) ∧ Below w.heap.size w w' := by
  have H : Hid (Ps w v L) := h
  obtain ⟨x, cap, rfl, _⟩ := h.shape
  clear h
  obtain ⟨n, hn⟩ : ∃ n, L.length = n := ⟨_, rfl⟩
  have HN : Hid (L.length = n) := hn
  have hn1 : n ≤ 1000000 := by rw [← hn]; exact hF.1
  rw [hn] at H ⊢
  clear hn
  go_enter Tryd.func33, Tryd.ntmps33
  go_wp2
  go_loopw [3, 8] (fun s i wr => ∃ k : Nat, k ≤ n ∧ i = .int .i64 k ∧ s = .int .i64 (sumL (L.take k)) ∧ Below w.heap.size w wr) (fun _ i _ => n - (intOf i).toNat)
  case atStart => exact ⟨0, Nat.zero_le _, rfl, by simp [sumL], Below.refl _ _⟩
  case round =>
    obtain ⟨k, hk, rfl, rfl, hb⟩ := hrel
    by_cases hlt : k < n
    · obtain ⟨y, hy⟩ : ∃ y, L[k]? = some y := ⟨_, List.getElem?_eq_getElem (by rw [HN.out]; exact hlt)⟩
      have HSU : Hid (sumL (L.take (k + 1)) = sumL (L.take k) + y.l) := sumL_take_succ hy
      obtain ⟨b, off, cap', hx, _⟩ := H.out.some (by rw [HN.out]; omega)
      have hx' : x = some ⟨b, off, none⟩ := by simp at hx; exact hx.1
      subst hx'
      obtain ⟨p0, p1, p2, p3, p4, p5⟩ := (H.out.below hb).cells hy
      have hsl := Fit.sum (L := L.take k) (fun t ht => hF.2 t (List.mem_of_mem_take ht))
      have hlj : (L.take k).length ≤ k := List.length_take_le _ _
      have hyl := hF.2 y (List.mem_of_getElem? hy)
      obtain ⟨sj, hsj⟩ : ∃ sj, sumL (L.take k) = sj := ⟨_, rfl⟩
      have HSJ : Hid (sumL (L.take k) = sj) := hsj
      rw [hsj] at hsl ⊢
      clear hx hy hsj
      go_wp2
      go_roundw
      case rel => exact ⟨k + 1, by omega, by go_num, by rw [HSU.out, HSJ.out], below_alloc_ hb _⟩
      case measure => simp [intOf]; omega
    · obtain rfl : k = n := by omega
      have HSA : Hid (sumL (L.take k) = sumL L) := by show _ = _; rw [List.take_of_length_le (by rw [HN.out]; exact Nat.le_refl _)]
      go_wp2
      go_ret
      exact ⟨by show Ending.returned (.int .i64 (sumL (L.take k))) = _; rw [HSA.out], hb⟩

/-- A reference's Fifo lies at the head of block b. -/
structure RAt (w : World) (b : Nat) (T : TypeId) (P R : Int) (hd : Bool) (more : List Value) (v : Value) (L : List Hd) : Prop where
  blk : w.heap[b]? = some (.cells (.int .i64 P :: .int .i64 R :: .bool hd :: v :: more).toArray T (0, 0))
  row : Ps w v L
  ne : v.ownBlock ≠ some b
theorem RAt.lt {w : World} {b : Nat} {T : TypeId} {P R : Int} {hd : Bool} {more : List Value} {v : Value} {L : List Hd} (h : RAt w b T P R hd more v L) : b < w.heap.size := lt_of_block h.blk
theorem RAt.kept {w w' : World} {b : Nat} {T : TypeId} {P R : Int} {hd : Bool} {more : List Value} {v : Value} {L : List Hd} (h : RAt w b T P R hd more v L) (hb : w'.heap[b]? = w.heap[b]?) (hv : ∀ k, v.ownBlock = some k → w'.heap[k]? = w.heap[k]?) : RAt w' b T P R hd more v L := ⟨hb.trans h.blk, h.row.kept hv, h.ne⟩
theorem RAt.below {w w' : World} {b : Nat} {T : TypeId} {P R : Int} {hd : Bool} {more : List Value} {v : Value} {L : List Hd} (h : RAt w b T P R hd more v L) (hb : Below w.heap.size w w') : RAt w' b T P R hd more v L := h.kept (hb.block b h.lt) (fun k hk => hb.block k (h.row.lt hk))
theorem RAt.drewN {w : World} {b : Nat} {T : TypeId} {P R : Int} {hd : Bool} {more : List Value} {v : Value} {L : List Hd} (h : RAt w b T P R hd more v L) (n : Nat) : RAt (w.drewN n) b T P R hd more v L := ⟨h.blk, h.row, h.ne⟩
theorem RAt.cells {w : World} {b : Nat} {T : TypeId} {P R : Int} {hd : Bool} {more : List Value} {v : Value} {L : List Hd} (h : RAt w b T P R hd more v L) : w.cell? ⟨b, 0, none⟩ = some (.int .i64 P) ∧ w.cell? ⟨b, 1, none⟩ = some (.int .i64 R) ∧ w.cell? ⟨b, 2, none⟩ = some (.bool hd) ∧ w.cell? ⟨b, 3, none⟩ = some v ∧ w.frozen? ⟨b, 3, none⟩ = false := by
  have := h.blk
  refine ⟨?_, ?_, ?_, ?_, ?_⟩
  all_goals simp [World.cell?, World.frozen?, this]
/-- Its list is another one. -/
theorem RAt.set {w : World} {b : Nat} {T : TypeId} {P R : Int} {hd : Bool} {more : List Value} {v v' : Value} {L' : List Hd} (h : w.heap[b]? = some (.cells (.int .i64 P :: .int .i64 R :: .bool hd :: v :: more).toArray T (0, 0))) (hv : Ps w v' L') (hne : v'.ownBlock ≠ some b) : RAt (w.setCell ⟨b, 3, none⟩ v') b T P R hd more v' L' :=
  ⟨by rw [heap_setCell_here h v']; simp, hv.setCell (p := ⟨b, 3, none⟩) hne _, hne⟩
theorem rfifo_all {b : Nat} {T : TypeId} {P R : Int} {hd : Bool} {more : List Value} {v : Value} {L : List Hd} (w : World) (h : RAt w b T P R hd more v L) :
    Calls Tryd.prog 84 #[.pointer (some ⟨b, 0, none⟩)] w fun e w' => e = .returned v ∧ w' = w := by
  obtain ⟨c0, c1, c2, c3, f3⟩ := h.cells
  clear h
  go_enter Tryd.func84, Tryd.ntmps84
  go_wp2
  go_ret
  exact ⟨rfl, rfl⟩
theorem rfifo_when {b : Nat} {T : TypeId} {P R : Int} {hd : Bool} {more : List Value} {v : Value} {L : List Hd} (now : Int) (w : World) (h : RAt w b T P R hd more v L) :
    Calls Tryd.prog 87 #[.pointer (some ⟨b, 0, none⟩), .int .i64 now] w fun e w' => e = .returned (.tuple #[.int .i64 now, .bool (!L.isEmpty)]) ∧ ∃ n, w' = w.drewN n := by
  obtain ⟨c0, c1, c2, c3, f3⟩ := h.cells
  obtain ⟨x, cap, rfl, _⟩ := h.row.shape
  have HE : Hid (decide (0 < L.length) = !L.isEmpty) := by
    cases L with
    | nil => rfl
    | cons x L => simp [Hid]
  clear h
  go_enter Tryd.func87, Tryd.ntmps87
  go_wp2
  go_quiet (fail)
  go_wp2
  go_ret2
  exact ⟨by rw [← HE.out]; rfl, _, rfl⟩
end Go.Proofs.YtejomfmbhifeaaaDoor
