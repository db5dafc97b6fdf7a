/-
  Grids in memory; sketch.Grid.Cell: which cell a key has in a row. Conditions: a grid lies in memory, rows from 1 to 8, cells from 1 to 1000.
-/
import Derived.Test.YtkmbnklfaaopaaaDoorSg
import Derived.Test.YtkmbnklfaaopaaaDoorCvRow
import Derived.Deep.OwnRows
namespace Go.Proofs.YtkmbnklfaaopaaaDoor
open Go.RowKit Go.Extern.Stop Go.Stop Go.Extern

/-- A row of ints in a block of its own. -/
def RwI (w : World) (s n : Nat) (f : Nat → Int) : Prop := w.rowIs s 3 n (fun i => .int .i64 (f i))
theorem RwI.lt {w : World} {s n : Nat} {f : Nat → Int} (h : RwI w s n f) : s < w.heap.size := World.rowIs.lt h
theorem RwI.kept {w w' : World} {s n : Nat} {f : Nat → Int} (h : RwI w s n f) (hb : w'.heap[s]? = w.heap[s]?) : RwI w' s n f := World.rowIs.of_block h hb
theorem RwI.made (w : World) (n : Nat) : RwI (w.alloc (.cells (madeCells #[.int .i64 0] n) 3)) w.heap.size n (fun _ => 0) := World.rowIs_made w (.int .i64 0) n 3
theorem RwI.congr {w : World} {s n : Nat} {f F : Nat → Int} (h : RwI w s n f) (hF : ∀ j, j < n → f j = F j) : RwI w s n F := World.rowIs.congr h fun i hi => by rw [hF i hi]
theorem RwI.set {w : World} {s n : Nat} {f : Nat → Int} (h : RwI w s n f) (i : Nat) (v : Int) {F : Nat → Int} (hF : ∀ j, j < n → F j = if j = i then v else f j) : RwI (w.setCell ⟨s, i, none⟩ (.int .i64 v)) s n F := by
  refine (World.rowIs.set h i _).congr fun j hj => ?_
  rw [hF j hj]
  by_cases e : j = i
  · rw [if_pos e, if_pos e]
  · rw [if_neg e, if_neg e]
theorem make_rowI (n : Nat) (h : n ≤ 1000) (w : World) : (Instr.makeSlice 22 (.int .i64 (n : Int)) (.int .i64 (n : Int))).run Tryd.prog w = .ok (.slice (some ⟨w.heap.size, 0, none⟩) n n) (w.alloc (.cells (madeCells #[.int .i64 0] n) 3)) :=
  run_make_row' (P := Tryd.prog) 22 3 (.int .i64 0) 8 Tryd.underlying22 infoInt rfl .i64 .i64 n (by omega) (by omega) w
/-- The slices of the rows. -/
def rowsV (gb : Nat → Nat) (C R : Nat) : List Value := (List.range R).map fun r => .slice (some ⟨gb r, 0, none⟩) C C
theorem rowsV_succ (gb : Nat → Nat) (C R : Nat) : rowsV gb C (R + 1) = rowsV gb C R ++ [.slice (some ⟨gb R, 0, none⟩) C C] := by simp [rowsV, List.range_succ]
theorem rowsV_at {gb : Nat → Nat} {C R r : Nat} (h : r < R) : (rowsV gb C R)[r]? = some (.slice (some ⟨gb r, 0, none⟩) C C) := by simp [rowsV, h]
theorem rowsV_len (gb : Nat → Nat) (C R : Nat) : (rowsV gb C R).length = R := by simp [rowsV]
theorem rowsV_congr {gb gc : Nat → Nat} {C R : Nat} (h : ∀ r, r < R → gb r = gc r) : rowsV gb C R = rowsV gc C R := by
  unfold rowsV
  apply List.map_congr_left
  intro r hr
  rw [h r (List.mem_range.1 hr)]
/-- A grid: block g has it, v is the slice of its rows, row r lies in block gb r; M: what its cells hold. All its blocks lie from lo to hi. -/
structure GrS (w : World) (g : Nat) (v : Value) (gb : Nat → Nat) (lo hi C R : Nat) (M : Nat → Nat → Int) : Prop where
  blk : w.heap[g]? = some (.cells #[.int .i64 C, v] 61 (0, 0))
  seg : Seg w 22 1 v R (rowsV gb C R)
  row : ∀ r, r < R → RwI w (gb r) C (M r)
  vg : v.ownBlock ≠ some g
  vr : ∀ r, r < R → v.ownBlock ≠ some (gb r)
  rg : ∀ r, r < R → gb r ≠ g
  rr : ∀ r s, r < R → s < R → gb r = gb s → r = s
  g0 : lo ≤ g ∧ g < hi
  v0 : ∀ b, v.ownBlock = some b → lo ≤ b ∧ b < hi
  r0 : ∀ r, r < R → lo ≤ gb r ∧ gb r < hi
theorem GrS.kept {w w' : World} {g : Nat} {v : Value} {gb : Nat → Nat} {lo hi C R : Nat} {M : Nat → Nat → Int} (h : GrS w g v gb lo hi C R M) (hb : ∀ k, lo ≤ k → k < hi → w'.heap[k]? = w.heap[k]?) : GrS w' g v gb lo hi C R M where
  blk := (hb g h.g0.1 h.g0.2).trans h.blk
  seg := h.seg.kept fun b e => hb b (h.v0 b e).1 (h.v0 b e).2
  row r hr := (h.row r hr).kept (hb _ (h.r0 r hr).1 (h.r0 r hr).2)
  vg := h.vg
  vr := h.vr
  rg := h.rg
  rr := h.rr
  g0 := h.g0
  v0 := h.v0
  r0 := h.r0
theorem GrS.oth {w w' : World} {S : Nat → Prop} {g : Nat} {v : Value} {gb : Nat → Nat} {lo hi C R : Nat} {M : Nat → Nat → Int} (h : GrS w g v gb lo hi C R M) (hb : Ot S w w') (hhi : hi ≤ w.heap.size) (hS : ∀ k, lo ≤ k → k < hi → ¬ S k) : GrS w' g v gb lo hi C R M := h.kept fun k h1 h2 => hb.block k (by omega) (hS k h1 h2)
theorem GrS.below {w w' : World} {g : Nat} {v : Value} {gb : Nat → Nat} {lo hi C R : Nat} {M : Nat → Nat → Int} (h : GrS w g v gb lo hi C R M) (hb : Below w.heap.size w w') (hhi : hi ≤ w.heap.size) : GrS w' g v gb lo hi C R M := h.kept fun k _ h2 => hb.block k (by omega)
theorem GrS.congr {w : World} {g : Nat} {v : Value} {gb : Nat → Nat} {lo hi C R : Nat} {M M' : Nat → Nat → Int} (h : GrS w g v gb lo hi C R M) (hM : ∀ r c, r < R → c < C → M r c = M' r c) : GrS w g v gb lo hi C R M' :=
  { h with row := fun r hr => (h.row r hr).congr fun c hc => hM r c hr hc }
theorem GrS.cells {w : World} {g : Nat} {v : Value} {gb : Nat → Nat} {lo hi C R : Nat} {M : Nat → Nat → Int} (h : GrS w g v gb lo hi C R M) : w.cell? ⟨g, 0, none⟩ = some (.int .i64 C) ∧ w.cell? ⟨g, 1, none⟩ = some v := by
  have := h.blk
  exact ⟨by simp [World.cell?, this], by simp [World.cell?, this]⟩
theorem GrS.lt {w : World} {g : Nat} {v : Value} {gb : Nat → Nat} {lo hi C R : Nat} {M : Nat → Nat → Int} (h : GrS w g v gb lo hi C R M) : g < w.heap.size := (Array.getElem?_eq_some_iff.1 h.blk).1
/-- The slice of rows, where there is one. -/
theorem GrS.rows {w : World} {g : Nat} {v : Value} {gb : Nat → Nat} {lo hi C R : Nat} {M : Nat → Nat → Int} (h : GrS w g v gb lo hi C R M) (hR : 0 < R) : ∃ b off cap, v = .slice (some ⟨b, off, none⟩) R cap ∧ R ≤ cap ∧ b < w.heap.size ∧ ∀ r, r < R → w.cell? ⟨b, off + r, none⟩ = some (.slice (some ⟨gb r, 0, none⟩) C C) := by
  obtain ⟨b, off, cap, e, h1, _, h2, h3⟩ := h.seg.some hR
  exact ⟨b, off, cap, e, h1, h2, fun r hr => h3 r _ (rowsV_at hr)⟩
theorem GrS.at {w : World} {g : Nat} {v : Value} {gb : Nat → Nat} {lo hi C R : Nat} {M : Nat → Nat → Int} (h : GrS w g v gb lo hi C R M) {r c : Nat} (hr : r < R) (hc : c < C) : w.cell? ⟨gb r, c, none⟩ = some (.int .i64 (M r c)) ∧ w.frozen? ⟨gb r, c, none⟩ = false := ⟨World.rowIs.cell (h.row r hr) hc, World.rowIs.frozen (h.row r hr) c⟩
/-- One of its cells is set. -/
theorem GrS.set {w : World} {g : Nat} {v : Value} {gb : Nat → Nat} {lo hi C R : Nat} {M : Nat → Nat → Int} (h : GrS w g v gb lo hi C R M) {r c : Nat} (hr : r < R) (x : Int) {M' : Nat → Nat → Int} (hM : ∀ s d, s < R → d < C → M' s d = if s = r ∧ d = c then x else M s d) : GrS (w.setCell ⟨gb r, c, none⟩ (.int .i64 x)) g v gb lo hi C R M' where
  blk := (Below.heap_setCell _ _ _ _ (fun e => h.rg r hr e.symm)).trans h.blk
  seg := h.seg.setCell (h.vr r hr) _
  row s hs := by
    by_cases e : s = r
    · subst e
      exact (h.row s hs).set c x fun d hd => by rw [hM s d hs hd]; simp
    · refine ((h.row s hs).kept (Below.heap_setCell _ _ _ _ (fun e2 => e (h.rr s r hs hr e2)))).congr fun d hd => ?_
      rw [hM s d hs hd, if_neg (fun h => e h.1)]
  vg := h.vg
  vr := h.vr
  rg := h.rg
  rr := h.rr
  g0 := h.g0
  v0 := h.v0
  r0 := h.r0
/-! ### Cell -/
def xN (r : Nat) (key : Int) : Nat := ((key % 18446744073709551616) * (2 * r + 3) % 18446744073709551616 + 40503 * r).toNat % 18446744073709551616
def cellN (C r : Nat) (key : Int) : Nat := (xN r key ^^^ xN r key / 128) % C
theorem cellN_lt {C r : Nat} {key : Int} (h : 1 ≤ C) : cellN C r key < C := Nat.mod_lt _ (by omega)
theorem cell_num (C r : Nat) (key : Int) (hC0 : 1 ≤ C) (hC1 : C ≤ 1000) : wrap64 ((bits BinOp.xor IntKind.u64 (IntKind.u64.wrap (IntKind.u64.wrap (IntKind.u64.wrap key * (2 * (r : Int) + 3)) + 40503 * (r : Int))) (IntKind.u64.wrap (IntKind.u64.wrap (IntKind.u64.wrap key * (2 * (r : Int) + 3)) + 40503 * (r : Int)) / 128)).tmod (C : Int)) = (cellN C r key : Int) := by
  have e : IntKind.u64.wrap (IntKind.u64.wrap (IntKind.u64.wrap key * (2 * (r : Int) + 3)) + 40503 * (r : Int)) = (xN r key : Int) := by
    rw [IntKind.wrap_u64, IntKind.wrap_u64, IntKind.wrap_u64]
    unfold xN
    have h := Int.emod_nonneg (key % 18446744073709551616 * (2 * (r : Int) + 3)) (by omega : (18446744073709551616 : Int) ≠ 0)
    generalize key % 18446744073709551616 * (2 * (r : Int) + 3) % 18446744073709551616 = z at *
    omega
  have hx : xN r key < 18446744073709551616 := Nat.mod_lt _ (by omega)
  rw [e, show ((128 : Int)) = ((128 : Nat) : Int) from rfl, xorShift_u64 _ 128 hx, Int.tmod_eq_emod_of_nonneg (by omega)]
  unfold cellN
  generalize xN r key ^^^ xN r key / 128 = y
  have h1 : ((y : Int) % (C : Int)) = ((y % C : Nat) : Int) := by simp
  rw [h1]
  have h2 : y % C < C := Nat.mod_lt _ (by omega)
  unfold wrap64
  omega
set_option maxRecDepth 20000 in
set_option maxHeartbeats 2000000 in
theorem cell_yes (g : Nat) (v : Value) (C R r : Nat) (key : Int) (w : World) (c0 : w.cell? ⟨g, 0, none⟩ = some (.int .i64 C)) (c1 : w.cell? ⟨g, 1, none⟩ = some v) (hv : ∃ x cap, v = .slice x R cap) (hr : r < R) (hR : R ≤ 8) (hC0 : 1 ≤ C) (hC1 : C ≤ 1000) :
    Calls Tryd.prog 14 #[.pointer (some ⟨g, 0, none⟩), .int .i64 r, .int .i64 key] w fun e w' => e = .returned (.int .i64 (cellN C r key)) ∧ w' = w := by
  have HN : Hid (wrap64 ((bits BinOp.xor IntKind.u64 (IntKind.u64.wrap (IntKind.u64.wrap (IntKind.u64.wrap key * (2 * (r : Int) + 3)) + 40503 * (r : Int))) (IntKind.u64.wrap (IntKind.u64.wrap (IntKind.u64.wrap key * (2 * (r : Int) + 3)) + 40503 * (r : Int)) / 128)).tmod (C : Int)) = (cellN C r key : Int)) := cell_num C r key hC0 hC1
  obtain ⟨x, cap, rfl⟩ := hv
  go_enter Tryd.func14, Tryd.ntmps14
  have h0 : ¬ (r : Int) < 0 := by omega
  have h1 : ¬ (R : Int) ≤ r := by omega
  go_wp2
  go_ret
  exact ⟨by rw [← HN.out]; rfl, rfl⟩
end Go.Proofs.YtkmbnklfaaopaaaDoor
