/-
  sketch.Grid: Cell, Guess and Merge where there is no grid, no such row or another size; millraceref.Cell: the same cell. Conditions: a grid lies in memory.
-/
import Derived.Test.YtkmbnklfaaopaaaDoorGd4
namespace Go.Proofs.YtkmbnklfaaopaaaDoor
open Go.RowKit Go.Extern.Stop Go.Stop Go.Extern

theorem cell_nil (r key : Int) (w : World) : Calls Tryd.prog 14 #[.pointer none, .int .i64 r, .int .i64 key] w fun e w' => e = .returned (.int .i64 (-1)) ∧ w' = w := by
  go_enter Tryd.func14, Tryd.ntmps14
  go_wp2
  go_ret
  exact ⟨rfl, rfl⟩
theorem guess_nil (key : Int) (w : World) : Calls Tryd.prog 13 #[.pointer none, .int .i64 key] w fun e w' => e = .returned (.int .i64 0) ∧ w' = w := by
  go_enter Tryd.func13, Tryd.ntmps13
  go_wp2
  go_ret
  exact ⟨rfl, rfl⟩
theorem cell_below (g : Nat) (key : Int) (w : World) : Calls Tryd.prog 14 #[.pointer (some ⟨g, 0, none⟩), .int .i64 (-1), .int .i64 key] w fun e w' => e = .returned (.int .i64 (-1)) ∧ w' = w := by
  go_enter Tryd.func14, Tryd.ntmps14
  go_wp2
  go_ret
  exact ⟨rfl, rfl⟩
theorem cell_beyond (g R cap : Nat) (x : Option Addr) (key : Int) (w : World) (c1 : w.cell? ⟨g, 1, none⟩ = some (.slice x R cap)) : Calls Tryd.prog 14 #[.pointer (some ⟨g, 0, none⟩), .int .i64 R, .int .i64 key] w fun e w' => e = .returned (.int .i64 (-1)) ∧ w' = w := by
  have h0 : ¬ (R : Int) < 0 := by omega
  go_enter Tryd.func14, Tryd.ntmps14
  go_wp2
  go_ret
  exact ⟨rfl, rfl⟩
theorem merge_nil (g : Nat) (w : World) : Calls Tryd.prog 17 #[.pointer (some ⟨g, 0, none⟩), .pointer none] w fun e w' => e = .returned (.iface 24 (.int .i64 7)) ∧ w' = w := by
  go_enter Tryd.func17, Tryd.ntmps17
  go_wp2
  go_ret
  exact ⟨rfl, rfl⟩
set_option maxRecDepth 20000 in
set_option maxHeartbeats 2000000 in
theorem merge_form (g o : Nat) (x y : Option Addr) (R C D cap ycap : Nat) (w : World) (c0 : w.cell? ⟨g, 0, none⟩ = some (.int .i64 C)) (c1 : w.cell? ⟨g, 1, none⟩ = some (.slice x R cap)) (d0 : w.cell? ⟨o, 0, none⟩ = some (.int .i64 D)) (d1 : w.cell? ⟨o, 1, none⟩ = some (.slice y R ycap)) (hne : C ≠ D) :
    Calls Tryd.prog 17 #[.pointer (some ⟨g, 0, none⟩), .pointer (some ⟨o, 0, none⟩)] w fun e w' => e = .returned (.iface 24 (.int .i64 3)) ∧ ∃ q, w' = w.drewN q := by
  have h1 : ((R : Int) != (R : Int)) = false := by simp
  have h2 : ((C : Int) != (D : Int)) = true := by simp; omega
  go_enter Tryd.func17, Tryd.ntmps17
  go_wp2
  go_quiet (fail)
  go_wp2
  go_ret
  exact ⟨rfl, _, rfl⟩
theorem div128 (x : Int) : IntKind.u64.wrap ((IntKind.u64.wrap x).tdiv 128) = IntKind.u64.wrap x / 128 := by
  rw [IntKind.wrap_u64, IntKind.wrap_u64, Int.tdiv_eq_ediv_of_nonneg (by omega)]
  omega
set_option maxRecDepth 20000 in
set_option maxHeartbeats 2000000 in
theorem rcell_any (C r : Nat) (key : Int) (w : World) (hr : r < 8) (hC0 : 1 ≤ C) (hC1 : C ≤ 1000) : Calls Tryd.prog 16 #[.int .i64 C, .int .i64 r, .int .i64 key] w fun e w' => e = .returned (.int .i64 (cellN C r key)) ∧ w' = w := by
  have HN : Hid (wrap64 ((bits BinOp.xor IntKind.u64 (IntKind.u64.wrap (IntKind.u64.wrap (IntKind.u64.wrap key * (2 * (r : Int) + 3)) + 40503 * (r : Int))) (IntKind.u64.wrap (IntKind.u64.wrap (IntKind.u64.wrap key * (2 * (r : Int) + 3)) + 40503 * (r : Int)) / 128)).tmod (C : Int)) = (cellN C r key : Int)) := cell_num C r key hC0 hC1
  have HD : Hid (IntKind.u64.wrap ((IntKind.u64.wrap (IntKind.u64.wrap (IntKind.u64.wrap key * (2 * (r : Int) + 3)) + 40503 * (r : Int))).tdiv 128) = IntKind.u64.wrap (IntKind.u64.wrap (IntKind.u64.wrap key * (2 * (r : Int) + 3)) + 40503 * (r : Int)) / 128) := div128 _
  have hCz : ¬ (C : Int) = 0 := by omega
  have e0 : IntKind.i64.wrap (2 * (r : Int)) = 2 * r := by rw [IntKind.wrap_i64]; omega
  have e1 : IntKind.i64.wrap (2 * (r : Int) + 3) = 2 * r + 3 := by rw [IntKind.wrap_i64]; omega
  have e2 : IntKind.i64.wrap (40503 * (r : Int)) = 40503 * r := by rw [IntKind.wrap_i64]; omega
  have e3 : IntKind.u64.wrap (2 * (r : Int) + 3) = 2 * r + 3 := by rw [IntKind.wrap_u64]; omega
  have e4 : IntKind.u64.wrap (40503 * (r : Int)) = 40503 * r := by rw [IntKind.wrap_u64]; omega
  have e5 : IntKind.u64.wrap (C : Int) = C := by rw [IntKind.wrap_u64]; omega
  go_enter Tryd.func16, Tryd.ntmps16
  go_wp2
  go_ret
  refine ⟨?_, rfl⟩
  rw [← HN.out, ← HD.out]
  rfl
/-- How many of the first k keys have the cell c in row r. -/
def cntM (C : Nat) (f : Nat → Int) : Nat → Nat → Nat → Int
  | 0, _, _ => 0
  | k + 1, r, c => cntM C f k r c + if c = cellN C r (f k) then 1 else 0
theorem cntM_bd (C : Nat) (f : Nat → Int) (r c : Nat) : ∀ k, 0 ≤ cntM C f k r c ∧ cntM C f k r c ≤ k
  | 0 => ⟨Int.le_refl _, Int.le_refl _⟩
  | k + 1 => by have := cntM_bd C f r c k; simp only [cntM]; split <;> omega
theorem addM_cnt (C : Nat) (f : Nat → Int) (R k r c : Nat) (hr : r < R) : addM C (f k) R (cntM C f k) r c = cntM C f (k + 1) r c := by
  unfold addM
  simp only [cntM]
  by_cases e : c = cellN C r (f k)
  · rw [if_pos ⟨hr, e⟩, if_pos e]
  · rw [if_neg (fun h => e h.2), if_neg e]; omega
/-- The least of n and the key's cells of the first k rows. -/
def gsL (C : Nat) (f : Nat → Int) (n : Nat) (key : Int) : Nat → Int
  | 0 => n
  | k + 1 => min (gsL C f n key k) (cntM C f n k (cellN C k key))
theorem gsL_eq (C : Nat) (f : Nat → Int) (n : Nat) (key : Int) : ∀ k, gsL C f n key (k + 1) = gsM C key (cntM C f n) (k + 1)
  | 0 => by
    have := (cntM_bd C f 0 (cellN C 0 key) n).2
    simp only [gsL, gsM]; omega
  | k + 1 => by
    have := gsL_eq C f n key k
    show min (gsL C f n key (k + 1)) _ = min (gsM C key (cntM C f n) (k + 1)) _
    rw [this]
theorem gsL_bd (C : Nat) (f : Nat → Int) (n : Nat) (key : Int) : ∀ k, 0 ≤ gsL C f n key k ∧ gsL C f n key k ≤ n
  | 0 => by simp only [gsL]; omega
  | k + 1 => by
    have := gsL_bd C f n key k
    have := cntM_bd C f k (cellN C k key) n
    simp only [gsL]; omega
end Go.Proofs.YtkmbnklfaaopaaaDoor
