/-
  The reference's Meant, kind by kind. Conditions: the filter lies in memory. Written by wip/mkrq1.py.
-/
import Derived.Test.YtibecinojkkjpaaDoorSg
import Derived.Test.YtibecinojkkjpaaDoorRq0
import Derived.Deep.RegionHeld3
namespace Go.Proofs.YtibecinojkkjpaaDoor
open Go.RowKit Go.Extern.Stop Go.Stop Go.Extern

theorem cells5 {w : World} {b : Nat} {v0 v1 v2 v3 v4 : Value} {T : TypeId} (hb : w.heap[b]? = some (.cells #[v0, v1, v2, v3, v4] T (0, 0))) : w.cell? ⟨b, 0, none⟩ = some v0 ∧ w.cell? ⟨b, 1, none⟩ = some v1 ∧ w.cell? ⟨b, 2, none⟩ = some v2 ∧ w.cell? ⟨b, 3, none⟩ = some v3 ∧ w.cell? ⟨b, 4, none⟩ = some v4 := by
  refine ⟨?_, ?_, ?_, ?_, ?_⟩
  all_goals simp [World.cell?, hb]
theorem cell_lt1 {w : World} {a : Addr} {v : Value} (h : w.cell? a = some v) : a.block < w.heap.size := by
  rcases Nat.lt_or_ge a.block w.heap.size with h1 | h1
  · exact h1
  · simp [World.cell?, Array.getElem?_eq_none h1] at h
theorem fld_cell (x : It) {f : Nat} (hf : f < 5) (w : World) (B : Nat) (T : TypeId) (hB : w.heap.size = B) : (w.alloc (.cells #[.int .i64 x.a, .int .i64 x.l, .int .i64 x.f, .int .i64 x.b, .int .i64 x.m] T)).cell? ⟨B, f, none⟩ = some (.int .i64 (fld x f)) := by
  subst hB
  obtain ⟨c0, c1, c2, c3, c4⟩ := cells5 (new_block w (.cells #[.int .i64 x.a, .int .i64 x.l, .int .i64 x.f, .int .i64 x.b, .int .i64 x.m] T))
  rcases (by omega : f = 0 ∨ f = 1 ∨ f = 2 ∨ f = 3 ∨ f = 4) with rfl | rfl | rfl | rfl | rfl
  · exact c0
  · exact c1
  · exact c2
  · exact c3
  · exact c4
set_option maxRecDepth 100000 in
set_option maxHeartbeats 4000000 in
theorem rm_any (x : It) (b f : Nat) (hf : f < 5) (lo hi : Int) (sl : Value) (w1 : World) (hb : w1.heap[b]? = some (.cells #[.string ⟨#[97, 110, 121]⟩, .int .i64 f, .int .i64 lo, .int .i64 hi, sl] 65 (0, 0))) :
    Calls Tryd.prog 7 #[.pointer (some ⟨b, 0, none⟩), .agg #[.int .i64 x.a, .int .i64 x.l, .int .i64 x.f, .int .i64 x.b, .int .i64 x.m]] w1 fun e w' => e = .returned (.bool true) ∧ Below w1.heap.size w1 w' := by
  have hcc := fld_cell x hf (w1.alloc (.cells #[.int .i64 x.a, .int .i64 x.l, .int .i64 x.f, .int .i64 x.b, .int .i64 x.m] 23)) (w1.heap.size + 1) 3 (by simp)
  generalize fld x f = q at *
  obtain ⟨xa, xl, xf, xb, xm⟩ := x
  simp only at hcc ⊢
  obtain ⟨c0, c1, c2, c3, c4⟩ := cells5 hb
  have hbl : b < w1.heap.size := lt_of_block hb
  have hf1 : (f : Int) < 5 := by omega
  go_enter Tryd.func7, Tryd.ntmps7
  go_upto_region 1 with (fail)
  go_cut [5] (fun v wx => v = .int .i64 q ∧ Below (w1.alloc (.cells #[.int .i64 xa, .int .i64 xl, .int .i64 xf, .int .i64 xb, .int .i64 xm] 23)).heap.size (w1.alloc (.cells #[.int .i64 xa, .int .i64 xl, .int .i64 xf, .int .i64 xb, .int .i64 xm] 23)) wx)
  case first =>
    go_wp2
    go_region
    all_goals go_wp2
    all_goals
      go_meet
      case rel =>
        refine ⟨rfl, ?_⟩
        repeat' (first | with_reducible exact Below.refl _ _ | with_reducible refine Below.drew ?_ | with_reducible refine below_alloc_ ?_ _)
  case rest =>
  obtain ⟨rfl, hbe0⟩ := hcut
  have hbA : Below w1.heap.size w1 (w1.alloc (.cells #[.int .i64 xa, .int .i64 xl, .int .i64 xf, .int .i64 xb, .int .i64 xm] 23)) := below_alloc_ (Below.refl _ _) _
  have hbe := hbA.trans (hbe0.mono hbA.size)
  have hbw := (hbe.block b hbl).trans hb
  have kx := (hbe0.block w1.heap.size (by simp)).trans (new_block w1 (.cells #[.int .i64 xa, .int .i64 xl, .int .i64 xf, .int .i64 xb, .int .i64 xm] 23))
  obtain ⟨e0, e1, e2, e3, e4⟩ := cells5 hbw
  clear hcc hbe0 hbA c0 c1 c2 c3 c4
  go_wp2
  go_ret
  exact ⟨rfl, hbe⟩
set_option maxRecDepth 100000 in
set_option maxHeartbeats 4000000 in
theorem rm_test (x : It) (b f : Nat) (hf : f < 5) (lo hi : Int) (sl : Value) (w1 : World) (hb : w1.heap[b]? = some (.cells #[.string ⟨#[116, 101, 115, 116]⟩, .int .i64 f, .int .i64 lo, .int .i64 hi, sl] 65 (0, 0))) :
    Calls Tryd.prog 7 #[.pointer (some ⟨b, 0, none⟩), .agg #[.int .i64 x.a, .int .i64 x.l, .int .i64 x.f, .int .i64 x.b, .int .i64 x.m]] w1 fun e w' => e = .returned (.bool (decide (lo ≤ fld x f) && decide (fld x f ≤ hi))) ∧ Below w1.heap.size w1 w' := by
  have hcc := fld_cell x hf (w1.alloc (.cells #[.int .i64 x.a, .int .i64 x.l, .int .i64 x.f, .int .i64 x.b, .int .i64 x.m] 23)) (w1.heap.size + 1) 3 (by simp)
  generalize fld x f = q at *
  obtain ⟨xa, xl, xf, xb, xm⟩ := x
  simp only at hcc ⊢
  obtain ⟨c0, c1, c2, c3, c4⟩ := cells5 hb
  have hbl : b < w1.heap.size := lt_of_block hb
  have hf1 : (f : Int) < 5 := by omega
  go_enter Tryd.func7, Tryd.ntmps7
  go_upto_region 1 with (fail)
  go_cut [5] (fun v wx => v = .int .i64 q ∧ Below (w1.alloc (.cells #[.int .i64 xa, .int .i64 xl, .int .i64 xf, .int .i64 xb, .int .i64 xm] 23)).heap.size (w1.alloc (.cells #[.int .i64 xa, .int .i64 xl, .int .i64 xf, .int .i64 xb, .int .i64 xm] 23)) wx)
  case first =>
    go_wp2
    go_region
    all_goals go_wp2
    all_goals
      go_meet
      case rel =>
        refine ⟨rfl, ?_⟩
        repeat' (first | with_reducible exact Below.refl _ _ | with_reducible refine Below.drew ?_ | with_reducible refine below_alloc_ ?_ _)
  case rest =>
  obtain ⟨rfl, hbe0⟩ := hcut
  have hbA : Below w1.heap.size w1 (w1.alloc (.cells #[.int .i64 xa, .int .i64 xl, .int .i64 xf, .int .i64 xb, .int .i64 xm] 23)) := below_alloc_ (Below.refl _ _) _
  have hbe := hbA.trans (hbe0.mono hbA.size)
  have hbw := (hbe.block b hbl).trans hb
  have kx := (hbe0.block w1.heap.size (by simp)).trans (new_block w1 (.cells #[.int .i64 xa, .int .i64 xl, .int .i64 xf, .int .i64 xb, .int .i64 xm] 23))
  obtain ⟨e0, e1, e2, e3, e4⟩ := cells5 hbw
  clear hcc hbe0 hbA c0 c1 c2 c3 c4
  by_cases h1 : lo ≤ q
  · have d1 : decide (lo ≤ q) = true := by simpa using h1
    clear h1
    go_wp2
    go_ret
    exact ⟨by rw [d1]; rfl, hbe⟩
  · have d1 : decide (lo ≤ q) = false := by simpa using h1
    clear h1
    go_wp2
    go_ret
    exact ⟨by rw [d1]; rfl, hbe⟩
end Go.Proofs.YtibecinojkkjpaaDoor
