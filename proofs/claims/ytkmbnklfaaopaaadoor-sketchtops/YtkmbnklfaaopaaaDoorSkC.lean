/-
  cmp.Compare, cmp.Or and the closure by which pairs are sorted: what they tell; the closure makes three blocks and leaves all else as it is. No condition.
-/
import Derived.Test.YtkmbnklfaaopaaaDoorSkM
import Derived.Shelf.GgSortFunc.InsertionK
namespace Go.Proofs.YtkmbnklfaaopaaaDoor
open Go.RowKit Go.Extern.Stop Go.Stop Go.Extern

def cmpI (x y : Int) : Int := if x < y then -1 else if y < x then 1 else 0
theorem nan_any (x : Int) (w : World) : Calls Tryd.prog 32 #[.int .i64 x] w fun e w' => e = .returned (.bool false) ∧ w' = w := by
  go_enter Tryd.func32, Tryd.ntmps32
  go_wp2
  go_ret
  exact ⟨rfl, rfl⟩
theorem compare_any (x y : Int) (w : World) : Calls Tryd.prog 28 #[.int .i64 x, .int .i64 y] w fun e w' => e = .returned (.int .i64 (cmpI x y)) ∧ w' = w := by
  by_cases h : x < y
  · have e1 : cmpI x y = -1 := if_pos h
    go_enter Tryd.func28, Tryd.ntmps28
    go_wp2_with fail
    refine (nan_any x w).mono ?_
    rintro e w' ⟨rfl, rfl⟩
    go_wp2_with fail
    refine (nan_any y w').mono ?_
    rintro e w ⟨rfl, rfl⟩
    go_wp2
    go_ret
    exact ⟨by rw [e1]; rfl, rfl⟩
  · by_cases h2 : y < x
    · have e1 : cmpI x y = 1 := by unfold cmpI; rw [if_neg h, if_pos h2]
      go_enter Tryd.func28, Tryd.ntmps28
      go_wp2_with fail
      refine (nan_any x w).mono ?_
      rintro e w' ⟨rfl, rfl⟩
      go_wp2_with fail
      refine (nan_any y w').mono ?_
      rintro e w ⟨rfl, rfl⟩
      go_wp2
      go_ret
      exact ⟨by rw [e1]; rfl, rfl⟩
    · have e1 : cmpI x y = 0 := by unfold cmpI; rw [if_neg h, if_neg h2]
      go_enter Tryd.func28, Tryd.ntmps28
      go_wp2_with fail
      refine (nan_any x w).mono ?_
      rintro e w' ⟨rfl, rfl⟩
      go_wp2_with fail
      refine (nan_any y w').mono ?_
      rintro e w ⟨rfl, rfl⟩
      go_wp2
      go_ret
      exact ⟨by rw [e1]; rfl, rfl⟩
def orI (a b : Int) : Int := if a = 0 then b else a
theorem cell_two0 {V : World} {b : Nat} {v0 v1 : Value} {t : TypeId} (h : b = V.heap.size) : (V.alloc (.cells #[v0, v1] t)).cell? ⟨b, 0, none⟩ = some v0 := by subst h; simp
theorem cell_two1 {V : World} {b : Nat} {v0 v1 : Value} {t : TypeId} (h : b = V.heap.size) : (V.alloc (.cells #[v0, v1] t)).cell? ⟨b, 1, none⟩ = some v1 := by subst h; simp
theorem or2_any (a b : Int) (bl : Nat) (w : World) (h0 : w.cell? ⟨bl, 0, none⟩ = some (.int .i64 a)) (h1 : w.cell? ⟨bl, 1, none⟩ = some (.int .i64 b)) :
    Calls Tryd.prog 27 #[.slice (some ⟨bl, 0, none⟩) 2 2] w fun e w' => e = .returned (.int .i64 (orI a b)) ∧ w' = w := by
  go_enter Tryd.func27, Tryd.ntmps27
  go_wp2
  by_cases ha : a = 0
  · subst ha
    by_cases hb : b = 0
    · subst hb
      refine wp_loop_rounds 3 ?_
      rw [rounds_succ]; go_wp2
      rw [rounds_succ]; go_wp2
      rw [rounds_succ]; go_wp2
      go_ret
      exact ⟨rfl, rfl⟩
    · have hb' : (b == 0) = false := by simpa using hb
      refine wp_loop_rounds 2 ?_
      rw [rounds_succ]; go_wp2
      rw [rounds_succ]; go_wp2
      go_ret
      exact ⟨rfl, rfl⟩
  · have ha' : (a == 0) = false := by simpa using ha
    refine wp_loop_rounds 1 ?_
    rw [rounds_succ]; go_wp2
    go_ret
    exact ⟨by unfold orI; rw [if_neg ha]; rfl, rfl⟩
/-- How pairs are held against each other: key and how many. -/
def pairC (x y : Int × Int) : Int := orI (cmpI y.2 x.2) (cmpI x.1 y.1)
/-- Blocks and draws behind a world. -/
def Grw (w w' : World) : Prop := ∃ q os', w' = Go.Sort.grow (w.drewN q) os'
theorem Grw.refl (w : World) : Grw w w := ⟨0, #[], by simp [Go.Sort.grow, World.drewN]⟩
theorem Grw.alloc {w w' : World} (h : Grw w w') (o : Obj) : Grw w (w'.alloc o) := by
  obtain ⟨q, os, rfl⟩ := h
  exact ⟨q, os ++ #[o], by rw [Go.Sort.alloc_eq_grow, Go.Sort.grow_grow]⟩
theorem Grw.drew {w w' : World} (h : Grw w w') : Grw w w'.drew := by
  obtain ⟨q, os, rfl⟩ := h
  exact ⟨q + 1, os, rfl⟩
theorem Grw.drewN {w w' : World} (h : Grw w w') (k : Nat) : Grw w (w'.drewN k) := by
  obtain ⟨q, os, rfl⟩ := h
  exact ⟨q + k, os, by simp [Go.Sort.grow, World.drewN, Nat.add_assoc]⟩
theorem below_alloc1 {B : Nat} {a w : World} (h : Below B a w) (o : Obj) (hB : B ≤ w.heap.size) : Below B a (w.alloc o) := h.alloc hB o
set_option maxRecDepth 20000 in
set_option maxHeartbeats 2000000 in
theorem pairC_any (x y : Int × Int) (W : World) : Calls Tryd.prog 26 #[.agg #[.int .i64 x.1, .int .i64 x.2], .agg #[.int .i64 y.1, .int .i64 y.2]] W fun e w' => e = .returned (.int .i64 (pairC x y)) ∧ Grw W w' := by
  go_enter Tryd.func26, Tryd.ntmps26
  go_wp2_with fail
  have HK : Hid (∀ V, Below ((W.alloc (.cells #[.int .i64 x.1, .int .i64 x.2] 57)).alloc (.cells #[.int .i64 y.1, .int .i64 y.2] 57)).heap.size ((W.alloc (.cells #[.int .i64 x.1, .int .i64 x.2] 57)).alloc (.cells #[.int .i64 y.1, .int .i64 y.2] 57)) V → V.cell? ⟨W.heap.size, 0, none⟩ = some (.int .i64 x.1) ∧ V.cell? ⟨W.heap.size, 1, none⟩ = some (.int .i64 x.2) ∧ V.cell? ⟨W.heap.size + 1, 0, none⟩ = some (.int .i64 y.1) ∧ V.cell? ⟨W.heap.size + 1, 1, none⟩ = some (.int .i64 y.2)) := by
    intro V hV
    refine ⟨?_, ?_, ?_, ?_⟩
    all_goals
      rw [hV.cell (by simp <;> omega)]
      simp
  have HG : Hid (Grw W ((W.alloc (.cells #[.int .i64 x.1, .int .i64 x.2] 57)).alloc (.cells #[.int .i64 y.1, .int .i64 y.2] 57))) := ((Grw.refl W).alloc _).alloc _
  generalize (W.alloc (.cells #[.int .i64 x.1, .int .i64 x.2] 57)).alloc (.cells #[.int .i64 y.1, .int .i64 y.2] 57) = w0 at *
  obtain ⟨c0, c1, d0, d1⟩ := HK.out _ (Below.refl _ _)
  go_region_held3 (fun V => V.cell? ⟨W.heap.size, 0, none⟩ = some (.int .i64 x.1) ∧ V.cell? ⟨W.heap.size, 1, none⟩ = some (.int .i64 x.2) ∧ V.cell? ⟨W.heap.size + 1, 0, none⟩ = some (.int .i64 y.1) ∧ V.cell? ⟨W.heap.size + 1, 1, none⟩ = some (.int .i64 y.2)) ((refine HK.out _ ?_; (repeat (first | exact Below.refl _ _ | refine Below.drew ?_ | refine below_alloc1 ?_ _ (Nat.le_refl _)))))
    (first
      | (go_at_call 28; refine (compare_any _ _ _).mono ?_; rintro e wn ⟨rfl, rfl⟩)
      | (go_at_call 27; refine (or2_any (cmpI y.2 x.2) (cmpI x.1 y.1) _ _ (by simp only [World.cell?_drew]; exact cell_two0 rfl) (by simp only [World.cell?_drew]; exact cell_two1 rfl)).mono ?_; rintro e wn ⟨rfl, rfl⟩))
  go_wp2
  go_ret
  exact ⟨rfl, by repeat (first | exact HG.out | refine Grw.drew ?_ | refine Grw.drewN ?_ _ | refine Grw.alloc ?_ _)⟩
end Go.Proofs.YtkmbnklfaaopaaaDoor
