/-
  package htb: which offer goes ahead. Conditions: the tree lies in memory as its state tells.
-/
import Derived.Test.YtpgdocmpbeabpaaDoorZt5
import Derived.Deep.RegionHeld3
namespace Go.Proofs.YtpgdocmpbeabpaaDoor
open Go.RowKit Go.Extern.Stop Go.Stop Go.Extern

def cmpI (x y : Int) : Int := if x < y then -1 else if y < x then 1 else 0
theorem nan_any (x : Int) (w : World) : Calls Tryd.prog 58 #[.int .i64 x] w fun e w' => e = .returned (.bool false) ∧ w' = w := by
  go_enter Tryd.func58, Tryd.ntmps58
  go_wp2
  go_ret
  exact ⟨rfl, rfl⟩
theorem compare_any (x y : Int) (w : World) : Calls Tryd.prog 52 #[.int .i64 x, .int .i64 y] w fun e w' => e = .returned (.int .i64 (cmpI x y)) ∧ w' = w := by
  by_cases h : x < y
  · have e1 : cmpI x y = -1 := if_pos h
    go_enter Tryd.func52, Tryd.ntmps52
    go_wp2_with fail
    refine (nan_any x w).mono ?_
    rintro e w' ⟨rfl, rfl⟩
    go_wp2_with fail
    refine (nan_any y w').mono ?_
    rintro e w ⟨rfl, rfl⟩
    go_wp2
    go_ret
    exact ⟨by rw [e1]; rfl, rfl⟩
  · by_cases h2 : y < x
    · have e1 : cmpI x y = 1 := by unfold cmpI; rw [if_neg h, if_pos h2]
      go_enter Tryd.func52, Tryd.ntmps52
      go_wp2_with fail
      refine (nan_any x w).mono ?_
      rintro e w' ⟨rfl, rfl⟩
      go_wp2_with fail
      refine (nan_any y w').mono ?_
      rintro e w ⟨rfl, rfl⟩
      go_wp2
      go_ret
      exact ⟨by rw [e1]; rfl, rfl⟩
    · have e1 : cmpI x y = 0 := by unfold cmpI; rw [if_neg h, if_neg h2]
      go_enter Tryd.func52, Tryd.ntmps52
      go_wp2_with fail
      refine (nan_any x w).mono ?_
      rintro e w' ⟨rfl, rfl⟩
      go_wp2_with fail
      refine (nan_any y w').mono ?_
      rintro e w ⟨rfl, rfl⟩
      go_wp2
      go_ret
      exact ⟨by rw [e1]; rfl, rfl⟩
def or3 (a b c : Int) : Int := if a = 0 then (if b = 0 then c else b) else a
theorem cell_three0 {V : World} {b : Nat} {v0 v1 v2 : Value} {t : TypeId} (h : b = V.heap.size) : (V.alloc (.cells #[v0, v1, v2] t)).cell? ⟨b, 0, none⟩ = some v0 := by subst h; simp
theorem cell_three1 {V : World} {b : Nat} {v0 v1 v2 : Value} {t : TypeId} (h : b = V.heap.size) : (V.alloc (.cells #[v0, v1, v2] t)).cell? ⟨b, 1, none⟩ = some v1 := by subst h; simp
theorem cell_three2 {V : World} {b : Nat} {v0 v1 v2 : Value} {t : TypeId} (h : b = V.heap.size) : (V.alloc (.cells #[v0, v1, v2] t)).cell? ⟨b, 2, none⟩ = some v2 := by subst h; simp
theorem or3_any (a b c : Int) (bl : Nat) (w : World) (h0 : w.cell? ⟨bl, 0, none⟩ = some (.int .i64 a)) (h1 : w.cell? ⟨bl, 1, none⟩ = some (.int .i64 b)) (h2 : w.cell? ⟨bl, 2, none⟩ = some (.int .i64 c)) :
    Calls Tryd.prog 51 #[.slice (some ⟨bl, 0, none⟩) 3 3] w fun e w' => e = .returned (.int .i64 (or3 a b c)) ∧ w' = w := by
  go_enter Tryd.func51, Tryd.ntmps51
  go_wp2
  by_cases ha : a = 0
  · subst ha
    by_cases hb : b = 0
    · subst hb
      by_cases hc : c = 0
      · subst hc
        refine wp_loop_rounds 4 ?_
        rw [rounds_succ]; go_wp2
        rw [rounds_succ]; go_wp2
        rw [rounds_succ]; go_wp2
        rw [rounds_succ]; go_wp2
        go_ret
        exact ⟨rfl, rfl⟩
      · have hc' : (c == 0) = false := by simpa using hc
        refine wp_loop_rounds 3 ?_
        rw [rounds_succ]; go_wp2
        rw [rounds_succ]; go_wp2
        rw [rounds_succ]; go_wp2
        go_ret
        exact ⟨rfl, rfl⟩
    · have hb' : (b == 0) = false := by simpa using hb
      refine wp_loop_rounds 2 ?_
      rw [rounds_succ]; go_wp2
      rw [rounds_succ]; go_wp2
      go_ret
      exact ⟨by unfold or3; rw [if_pos rfl, if_neg hb]; rfl, rfl⟩
  · have ha' : (a == 0) = false := by simpa using ha
    refine wp_loop_rounds 1 ?_
    rw [rounds_succ]; go_wp2
    go_ret
    exact ⟨by unfold or3; rw [if_neg ha]; rfl, rfl⟩
/-- Whether an offer goes ahead of another one. -/
def aheadB (K : HtK) (s : HtS) (a b : Ofr) : Bool := decide (or3 (cmpI a.steps b.steps) (cmpI (K.cls a.leaf).pr (K.cls b.leaf).pr) (cmpI (s.nd a.leaf).sent (s.nd b.leaf).sent) < 0)
theorem below_allocZ {B : Nat} {a w : World} (h : Below B a w) (o : Obj) (hB : B ≤ w.heap.size) : Below B a (w.alloc o) := h.alloc hB o
set_option maxRecDepth 20000 in
set_option maxHeartbeats 2000000 in
theorem ahead_ht {K : HtK} {s : HtS} {vs : Nat → Value} {ow : Nat → Nat × Nat} (a b : Ofr) (ha : a.leaf < K.N) (hb : b.leaf < K.N) (W : World) (h : HtAt K W s vs ow) :
    Calls Tryd.prog 43 #[.agg #[.pointer (some ⟨K.nb a.leaf, 0, none⟩), .pointer (some ⟨K.nb a.lend, 0, none⟩), .int .i64 a.steps], .agg #[.pointer (some ⟨K.nb b.leaf, 0, none⟩), .pointer (some ⟨K.nb b.lend, 0, none⟩), .int .i64 b.steps]] W fun e w' => e = .returned (.bool (aheadB K s a b)) ∧ Below W.heap.size W w' := by
  have ca7 : W.cell? ⟨K.nb a.leaf, 7, none⟩ = some (.int .i64 (K.cls a.leaf).pr) := (h.cells ha 7 (by omega)).1
  have ca14 : W.cell? ⟨K.nb a.leaf, 14, none⟩ = some (.int .i64 (s.nd a.leaf).sent) := (h.cells ha 14 (by omega)).1
  have cb7 : W.cell? ⟨K.nb b.leaf, 7, none⟩ = some (.int .i64 (K.cls b.leaf).pr) := (h.cells hb 7 (by omega)).1
  have cb14 : W.cell? ⟨K.nb b.leaf, 14, none⟩ = some (.int .i64 (s.nd b.leaf).sent) := (h.cells hb 14 (by omega)).1
  have hla := (h.node a.leaf ha).blk.lt
  have hlb := (h.node b.leaf hb).blk.lt
  have HR : Hid (aheadB K s a b = decide (or3 (cmpI a.steps b.steps) (cmpI (K.cls a.leaf).pr (K.cls b.leaf).pr) (cmpI (s.nd a.leaf).sent (s.nd b.leaf).sent) < 0)) := rfl
  obtain ⟨R, hR⟩ : ∃ R, aheadB K s a b = R := ⟨_, rfl⟩
  rw [hR] at HR ⊢
  generalize (K.cls a.leaf).pr = pa at *
  generalize (K.cls b.leaf).pr = pb at *
  generalize (s.nd a.leaf).sent = sa at *
  generalize (s.nd b.leaf).sent = sb at *
  clear h hR
  go_enter Tryd.func43, Tryd.ntmps43
  go_wp2_with fail
  have HKK : Hid (∀ V, Below ((W.alloc (.cells #[.pointer (some ⟨K.nb a.leaf, 0, none⟩), .pointer (some ⟨K.nb a.lend, 0, none⟩), .int .i64 a.steps] 98)).alloc (.cells #[.pointer (some ⟨K.nb b.leaf, 0, none⟩), .pointer (some ⟨K.nb b.lend, 0, none⟩), .int .i64 b.steps] 98)).heap.size ((W.alloc (.cells #[.pointer (some ⟨K.nb a.leaf, 0, none⟩), .pointer (some ⟨K.nb a.lend, 0, none⟩), .int .i64 a.steps] 98)).alloc (.cells #[.pointer (some ⟨K.nb b.leaf, 0, none⟩), .pointer (some ⟨K.nb b.lend, 0, none⟩), .int .i64 b.steps] 98)) V → V.cell? ⟨W.heap.size, 0, none⟩ = some (.pointer (some ⟨K.nb a.leaf, 0, none⟩)) ∧ V.cell? ⟨W.heap.size, 2, none⟩ = some (.int .i64 a.steps) ∧ V.cell? ⟨W.heap.size + 1, 0, none⟩ = some (.pointer (some ⟨K.nb b.leaf, 0, none⟩)) ∧ V.cell? ⟨W.heap.size + 1, 2, none⟩ = some (.int .i64 b.steps) ∧ V.cell? ⟨K.nb a.leaf, 7, none⟩ = some (.int .i64 pa) ∧ V.cell? ⟨K.nb a.leaf, 14, none⟩ = some (.int .i64 sa) ∧ V.cell? ⟨K.nb b.leaf, 7, none⟩ = some (.int .i64 pb) ∧ V.cell? ⟨K.nb b.leaf, 14, none⟩ = some (.int .i64 sb)) := by
    intro V hV
    have hbV : Below W.heap.size W V := ((below_alloc_ (below_alloc_ (Below.refl _ _) _) _) : Below W.heap.size W ((W.alloc (.cells #[.pointer (some ⟨K.nb a.leaf, 0, none⟩), .pointer (some ⟨K.nb a.lend, 0, none⟩), .int .i64 a.steps] 98)).alloc (.cells #[.pointer (some ⟨K.nb b.leaf, 0, none⟩), .pointer (some ⟨K.nb b.lend, 0, none⟩), .int .i64 b.steps] 98))).trans (hV.mono (by simp; omega))
    refine ⟨?_, ?_, ?_, ?_, (hbV.cell (p := ⟨K.nb a.leaf, 7, none⟩) hla).trans ca7, (hbV.cell (p := ⟨K.nb a.leaf, 14, none⟩) hla).trans ca14, (hbV.cell (p := ⟨K.nb b.leaf, 7, none⟩) hlb).trans cb7, (hbV.cell (p := ⟨K.nb b.leaf, 14, none⟩) hlb).trans cb14⟩
    all_goals
      rw [hV.cell (by simp <;> omega)]
      simp
  have HG : Hid (Below W.heap.size W ((W.alloc (.cells #[.pointer (some ⟨K.nb a.leaf, 0, none⟩), .pointer (some ⟨K.nb a.lend, 0, none⟩), .int .i64 a.steps] 98)).alloc (.cells #[.pointer (some ⟨K.nb b.leaf, 0, none⟩), .pointer (some ⟨K.nb b.lend, 0, none⟩), .int .i64 b.steps] 98))) := below_alloc_ (below_alloc_ (Below.refl _ _) _) _
  generalize (W.alloc (.cells #[.pointer (some ⟨K.nb a.leaf, 0, none⟩), .pointer (some ⟨K.nb a.lend, 0, none⟩), .int .i64 a.steps] 98)).alloc (.cells #[.pointer (some ⟨K.nb b.leaf, 0, none⟩), .pointer (some ⟨K.nb b.lend, 0, none⟩), .int .i64 b.steps] 98) = w0 at *
  have hbl : ∀ V, Below w0.heap.size w0 V → w0.heap.size ≤ V.heap.size := fun V h => h.size
  go_region_held3 (fun V => V.cell? ⟨W.heap.size, 0, none⟩ = some (.pointer (some ⟨K.nb a.leaf, 0, none⟩)) ∧ V.cell? ⟨W.heap.size, 2, none⟩ = some (.int .i64 a.steps) ∧ V.cell? ⟨W.heap.size + 1, 0, none⟩ = some (.pointer (some ⟨K.nb b.leaf, 0, none⟩)) ∧ V.cell? ⟨W.heap.size + 1, 2, none⟩ = some (.int .i64 b.steps) ∧ V.cell? ⟨K.nb a.leaf, 7, none⟩ = some (.int .i64 pa) ∧ V.cell? ⟨K.nb a.leaf, 14, none⟩ = some (.int .i64 sa) ∧ V.cell? ⟨K.nb b.leaf, 7, none⟩ = some (.int .i64 pb) ∧ V.cell? ⟨K.nb b.leaf, 14, none⟩ = some (.int .i64 sb)) ((refine HKK.out _ ?_; (repeat (first | exact Below.refl _ _ | refine Below.drew ?_ | refine below_allocZ ?_ _ (Nat.le_refl _)))))
    (first
      | (go_at_call 52; refine (compare_any _ _ _).mono ?_; rintro e wn ⟨rfl, rfl⟩)
      | (go_at_call 51; refine (or3_any (cmpI a.steps b.steps) (cmpI pa pb) (cmpI sa sb) _ _ (by simp only [World.cell?_drew]; exact cell_three0 rfl) (by simp only [World.cell?_drew]; exact cell_three1 rfl) (by simp only [World.cell?_drew]; exact cell_three2 rfl)).mono ?_; rintro e wn ⟨rfl, rfl⟩))
  go_wp2
  go_ret
  exact ⟨by rw [HR.out]; rfl, by repeat (first | exact HG.out | refine Below.drew ?_ | refine below_alloc_ ?_ _)⟩
end Go.Proofs.YtpgdocmpbeabpaaDoor
