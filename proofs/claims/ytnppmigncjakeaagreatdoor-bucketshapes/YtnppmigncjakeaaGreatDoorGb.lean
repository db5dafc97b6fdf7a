/-
  millracekeep.listed is true: of two packets in order List tells nothing, of the same two the other way round it tells ErrOrder. Conditions: errors.errorType holds its handle.
  plain.Place: of nil 0 and -1, of an Errno its number and -1, of an At its error and its place; nothing that was there before is otherwise. Conditions: errors.errorType holds its handle.
  plain.Place of any error value that ErrIs tells. Conditions: errors.errorType holds its handle.
  millraceref.ItemCheck, Bare, ListCheck and millracelaw.at, bare: what each returns at every argument, and that nothing that was there before is otherwise. Conditions: errors.errorType and millraceref.Fine hold what the program's text lays; the packets lie in memory.
-/
import Derived.Test.YtnppmigncjakeaaGreatDoorGa
import Derived.Test.YtnppmigncjakeaaGreatDoorErrs
namespace Go.Proofs.YtnppmigncjakeaaGreatDoor
open Go.RowKit Go.Extern.Stop Go.Stop Go.Extern

theorem items_two (W : World) (x y : It) : Items (W.alloc (.cells #[.int .i64 x.a, .int .i64 x.l, .int .i64 x.f, .int .i64 x.b, .int .i64 x.m, .int .i64 y.a, .int .i64 y.l, .int .i64 y.f, .int .i64 y.b, .int .i64 y.m] 61)) W.heap.size 0 [x, y] := by
  intro i z hz
  match i, hz with
  | 0, hz => simp at hz; subst hz; simp
  | 1, hz => simp at hz; subst hz; simp
theorem listE_two_fine : listE [⟨1, 5, 0, 0, 0⟩, ⟨2, 5, 0, 0, 0⟩] = (0, -1) := by decide
theorem listE_two_order : listE [⟨2, 5, 0, 0, 0⟩, ⟨1, 5, 0, 0, 0⟩] = (10, 1) := by decide
theorem list_two (b : Nat) (x y : It) (E P : Int) (w : World) (hL : Laid w) (hI : Items w b 0 [x, y]) (hE : listE [x, y] = (E, P)) :
    Calls Tryz.prog 52 #[.slice (some ⟨b, 0, none⟩) 2 2] w fun e w' => ∃ v, e = .returned v ∧ ErrIs w' v E P ∧ Below w.heap.size w w' := by
  have h := list_some b 0 2 [x, y] w hL hI (by simp) (by simp)
  rw [hE] at h
  exact h
theorem ErrIs.nil {w : World} {v : Value} {P : Int} (h : ErrIs w v 0 P) : v = .nilIface := by
  rcases h with ⟨h, _⟩ | ⟨_, h, _⟩ | ⟨_, _, _, _, h, _⟩
  · exact h
  · exact absurd rfl h
  · exact absurd rfl h

end Go.Proofs.YtnppmigncjakeaaGreatDoor
namespace Go.Proofs.YtnppmigncjakeaaGreatDoor
open Go.RowKit Go.Extern.Stop Go.Stop Go.Extern

theorem place_nil (w : World) : Calls Tryz.prog 30 #[.nilIface] w fun e w' => e = .returned (.tuple #[.int .i64 0, .int .i64 (-1)]) ∧ Below w.heap.size w w' := by
  go_enter Tryz.func30, Tryz.ntmps30
  go_wp2_with (go_at_call 54; refine (tell_nil _).mono ?_; rintro e w' ⟨rfl, rfl⟩)
  refine wp_loop_rounds 1 ?_
  rw [rounds_succ]
  go_wp2
  go_ret2
  exact ⟨rfl, Below.refl _ _⟩

theorem noUnwrapE (v : Value) (xT : TypeId) (w : World) : (Instr.typeAssert (.iface 28 v) xT 95 true).run Tryz.prog w = .ok (.tuple #[.nilIface, .bool false]) w :=
  run_typeAssert_lacksB Tryz.underlying95 (by kernel_rfl) (by kernel_rfl) v xT w
theorem notAtE (v : Value) (w : World) : (Instr.typeAssert (.iface 28 v) 37 92 true).run Tryz.prog w = .ok (.tuple #[.pointer none, .bool false]) w := by kernel_rfl
theorem isAtA (v : Value) (w : World) : (Instr.typeAssert (.iface 92 v) 37 92 true).run Tryz.prog w = .ok (.tuple #[v, .bool true]) w := by kernel_rfl

set_option maxHeartbeats 1000000 in
theorem place_errno (n : Int) (w : World) (hL : Laid w) : Calls Tryz.prog 30 #[.iface 28 (.int .i64 n)] w fun e w' => e = .returned (.tuple #[.int .i64 n, .int .i64 (-1)]) ∧ Below w.heap.size w w' := by
  have hu := noUnwrapE
  have hn := notAtE
  go_enter Tryz.func30, Tryz.ntmps30
  go_wp2_with (go_at_call 54; refine (tell_errno n _ hL).mono ?_; rintro e w' ⟨rfl, hb⟩)
  refine wp_loop_rounds 1 ?_
  rw [rounds_succ]
  go_wp2
  go_ret2
  exact ⟨rfl, hb⟩

set_option maxHeartbeats 1000000 in
theorem place_at (a o : Nat) (n p : Int) (w : World) (ha : w.cell? ⟨a, o, none⟩ = some (.int .i64 n)) (hp : w.cell? ⟨a, o + 1, none⟩ = some (.int .i64 p)) (hL : Laid w) : Calls Tryz.prog 30 #[.iface 92 (.pointer (some ⟨a, o, none⟩))] w fun e w' => e = .returned (.tuple #[.int .i64 n, .int .i64 p]) ∧ Below w.heap.size w w' := by
  have hn := isAtA
  go_enter Tryz.func30, Tryz.ntmps30
  go_wp2_with (go_at_call 54; refine (tell_at a o n _ ha hL).mono ?_; rintro e w1 ⟨rfl, hb⟩)
  have hp1 : w1.cell? ⟨a, o + 1, none⟩ = some (.int .i64 p) := by rw [(bcell hb).1 _ _ (lt_of_cell hp)]; exact hp
  refine wp_loop_rounds 1 ?_
  rw [rounds_succ]
  go_wp2
  go_quiet (fail)
  go_wp2
  go_ret2
  exact ⟨rfl, below_drewN hb _⟩
end Go.Proofs.YtnppmigncjakeaaGreatDoor
namespace Go.Proofs.YtnppmigncjakeaaGreatDoor
open Go.RowKit Go.Extern.Stop Go.Stop Go.Extern

theorem place_any {v : Value} {E P : Int} (w : World) (h : ErrIs w v E P) (hL : Laid w) : Calls Tryz.prog 30 #[v] w fun e w' => e = .returned (.tuple #[.int .i64 E, .int .i64 P]) ∧ Below w.heap.size w w' := by
  rcases h with ⟨rfl, rfl, rfl⟩ | ⟨rfl, _, rfl⟩ | ⟨a, rfl, h2, h3, _⟩
  · exact place_nil w
  · exact place_errno E w hL
  · exact place_at a 0 E P w h2 h3 hL
end Go.Proofs.YtnppmigncjakeaaGreatDoor
namespace Go.Proofs.YtnppmigncjakeaaGreatDoor
open Go.RowKit Go.Extern.Stop Go.Stop Go.Extern

theorem rwithin_any (n lo hi : Int) (w : World) : Calls Tryz.prog 34 #[.int .i64 n, .int .i64 lo, .int .i64 hi] w fun e w' => e = .returned (.bool (wth n lo hi)) ∧ w' = w := by
  by_cases h1 : lo ≤ n
  · by_cases h2 : n ≤ hi
    · go_enter Tryz.func34, Tryz.ntmps34
      go_wp2
      go_ret
      exact ⟨by simp [wth, h1, h2], rfl⟩
    · go_enter Tryz.func34, Tryz.ntmps34
      go_wp2
      go_ret
      exact ⟨by simp [wth, h1, h2], rfl⟩
  · go_enter Tryz.func34, Tryz.ntmps34
    go_wp2
    go_ret
    exact ⟨by simp [wth]; omega, rfl⟩

theorem rcheck_yes (a l f b m : Int) (w : World) (h : It.ok ⟨a, l, f, b, m⟩ = true) :
    Calls Tryz.prog 49 #[.agg #[.int .i64 a, .int .i64 l, .int .i64 f, .int .i64 b, .int .i64 m]] w fun e w' => e = .returned (.int .i64 0) ∧ w' = w.alloc (.cells #[.int .i64 a, .int .i64 l, .int .i64 f, .int .i64 b, .int .i64 m] 61) := by
  simp only [It.ok, Bool.and_eq_true] at h
  obtain ⟨⟨⟨⟨h1, h2⟩, h3⟩, h4⟩, h5⟩ := h
  go_enter Tryz.func49, Tryz.ntmps49
  go_wp2_with (go_at_call 34; refine (rwithin_any _ _ _ _).mono ?_; rintro e w' ⟨rfl, rfl⟩)
  go_ret
  exact ⟨rfl, rfl⟩

set_option maxHeartbeats 1000000 in
theorem rcheck_no (a l f b m : Int) (w : World) (h : It.ok ⟨a, l, f, b, m⟩ = false) :
    Calls Tryz.prog 49 #[.agg #[.int .i64 a, .int .i64 l, .int .i64 f, .int .i64 b, .int .i64 m]] w fun e w' => e = .returned (.int .i64 2) ∧ w' = w.alloc (.cells #[.int .i64 a, .int .i64 l, .int .i64 f, .int .i64 b, .int .i64 m] 61) := by
  have hcase : wth a 0 1000000000 = false ∨ (wth a 0 1000000000 = true ∧ wth l 1 10000 = false) ∨ (wth a 0 1000000000 = true ∧ wth l 1 10000 = true ∧ wth f 0 15 = false) ∨ (wth a 0 1000000000 = true ∧ wth l 1 10000 = true ∧ wth f 0 15 = true ∧ wth b 0 7 = false) ∨ (wth a 0 1000000000 = true ∧ wth l 1 10000 = true ∧ wth f 0 15 = true ∧ wth b 0 7 = true ∧ wth m 0 255 = false) := by
    simp only [It.ok] at h
    revert h
    cases wth a 0 1000000000 <;> cases wth l 1 10000 <;> cases wth f 0 15 <;> cases wth b 0 7 <;> cases wth m 0 255 <;> simp
  clear h
  rcases hcase with h1 | ⟨h1, h2⟩ | ⟨h1, h2, h3⟩ | ⟨h1, h2, h3, h4⟩ | ⟨h1, h2, h3, h4, h5⟩
  all_goals
    go_enter Tryz.func49, Tryz.ntmps49
    go_wp2_with (go_at_call 34; refine (rwithin_any _ _ _ _).mono ?_; rintro e w' ⟨rfl, rfl⟩)
    go_ret
    exact ⟨rfl, rfl⟩

theorem bareOf (n : Int) (w : World) : Calls Tryz.prog 18 #[.int .i64 n] w fun e w' => e = .returned (.agg #[.int .i64 n, .int .i64 (-1)]) ∧ Below w.heap.size w w' := by
  go_enter Tryz.func18, Tryz.ntmps18
  go_wp2
  refine bodyPost_ret (v := .agg #[.int .i64 n, .int .i64 (-1)]) (by simp [results, Tryz.results18, go_sem]) rfl ⟨rfl, ?_⟩
  repeat' (first | exact Below.refl _ _ | refine Below.drew ?_ | refine Below.alloc ?_ ?_ _ | refine Below.setCell ?_ ?_ _)
  all_goals (simp <;> omega)

set_option maxHeartbeats 1000000 in
theorem at_true {v : Value} {E P : Int} (w : World) (h : ErrIs w v E P) (hL : Laid w) : Calls Tryz.prog 12 #[v, .agg #[.int .i64 E, .int .i64 P]] w fun e w' => e = .returned (.bool true) ∧ Below w.heap.size w w' := by
  have hA : Below w.heap.size w (w.alloc (.cells #[.int .i64 E, .int .i64 P] 30)) := (Below.refl _ _).alloc (Nat.le_refl _) _
  have h1 := h.below hA
  have hL1 := hL.below hA
  clear h
  go_enter Tryz.func12, Tryz.ntmps12
  go_wp2_with fail
  refine (place_any _ h1 hL1).mono ?_
  rintro e w1 ⟨rfl, hb⟩
  have c0 : w1.cell? ⟨w.heap.size, 0, none⟩ = some (.int .i64 E) := by rw [hb.cell (by simp)]; simp
  have c1 : w1.cell? ⟨w.heap.size, 0 + 1, none⟩ = some (.int .i64 P) := by rw [hb.cell (by simp)]; simp
  have c1' : w1.cell? ⟨w.heap.size, 1, none⟩ = some (.int .i64 P) := c1
  go_wp2
  go_ret
  exact ⟨by simp, hA.trans (hb.mono (by simp))⟩

end Go.Proofs.YtnppmigncjakeaaGreatDoor
