/-
  api.Tell: of nil 0, of an Errno its number, of an At its error; nothing that was there before is otherwise. Conditions: errors.errorType holds its handle.
  item.within, item.Check: what each returns at every argument, and that nothing that was there before is otherwise. Conditions: integers are of 64 bits.
  item.Check, item.Speed, item.Takes, item.placed: what each returns at every argument, and that nothing that was there before is otherwise. Conditions: integers are of 64 bits; placed: errors.errorType holds its handle.
-/
import Derived.Test.YtpgdocmpbeabpaaDoorAs
import Derived.Deep.QuietTactic
import Derived.BigQuiet
import Derived.Test.YtpgdocmpbeabpaaDoorProg
import Derived.WalkKit
import Derived.RowKitTokens
namespace Go.Proofs.YtpgdocmpbeabpaaDoor
open Go.RowKit Go.Extern.Stop Go.Stop Go.Extern

/-- errors.errorType is laid. -/
def Laid (w : World) : Prop := w.cell? ⟨0, 0, none⟩ = some (.iface 134 (.agg #[.pointer (some ⟨1, 26, none⟩)]))
theorem Laid.below {w w' : World} (h : Laid w) (hb : Below w.heap.size w w') : Laid w' := by
  unfold Laid at *
  rw [hb.cell (lt_of_cell h)]; exact h
theorem Laid.alloc {w : World} (h : Laid w) (o : Obj) : Laid (w.alloc o) := h.below ((Below.refl _ _).alloc (Nat.le_refl _) _)

theorem bcell {W w1 : World} (hb : Below W.heap.size W w1) : (∀ b o, b < W.heap.size → w1.cell? ⟨b, o, none⟩ = W.cell? ⟨b, o, none⟩) ∧ (∀ b o, b < W.heap.size → w1.frozen? ⟨b, o, none⟩ = W.frozen? ⟨b, o, none⟩) :=
  ⟨fun b o h => hb.cell (p := ⟨b, o, none⟩) h, fun b o h => hb.frozen (p := ⟨b, o, none⟩) h⟩

theorem below_drewN {B : Nat} {a w : World} (h : Below B a w) (n : Nat) : Below B a (w.drewN n) := h.trans ⟨rfl, rfl, rfl, Nat.le_refl _, fun _ _ => rfl⟩

theorem tell_nil (w : World) : Calls Tryd.prog 41 #[.nilIface] w fun e w' => e = .returned (.int .i64 0) ∧ w' = w := by
  go_enter Tryd.func41, Tryd.ntmps41
  go_wp2
  go_ret
  exact ⟨rfl, rfl⟩

set_option maxHeartbeats 1000000 in
theorem tell_errno (n : Int) (w : World) (hL : Laid w) : Calls Tryd.prog 41 #[.iface 65 (.int .i64 n)] w fun e w' => e = .returned (.int .i64 n) ∧ Below w.heap.size w w' := by
  have hL1 : Laid (w.alloc (.cells #[.int .i64 0] 65)) := hL.alloc _
  go_enter Tryd.func41, Tryd.ntmps41
  go_wp2_with (go_at_call 48; refine (as_errno n _ (.int .i64 0) _ hL1 (by simp) (by simp)).mono ?_; rintro e w' ⟨rfl, rfl⟩)
  go_ret
  refine ⟨rfl, ?_⟩
  repeat' (first | exact Below.refl _ _ | refine Below.drew ?_ | refine Below.alloc ?_ ?_ _ | refine Below.setCell ?_ ?_ _)
  all_goals (simp <;> omega)

set_option maxHeartbeats 1000000 in
theorem tell_at (a o : Nat) (n : Int) (w : World) (ha : w.cell? ⟨a, o, none⟩ = some (.int .i64 n)) (hL : Laid w) : Calls Tryd.prog 41 #[.iface 103 (.pointer (some ⟨a, o, none⟩))] w fun e w' => e = .returned (.int .i64 n) ∧ Below w.heap.size w w' := by
  have hL1 : Laid (w.alloc (.cells #[.int .i64 0] 65)) := hL.alloc _
  have ha1 : (w.alloc (.cells #[.int .i64 0] 65)).cell? ⟨a, o, none⟩ = some (.int .i64 n) := by
    rw [World.cell?_alloc_lt _ _ ⟨a, o, none⟩ (lt_of_cell ha)]; exact ha
  go_enter Tryd.func41, Tryd.ntmps41
  go_wp2_with (go_at_call 48; refine (as_at a o n _ (.int .i64 0) _ ha1 hL1 (by simp) (by simp)).mono ?_; rintro e w' ⟨rfl, rfl⟩)
  go_ret
  refine ⟨rfl, ?_⟩
  repeat' (first | exact Below.refl _ _ | refine Below.drew ?_ | refine Below.alloc ?_ ?_ _ | refine Below.setCell ?_ ?_ _)
  all_goals (simp <;> omega)
end Go.Proofs.YtpgdocmpbeabpaaDoor
namespace Go.Proofs.YtpgdocmpbeabpaaDoor
open Go.RowKit Go.Extern.Stop Go.Stop Go.Extern

/-- n from lo to hi. -/
def wth (n lo hi : Int) : Bool := decide (lo ≤ n) && decide (n ≤ hi)
theorem wth_iff {n lo hi : Int} : wth n lo hi = true ↔ lo ≤ n ∧ n ≤ hi := by simp [wth]
theorem wth_no {n lo hi : Int} : wth n lo hi = false ↔ ¬ (lo ≤ n ∧ n ≤ hi) := by simp [wth]

theorem within_any (n lo hi : Int) (w : World) : Calls Tryd.prog 37 #[.int .i64 n, .int .i64 lo, .int .i64 hi] w fun e w' => e = .returned (.bool (wth n lo hi)) ∧ w' = w := by
  by_cases h1 : lo ≤ n
  · by_cases h2 : n ≤ hi
    · go_enter Tryd.func37, Tryd.ntmps37
      go_wp2
      go_ret
      exact ⟨by simp [wth, h1, h2], rfl⟩
    · go_enter Tryd.func37, Tryd.ntmps37
      go_wp2
      go_ret
      exact ⟨by simp [wth, h1, h2], rfl⟩
  · go_enter Tryd.func37, Tryd.ntmps37
    go_wp2
    go_ret
    exact ⟨by simp [wth]; omega, rfl⟩

/-- A packet: At, Len, Flow, Band, Mark. -/
structure It where
  a : Int
  l : Int
  f : Int
  b : Int
  m : Int
def It.cells (x : It) : Array Value := #[.int .i64 x.a, .int .i64 x.l, .int .i64 x.f, .int .i64 x.b, .int .i64 x.m]
def It.ok (x : It) : Bool := wth x.a 0 1000000000 && wth x.l 1 10000 && wth x.f 0 15 && wth x.b 0 7 && wth x.m 0 255

theorem check_yes (a l f b m : Int) (w : World) (h : It.ok ⟨a, l, f, b, m⟩ = true) :
    Calls Tryd.prog 21 #[.agg #[.int .i64 a, .int .i64 l, .int .i64 f, .int .i64 b, .int .i64 m]] w fun e w' => e = .returned .nilIface ∧ w' = w.alloc (.cells #[.int .i64 a, .int .i64 l, .int .i64 f, .int .i64 b, .int .i64 m] 37) := by
  simp only [It.ok, Bool.and_eq_true] at h
  obtain ⟨⟨⟨⟨h1, h2⟩, h3⟩, h4⟩, h5⟩ := h
  go_enter Tryd.func21, Tryd.ntmps21
  go_wp2_with (go_at_call 37; refine (within_any _ _ _ _).mono ?_; rintro e w' ⟨rfl, rfl⟩)
  go_ret
  exact ⟨rfl, rfl⟩

set_option maxHeartbeats 1000000 in
theorem check_no (a l f b m : Int) (w : World) (h : It.ok ⟨a, l, f, b, m⟩ = false) :
    Calls Tryd.prog 21 #[.agg #[.int .i64 a, .int .i64 l, .int .i64 f, .int .i64 b, .int .i64 m]] w fun e w' => e = .returned (.iface 65 (.int .i64 2)) ∧ w' = w.alloc (.cells #[.int .i64 a, .int .i64 l, .int .i64 f, .int .i64 b, .int .i64 m] 37) := by
  cases h1 : wth a 0 1000000000 with
  | false =>
    clear h
    go_enter Tryd.func21, Tryd.ntmps21
    go_wp2_with (go_at_call 37; refine (within_any _ _ _ _).mono ?_; rintro e w' ⟨rfl, rfl⟩)
    go_ret
    exact ⟨rfl, rfl⟩
  | true =>
    cases h2 : wth l 1 10000 with
    | false =>
      clear h
      go_enter Tryd.func21, Tryd.ntmps21
      go_wp2_with (go_at_call 37; refine (within_any _ _ _ _).mono ?_; rintro e w' ⟨rfl, rfl⟩)
      go_ret
      exact ⟨rfl, rfl⟩
    | true =>
      cases h3 : wth f 0 15 with
      | false =>
        clear h
        go_enter Tryd.func21, Tryd.ntmps21
        go_wp2_with (go_at_call 37; refine (within_any _ _ _ _).mono ?_; rintro e w' ⟨rfl, rfl⟩)
        go_ret
        exact ⟨rfl, rfl⟩
      | true =>
        cases h4 : wth b 0 7 with
        | false =>
          clear h
          go_enter Tryd.func21, Tryd.ntmps21
          go_wp2_with (go_at_call 37; refine (within_any _ _ _ _).mono ?_; rintro e w' ⟨rfl, rfl⟩)
          go_ret
          exact ⟨rfl, rfl⟩
        | true =>
          cases h5 : wth m 0 255 with
          | false =>
            clear h
            go_enter Tryd.func21, Tryd.ntmps21
            go_wp2_with (go_at_call 37; refine (within_any _ _ _ _).mono ?_; rintro e w' ⟨rfl, rfl⟩)
            go_ret
            exact ⟨rfl, rfl⟩
          | true => simp [It.ok, h1, h2, h3, h4, h5] at h
end Go.Proofs.YtpgdocmpbeabpaaDoor
namespace Go.Proofs.YtpgdocmpbeabpaaDoor
open Go.RowKit Go.Extern.Stop Go.Stop Go.Extern

/-- A rate that may be. -/
def okRate (n t : Int) : Bool := wth n 1 1000000 && wth t 1 1000000

theorem speed_yes (n t : Int) (w : World) (h : okRate n t = true) :
    Calls Tryd.prog 26 #[.agg #[.int .i64 n, .int .i64 t]] w fun e w' => e = .returned .nilIface ∧ w' = w.alloc (.cells #[.int .i64 n, .int .i64 t] 44) := by
  simp only [okRate, Bool.and_eq_true] at h
  obtain ⟨h1, h2⟩ := h
  go_enter Tryd.func26, Tryd.ntmps26
  go_wp2_with (go_at_call 37; refine (within_any _ _ _ _).mono ?_; rintro e w' ⟨rfl, rfl⟩)
  go_ret
  exact ⟨rfl, rfl⟩
theorem speed_no (n t : Int) (w : World) (h : okRate n t = false) :
    Calls Tryd.prog 26 #[.agg #[.int .i64 n, .int .i64 t]] w fun e w' => e = .returned (.iface 65 (.int .i64 2)) ∧ w' = w.alloc (.cells #[.int .i64 n, .int .i64 t] 44) := by
  cases h1 : wth n 1 1000000 with
  | false =>
    clear h
    go_enter Tryd.func26, Tryd.ntmps26
    go_wp2_with (go_at_call 37; refine (within_any _ _ _ _).mono ?_; rintro e w' ⟨rfl, rfl⟩)
    go_ret
    exact ⟨rfl, rfl⟩
  | true =>
    cases h2 : wth t 1 1000000 with
    | false =>
      clear h
      go_enter Tryd.func26, Tryd.ntmps26
      go_wp2_with (go_at_call 37; refine (within_any _ _ _ _).mono ?_; rintro e w' ⟨rfl, rfl⟩)
      go_ret
      exact ⟨rfl, rfl⟩
    | true => simp [okRate, h1, h2] at h

set_option maxHeartbeats 1000000 in
theorem placed_errno (n p : Int) (w : World) (hL : Laid w) : Calls Tryd.prog 27 #[.iface 65 (.int .i64 n), .int .i64 p] w fun e w' =>
    ∃ a, e = .returned (.iface 103 (.pointer (some ⟨a, 0, none⟩))) ∧ w.heap.size ≤ a ∧ w'.cell? ⟨a, 0, none⟩ = some (.int .i64 n) ∧ w'.cell? ⟨a, 0 + 1, none⟩ = some (.int .i64 p) ∧ Below w.heap.size w w' := by
  go_enter Tryd.func27, Tryd.ntmps27
  go_wp2_with (go_at_call 41; refine (tell_errno n _ hL).mono ?_; rintro e w1 ⟨rfl, hb⟩)
  go_ret
  exact ⟨_, rfl, hb.size, by simp, by simp, hb.alloc hb.size _⟩
end Go.Proofs.YtpgdocmpbeabpaaDoor
