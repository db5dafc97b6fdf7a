/-
  item.within, item.Check: what each returns at every argument, and that nothing that was there before is otherwise. Conditions: integers are of 64 bits.
-/
import Derived.Test.YtcdcplocpdmjaaaDoorProg
import Derived.WalkKit
import Derived.RowKitTokens
import Derived.Deep.QuietTactic
import Derived.BigQuiet
namespace Go.Proofs.YtcdcplocpdmjaaaDoor
open Go.RowKit Go.Extern.Stop Go.Stop Go.Extern

/-- n from lo to hi. -/
def wth (n lo hi : Int) : Bool := decide (lo ≤ n) && decide (n ≤ hi)
theorem wth_iff {n lo hi : Int} : wth n lo hi = true ↔ lo ≤ n ∧ n ≤ hi := by simp [wth]
theorem wth_no {n lo hi : Int} : wth n lo hi = false ↔ ¬ (lo ≤ n ∧ n ≤ hi) := by simp [wth]

theorem within_any (n lo hi : Int) (w : World) : Calls Tryd.prog 34 #[.int .i64 n, .int .i64 lo, .int .i64 hi] w fun e w' => e = .returned (.bool (wth n lo hi)) ∧ w' = w := by
  by_cases h1 : lo ≤ n
  · by_cases h2 : n ≤ hi
    · go_enter Tryd.func34, Tryd.ntmps34
      go_wp2
      go_ret
      exact ⟨by simp [wth, h1, h2], rfl⟩
    · go_enter Tryd.func34, Tryd.ntmps34
      go_wp2
      go_ret
      exact ⟨by simp [wth, h1, h2], rfl⟩
  · go_enter Tryd.func34, Tryd.ntmps34
    go_wp2
    go_ret
    exact ⟨by simp [wth]; omega, rfl⟩

/-- A packet: At, Len, Flow, Band, Mark. -/
structure It where
  a : Int
  l : Int
  f : Int
  b : Int
  m : Int
def It.cells (x : It) : Array Value := #[.int .i64 x.a, .int .i64 x.l, .int .i64 x.f, .int .i64 x.b, .int .i64 x.m]
def It.ok (x : It) : Bool := wth x.a 0 1000000000 && wth x.l 1 10000 && wth x.f 0 15 && wth x.b 0 7 && wth x.m 0 255

theorem check_yes (a l f b m : Int) (w : World) (h : It.ok ⟨a, l, f, b, m⟩ = true) :
    Calls Tryd.prog 22 #[.agg #[.int .i64 a, .int .i64 l, .int .i64 f, .int .i64 b, .int .i64 m]] w fun e w' => e = .returned .nilIface ∧ w' = w.alloc (.cells #[.int .i64 a, .int .i64 l, .int .i64 f, .int .i64 b, .int .i64 m] 39) := by
  simp only [It.ok, Bool.and_eq_true] at h
  obtain ⟨⟨⟨⟨h1, h2⟩, h3⟩, h4⟩, h5⟩ := h
  go_enter Tryd.func22, Tryd.ntmps22
  go_wp2_with (go_at_call 34; refine (within_any _ _ _ _).mono ?_; rintro e w' ⟨rfl, rfl⟩)
  go_ret
  exact ⟨rfl, rfl⟩

set_option maxHeartbeats 1000000 in
theorem check_no (a l f b m : Int) (w : World) (h : It.ok ⟨a, l, f, b, m⟩ = false) :
    Calls Tryd.prog 22 #[.agg #[.int .i64 a, .int .i64 l, .int .i64 f, .int .i64 b, .int .i64 m]] w fun e w' => e = .returned (.iface 23 (.int .i64 2)) ∧ w' = w.alloc (.cells #[.int .i64 a, .int .i64 l, .int .i64 f, .int .i64 b, .int .i64 m] 39) := by
  cases h1 : wth a 0 1000000000 with
  | false =>
    clear h
    go_enter Tryd.func22, Tryd.ntmps22
    go_wp2_with (go_at_call 34; refine (within_any _ _ _ _).mono ?_; rintro e w' ⟨rfl, rfl⟩)
    go_ret
    exact ⟨rfl, rfl⟩
  | true =>
    cases h2 : wth l 1 10000 with
    | false =>
      clear h
      go_enter Tryd.func22, Tryd.ntmps22
      go_wp2_with (go_at_call 34; refine (within_any _ _ _ _).mono ?_; rintro e w' ⟨rfl, rfl⟩)
      go_ret
      exact ⟨rfl, rfl⟩
    | true =>
      cases h3 : wth f 0 15 with
      | false =>
        clear h
        go_enter Tryd.func22, Tryd.ntmps22
        go_wp2_with (go_at_call 34; refine (within_any _ _ _ _).mono ?_; rintro e w' ⟨rfl, rfl⟩)
        go_ret
        exact ⟨rfl, rfl⟩
      | true =>
        cases h4 : wth b 0 7 with
        | false =>
          clear h
          go_enter Tryd.func22, Tryd.ntmps22
          go_wp2_with (go_at_call 34; refine (within_any _ _ _ _).mono ?_; rintro e w' ⟨rfl, rfl⟩)
          go_ret
          exact ⟨rfl, rfl⟩
        | true =>
          cases h5 : wth m 0 255 with
          | false =>
            clear h
            go_enter Tryd.func22, Tryd.ntmps22
            go_wp2_with (go_at_call 34; refine (within_any _ _ _ _).mono ?_; rintro e w' ⟨rfl, rfl⟩)
            go_ret
            exact ⟨rfl, rfl⟩
          | true => simp [It.ok, h1, h2, h3, h4, h5] at h
end Go.Proofs.YtcdcplocpdmjaaaDoor
