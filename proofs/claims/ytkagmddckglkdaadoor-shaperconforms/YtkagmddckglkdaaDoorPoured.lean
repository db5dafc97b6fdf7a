/-
  millracekeep.poured is true: of a bucket of ten bytes, one a tick, 8 may be taken at 0, then not 3, and 3 at 1. No condition.
-/
import Derived.Test.YtkagmddckglkdaaDoorBk3
namespace Go.Proofs.YtkagmddckglkdaaDoor
open Go.RowKit Go.Extern.Stop Go.Stop Go.Extern

theorem okB_ten : okB 1 1 10 := by unfold okB; omega
theorem take_ten {lev lat : Int} (now x : Int) {lev' lat' : Int} {r : Bool} {s : Nat} (w : World) (h : StAt w s 1 1 10 lev lat) (hl0 : 0 ≤ lev) (hl1 : lev ≤ 10 * 1) (ht0 : 0 ≤ lat) (ht1 : now ≤ 1000000000) (hx0 : 0 ≤ x) (hx1 : x ≤ 1000000) (e1 : drwB 1 (pas 1 1 10 lev lat now) x = r) (e2 : drw 1 (pas 1 1 10 lev lat now) x = lev') (e3 : lat1 lat now = lat') :
    Calls Tryd.prog 23 #[.pointer (some ⟨s, 0, none⟩), .int .i64 now, .int .i64 x] w fun e w' => e = .returned (.bool r) ∧ StAt w' s 1 1 10 lev' lat' ∧ Oth (· = s) w w' := by
  have := take_yes now x w h okB_ten hl0 hl1 ht0 ht1 hx0 hx1
  rw [e1, e2, e3] at this
  exact this
theorem poured_true (w : World) : Calls Tryd.prog 8 #[] w fun e w' => e = .returned (.bool true) ∧ Below w.heap.size w w' := by
  go_enter Tryd.func8, Tryd.ntmps8
  go_wp2_with (go_at_call 22; refine (new_yes 1 1 10 _ okB_ten).mono ?_; rintro e w1 ⟨s, rfl, hs, hst, hb1⟩; have HS : Hid (StAt w1 s 1 1 10 10 0) := hst; clear hst)
  refine (take_ten 0 8 (lev' := 2) (lat' := 0) (r := true) _ HS.out (by decide) (by decide) (by decide) (by decide) (by decide) (by decide) (by decide) (by decide) (by decide)).mono ?_
  rintro e w2 ⟨rfl, hs2, ho2⟩
  have HS2 : Hid (StAt w2 s 1 1 10 2 0) := hs2
  clear hs2
  go_wp2_with fail
  refine (take_ten 0 3 (lev' := 2) (lat' := 0) (r := false) _ HS2.out (by decide) (by decide) (by decide) (by decide) (by decide) (by decide) (by decide) (by decide) (by decide)).mono ?_
  rintro e w3 ⟨rfl, hs3, ho3⟩
  have HS3 : Hid (StAt w3 s 1 1 10 2 0) := hs3
  clear hs3
  go_wp2_with fail
  refine (take_ten 1 3 (lev' := 0) (lat' := 1) (r := true) _ HS3.out (by decide) (by decide) (by decide) (by decide) (by decide) (by decide) (by decide) (by decide) (by decide)).mono ?_
  rintro e w4 ⟨rfl, hs4, ho4⟩
  clear hs4
  go_wp2
  go_ret
  exact ⟨rfl, hb1.trans (((ho2.trans ho3).trans ho4).below hb1.size (fun k e => by subst e; exact hs))⟩
end Go.Proofs.YtkagmddckglkdaaDoor
