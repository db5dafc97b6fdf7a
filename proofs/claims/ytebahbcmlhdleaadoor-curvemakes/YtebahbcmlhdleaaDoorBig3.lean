/-
  millracebig: Set, Neg of a whole number: what lies behind the call, and that all else stays.
-/
import Derived.Test.YtebahbcmlhdleaaDoorBig2
import Derived.Deep.RegionWith
namespace Go.Proofs.YtebahbcmlhdleaaDoor
open Go.RowKit

set_option maxHeartbeats 2000000 in
theorem set_any (b o xb xo : Nat) (z : Int) (w : World) (hs : Slot w b o) (hx : IntAt w xb xo z) :
    Calls Tryd.prog 53 #[.pointer (some ⟨b, o, none⟩), .pointer (some ⟨xb, xo, none⟩)] w fun e w' => e = .returned (.pointer (some ⟨b, o, none⟩)) ∧ IntAt w' b o z ∧ Slot w' b o ∧ Upd b o w w' := by
  have HS : Hid (Slot w b o) := hs
  have HX : Hid (IntAt w xb xo z) := hx
  obtain ⟨c0, v, c1, hn⟩ := hx
  obtain ⟨x, m, c, rfl, _, _⟩ := hn.form
  have HN : Hid (NatAt w (.slice x m c) z.natAbs) := hn
  have hcb : ∀ w1, Below w.drew.heap.size w.drew w1 → w1.cell? ⟨xb, xo, none⟩ = some (.bool (decide (z < 0))) := fun w1 hb => (hb.cell (p := ⟨xb, xo, none⟩) (lt_of_cell c0)).trans c0
  clear hn hs
  go_enter Tryd.func53, Tryd.ntmps53
  go_wp2_with fail
  go_region_with (first | (go_at_call 69; refine (twin_any _ (by exact HN.out)).mono ?_; rintro e w1 ⟨v1, rfl, hv1, hb1⟩; have d0 := hcb w1 hb1) | (go_at_call 68; refine (give_any b o _ _ (by exact Slot.below (w := w.drew) HS.out hb1) (by exact hv1)).mono ?_; rintro e w2 ⟨rfl, hi2, hs2, hu2⟩))
  all_goals
    have HI : Hid (IntAt w2 b o z) := by
      have h : (if decide (z < 0) = true then -(z.natAbs : Int) else (z.natAbs : Int)) = z := by split <;> simp_all <;> omega
      rw [h] at hi2
      exact hi2
    have hbw : Below w.heap.size w w1 := ((Below.refl _ w).drew).trans hb1
    clear hi2 hcb d0 hv1 hb1 c0 c1
    go_wp2
    go_ret
    exact ⟨rfl, HI.out, hs2, (Upd.of_below hbw).trans hu2⟩

set_option maxHeartbeats 2000000 in
theorem neg_any (b o xb xo : Nat) (z : Int) (w : World) (hs : Slot w b o) (hx : IntAt w xb xo z) :
    Calls Tryd.prog 77 #[.pointer (some ⟨b, o, none⟩), .pointer (some ⟨xb, xo, none⟩)] w fun e w' => e = .returned (.pointer (some ⟨b, o, none⟩)) ∧ IntAt w' b o (-z) ∧ Slot w' b o ∧ Upd b o w w' := by
  have HS : Hid (Slot w b o) := hs
  have HX : Hid (IntAt w xb xo z) := hx
  obtain ⟨c0, v, c1, hn⟩ := hx
  obtain ⟨x, m, c, rfl, _, _⟩ := hn.form
  have HN : Hid (NatAt w (.slice x m c) z.natAbs) := hn
  have hcb : ∀ w1, Below w.drew.heap.size w.drew w1 → w1.cell? ⟨xb, xo, none⟩ = some (.bool (decide (z < 0))) := fun w1 hb => (hb.cell (p := ⟨xb, xo, none⟩) (lt_of_cell c0)).trans c0
  clear hn hs
  go_enter Tryd.func77, Tryd.ntmps77
  go_wp2_with fail
  go_region_with (first | (go_at_call 69; refine (twin_any _ (by exact HN.out)).mono ?_; rintro e w1 ⟨v1, rfl, hv1, hb1⟩; have d0 := hcb w1 hb1) | (go_at_call 68; refine (give_any b o _ _ (by exact Slot.below (w := w.drew) HS.out hb1) (by exact hv1)).mono ?_; rintro e w2 ⟨rfl, hi2, hs2, hu2⟩))
  all_goals
    have HI : Hid (IntAt w2 b o (-z)) := by
      have h : (if (!decide (z < 0)) = true then -(z.natAbs : Int) else (z.natAbs : Int)) = -z := by split <;> simp_all <;> omega
      have h2 : IntAt w2 b o (if (!decide (z < 0)) = true then -(z.natAbs : Int) else (z.natAbs : Int)) := by simpa using hi2
      rw [h] at h2
      exact h2
    have hbw : Below w.heap.size w w1 := ((Below.refl _ w).drew).trans hb1
    clear hi2 hcb d0 hv1 hb1 c0 c1
    go_wp2
    go_ret
    exact ⟨rfl, HI.out, hs2, (Upd.of_below hbw).trans hu2⟩
end Go.Proofs.YtebahbcmlhdleaaDoor
