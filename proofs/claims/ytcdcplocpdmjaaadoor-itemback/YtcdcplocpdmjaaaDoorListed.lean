/-
  millracekeep.listed is true: of two packets in order List tells nothing, of the same two the other way round it tells ErrOrder. Conditions: errors.errorType holds its handle.
-/
import Derived.Test.YtcdcplocpdmjaaaDoorList
namespace Go.Proofs.YtcdcplocpdmjaaaDoor
open Go.RowKit Go.Extern.Stop Go.Stop Go.Extern

theorem items_two (W : World) (x y : It) : Items (W.alloc (.cells #[.int .i64 x.a, .int .i64 x.l, .int .i64 x.f, .int .i64 x.b, .int .i64 x.m, .int .i64 y.a, .int .i64 y.l, .int .i64 y.f, .int .i64 y.b, .int .i64 y.m] 39)) W.heap.size 0 [x, y] := by
  intro i z hz
  match i, hz with
  | 0, hz => simp at hz; subst hz; simp
  | 1, hz => simp at hz; subst hz; simp
theorem listE_two_fine : listE [⟨1, 5, 0, 0, 0⟩, ⟨2, 5, 0, 0, 0⟩] = (0, -1) := by decide
theorem listE_two_order : listE [⟨2, 5, 0, 0, 0⟩, ⟨1, 5, 0, 0, 0⟩] = (10, 1) := by decide
theorem list_two (b : Nat) (x y : It) (E P : Int) (w : World) (hL : Laid w) (hI : Items w b 0 [x, y]) (hE : listE [x, y] = (E, P)) :
    Calls Tryd.prog 10 #[.slice (some ⟨b, 0, none⟩) 2 2] w fun e w' => ∃ v, e = .returned v ∧ ErrIs w' v E P ∧ Below w.heap.size w w' := by
  have h := list_some b 0 2 [x, y] w hL hI (by simp) (by simp)
  rw [hE] at h
  exact h
theorem ErrIs.nil {w : World} {v : Value} {P : Int} (h : ErrIs w v 0 P) : v = .nilIface := by
  rcases h with ⟨h, _⟩ | ⟨_, h, _⟩ | ⟨_, _, _, _, h, _⟩
  · exact h
  · exact absurd rfl h
  · exact absurd rfl h

set_option maxHeartbeats 1000000 in
theorem listed_true (w : World) (hL : Laid w) : Calls Tryd.prog 9 #[] w fun e w' => e = .returned (.bool true) ∧ Below w.heap.size w w' := by
  go_enter Tryd.func9, Tryd.ntmps9
  go_wp2_with fail
  refine (list_two _ ⟨1, 5, 0, 0, 0⟩ ⟨2, 5, 0, 0, 0⟩ 0 (-1) _ (((hL.alloc _).alloc _).alloc _) (by simpa using items_two ((w.alloc (.cells #[.int .i64 1, .int .i64 5, .int .i64 0, .int .i64 0, .int .i64 0] 39)).alloc (.cells #[.int .i64 2, .int .i64 5, .int .i64 0, .int .i64 0, .int .i64 0] 39)) ⟨1, 5, 0, 0, 0⟩ ⟨2, 5, 0, 0, 0⟩) listE_two_fine).mono ?_
  rintro e w1 ⟨v, rfl, he, hb⟩
  obtain rfl := he.nil
  have hB : Below w.heap.size w w1 := ((((Below.refl _ _).alloc (Nat.le_refl _) _).alloc (by simp) _).alloc (by simp; omega) _).trans (hb.mono (by simp; omega))
  have hL1 : Laid w1 := (((hL.alloc _).alloc _).alloc _).below hb
  obtain ⟨hc, _⟩ := bcell hb
  have k0 : ∀ o, w1.cell? ⟨w.heap.size, o, none⟩ = (w.alloc (.cells #[.int .i64 1, .int .i64 5, .int .i64 0, .int .i64 0, .int .i64 0] 39)).cell? ⟨w.heap.size, o, none⟩ := by
    intro o
    rw [hc _ _ (by simp; omega), World.cell?_alloc_lt _ _ ⟨_, o, none⟩ (by simp; omega), World.cell?_alloc_lt _ _ ⟨_, o, none⟩ (by simp)]
  have k1 : ∀ o, w1.cell? ⟨w.heap.size + 1, o, none⟩ = ((w.alloc (.cells #[.int .i64 1, .int .i64 5, .int .i64 0, .int .i64 0, .int .i64 0] 39)).alloc (.cells #[.int .i64 2, .int .i64 5, .int .i64 0, .int .i64 0, .int .i64 0] 39)).cell? ⟨w.heap.size + 1, o, none⟩ := by
    intro o
    rw [hc _ _ (by simp), World.cell?_alloc_lt _ _ ⟨_, o, none⟩ (by simp)]
  clear hc he hb
  go_wp2_with fail
  refine (list_two _ ⟨2, 5, 0, 0, 0⟩ ⟨1, 5, 0, 0, 0⟩ 10 1 _ (hL1.alloc _) (by simpa using items_two w1 ⟨2, 5, 0, 0, 0⟩ ⟨1, 5, 0, 0, 0⟩) listE_two_order).mono ?_
  rintro e w2 ⟨v, rfl, he, hb⟩
  have hL2 : Laid w2 := (hL1.alloc _).below hb
  have hB2 : Below w.heap.size w w2 := (hB.alloc hB.size _).trans (hb.mono (by simp; have := hB.size; omega))
  clear k0 k1
  go_wp2_with (go_at_call 21; refine (tell_any _ he hL2).mono ?_; rintro e w3 ⟨rfl, hb3⟩)
  go_ret
  exact ⟨rfl, hB2.trans (hb3.mono hB2.size)⟩
end Go.Proofs.YtcdcplocpdmjaaaDoor
