/-
  shaper.New. Conditions: none beyond a bucket that may be.
-/
import Derived.Test.YtgklojgflcekoaaDoorSp4
namespace Go.Proofs.YtgklojgflcekoaaDoor
open Go.RowKit Go.Extern.Stop Go.Stop Go.Extern

theorem snew_no (n t R : Int) (ty : TypeId) (rv : Value) (w : World) (h : ¬ okB n t R) :
    Calls Tryd.prog 7 #[.agg #[.int .i64 n, .int .i64 t, .int .i64 R], .iface ty rv] w fun e w' => e = .returned (.tuple #[.pointer none, .iface 52 (.int .i64 2)]) ∧ Below w.heap.size w w' := by
  have H : Hid (¬ okB n t R) := h
  clear h
  go_enter Tryd.func7, Tryd.ntmps7
  go_wp2_with (go_at_call 11; refine (new_no _ _ _ _ H.out).mono ?_; rintro e w1 ⟨rfl, hb1⟩)
  go_ret2
  exact ⟨rfl, ((Below.refl _ _).alloc (Nat.le_refl _) _).trans (hb1.mono (by simp))⟩
theorem snew_yes (n t R : Int) (ty : TypeId) (rv : Value) (w : World) (h : okB n t R) :
    Calls Tryd.prog 7 #[.agg #[.int .i64 n, .int .i64 t, .int .i64 R], .iface ty rv] w fun e w' => ∃ B, e = .returned (.tuple #[.pointer (some ⟨B, 0, none⟩), .nilIface]) ∧ w.heap.size < B ∧ StG w' B 1 [.iface ty rv] (shPost hd0 false) 68 n t R (R * t) 0 ∧ Below w.heap.size w w' := by
  have H : Hid (okB n t R) := h
  clear h
  go_enter Tryd.func7, Tryd.ntmps7
  go_wp2_with fail
  refine (new_yes _ _ _ _ H.out).mono ?_
  rintro e w1 ⟨s, rfl, hs, hst, hb1⟩
  have hB : Below w.heap.size w w1 := ((Below.refl _ _).alloc (Nat.le_refl _) _).trans (hb1.mono (by simp))
  have hlt := hst.lt
  obtain ⟨c0, c1, c2, c3, c4, _, _⟩ := hst.cells
  clear hst
  go_wp2
  go_ret2
  exact ⟨_, rfl, by simp at hs; omega, ⟨rfl, new_block _ _⟩, hB.alloc hB.size _⟩

end Go.Proofs.YtgklojgflcekoaaDoor
