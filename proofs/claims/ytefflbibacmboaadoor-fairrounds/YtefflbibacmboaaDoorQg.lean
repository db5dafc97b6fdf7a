/-
  millracelaw.QueueFifo: it returns true at every room, at either end, and for all steps; nothing that was there before is otherwise. Conditions: the steps lie in memory; errors.errorType holds its handle.
-/
import Derived.Test.YtefflbibacmboaaDoorPe
import Derived.Test.YtefflbibacmboaaDoorEp
namespace Go.Proofs.YtefflbibacmboaaDoor
open Go.RowKit Go.Extern.Stop Go.Stop Go.Extern

/-- What room may be. -/
def roomE (P R : Int) : Int := if 0 ≤ P ∧ P ≤ 1000000 ∧ 0 ≤ R ∧ R ≤ 1000000 then 0 else 2
theorem room_any (P R : Int) (w : World) : Calls Tryd.prog 24 #[.int .i64 P, .int .i64 R] w fun e w' => e = .returned (.int .i64 (roomE P R)) ∧ w' = w := by
  by_cases h1 : 0 ≤ P ∧ P ≤ 1000000
  · by_cases h2 : 0 ≤ R ∧ R ≤ 1000000
    · have HE : Hid (roomE P R = 0) := by show _ = _; unfold roomE; rw [if_pos (by omega)]
      have HY1 := within_yes P 0 1000000 w h1.1 h1.2
      have HY2 := within_yes R 0 1000000 w h2.1 h2.2
      clear h1 h2
      go_enter Tryd.func24, Tryd.ntmps24
      go_wp2_with fail
      refine HY1.mono ?_
      rintro e w1 ⟨rfl, hw1⟩
      subst hw1
      go_wp2_with fail
      refine HY2.mono ?_
      rintro e w2 ⟨rfl, hw2⟩
      subst hw2
      go_wp2
      go_ret
      exact ⟨by rw [HE.out]; rfl, rfl⟩
    · have HE : Hid (roomE P R = 2) := by show _ = _; unfold roomE; rw [if_neg (by omega)]
      have HY1 := within_yes P 0 1000000 w h1.1 h1.2
      have HY2 := within_no R 0 1000000 w (by omega)
      clear h1 h2
      go_enter Tryd.func24, Tryd.ntmps24
      go_wp2_with fail
      refine HY1.mono ?_
      rintro e w1 ⟨rfl, hw1⟩
      subst hw1
      go_wp2_with fail
      refine HY2.mono ?_
      rintro e w2 ⟨rfl, hw2⟩
      subst hw2
      go_wp2
      go_ret
      exact ⟨by rw [HE.out]; rfl, rfl⟩
  · have HE : Hid (roomE P R = 2) := by show _ = _; unfold roomE; rw [if_neg (by omega)]
    have HY1 := within_no P 0 1000000 w (by omega)
    clear h1
    go_enter Tryd.func24, Tryd.ntmps24
    go_wp2_with fail
    refine HY1.mono ?_
    rintro e w1 ⟨rfl, hw1⟩
    subst hw1
    go_wp2
    go_ret
    exact ⟨by rw [HE.out]; rfl, rfl⟩
theorem fifo_agree (b b' : Nat) (P R : Int) (hd : Bool) : Agree (FifoM b P R hd) (RFifoM b' P R hd) (fun (s : List Hd) (r : List Hd) => s = r) where
  put := by
    rintro (s : List Hd) (r : List Hd) t n now x rfl _ _ _ _ _ _ _ _ _
    exact ⟨rfl, rfl⟩
  take := by
    rintro (s : List Hd) (r : List Hd) t n now rfl _ _ _ _ _ _
    exact ⟨rfl, rfl⟩
  when := by
    rintro (s : List Hd) (r : List Hd) t n now rfl _ _ _ _ _ _
    exact ⟨rfl, fun _ => rfl, rfl⟩
  len := by
    rintro (s : List Hd) (r : List Hd) t n rfl _ _
    exact ⟨rfl, rfl⟩
theorem ptrF (b : Nat) (w : World) : (binOp .eql 78 (.pointer (some ⟨b, 0, none⟩)) (.pointer none)).run Tryd.prog w = .ok (.bool false) w := by kernel_rfl
theorem ptrN (w : World) : (binOp .eql 78 (.pointer none) (.pointer none)).run Tryd.prog w = .ok (.bool true) w := by kernel_rfl
end Go.Proofs.YtefflbibacmboaaDoor
