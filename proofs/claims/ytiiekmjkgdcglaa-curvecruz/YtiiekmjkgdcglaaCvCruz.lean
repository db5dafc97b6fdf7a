/-
  millracekeep.CurveCruz is true at every three rows of numbers; nothing that was there before is otherwise. Conditions: the numbers lie in memory, and a slice is no longer than its room.
-/
import Derived.Test.YtiiekmjkgdcglaaCvCome
namespace Go.Proofs.Ytiiekmjkgdcglaa
open Go.RowKit Go.Extern.Stop Go.Stop Go.Extern

set_option maxRecDepth 20000 in
set_option maxHeartbeats 1000000 in
theorem cruz_long (x y z : Option Addr) (cx cy cz n m l : Nat) (w : World) (m0 : n ≤ maxLen) (hn : 30 < n) :
    Calls Try.prog 4 #[.slice y m cy, .slice z l cz, .slice x n cx] w fun e w' => e = .returned (.bool true) ∧ Below w.heap.size w w' := by
  unfold maxLen at m0
  go_enter Try.func4, Try.ntmps4
  go_wp2_with fail
  refine (curved_true _).mono ?_
  rintro e w3 ⟨rfl, hb3⟩
  go_wp2
  go_ret
  exact ⟨rfl, hb3⟩
set_option maxRecDepth 20000 in
set_option maxHeartbeats 1000000 in
theorem cruz_no (x y z : Option Addr) (cx cy cz n m l : Nat) (g h : Nat → Int) (w : World) (hy : Row w y m g) (hz : Row w z l h) (m1 : m ≤ maxLen) (m2 : l ≤ maxLen) (hn : n ≤ 30) (hno : ¬ (lineOk m g ∧ lineOk l h)) :
    Calls Try.prog 4 #[.slice y m cy, .slice z l cz, .slice x n cx] w fun e w' => e = .returned (.bool true) ∧ Below w.heap.size w w' := by
  have HY : Hid (Row w y m g) := hy
  have HZ : Hid (Row w z l h) := hz
  have M1 : Hid (m ≤ maxLen) := m1
  have M2 : Hid (l ≤ maxLen) := m2
  have HN : Hid (¬ (lineOk m g ∧ lineOk l h)) := hno
  clear hy hz m1 m2 hno
  go_enter Try.func4, Try.ntmps4
  go_wp2_with fail
  refine (curved_true _).mono ?_
  rintro e w1 ⟨rfl, hb1⟩
  go_wp2_with fail
  refine (lines2 w1 y z cy cz m l g h (HY.out.below hb1) (HZ.out.below hb1) M1.out M2.out).mono ?_
  rintro e w2 ⟨⟨hh, rfl⟩ | ⟨_, rfl⟩, rfl⟩
  · exact absurd hh HN.out
  go_wp2_with fail
  refine (curved_true _).mono ?_
  rintro e w3 ⟨rfl, hb3⟩
  go_wp2
  go_ret
  exact ⟨rfl, (hb1.alloc hb1.size _).trans (hb3.mono (by simp; have := hb1.size; omega))⟩
set_option maxRecDepth 20000 in
set_option maxHeartbeats 1000000 in
theorem cruz_nz (x y z : Option Addr) (cx cy cz n m l : Nat) (g h : Nat → Int) (w : World) (hy : Row w y m g) (hz : Row w z l h) (hn : n ≤ 30) (k1 : lineOk m g) (k2 : lineOk l h) (hnz : ¬ g 0 = 0 ∨ ¬ h 0 = 0) :
    Calls Try.prog 4 #[.slice y m cy, .slice z l cz, .slice x n cx] w fun e w' => e = .returned (.bool true) ∧ Below w.heap.size w w' := by
  have HY : Hid (Row w y m g) := hy
  have HZ : Hid (Row w z l h) := hz
  have K1 : Hid (lineOk m g) := k1
  have K2 : Hid (lineOk l h) := k2
  have b1 := k1.1
  have b2 := k2.1
  have p1 := k1.2.1.pos
  have p2 := k2.2.1.pos
  obtain ⟨by', oy, rfl⟩ := hy.some p1
  obtain ⟨bz, oz, rfl⟩ := hz.some p2
  have HNZ : Hid (¬ g 0 = 0 ∨ ¬ h 0 = 0) := hnz
  clear hy hz k1 k2 hnz
  go_enter Try.func4, Try.ntmps4
  go_wp2_with fail
  refine (curved_true _).mono ?_
  rintro e w1 ⟨rfl, hb1⟩
  go_wp2_with fail
  refine (lines2 w1 (some ⟨by', oy, none⟩) (some ⟨bz, oz, none⟩) cy cz m l g h (HY.out.below hb1) (HZ.out.below hb1) (by unfold maxLen; omega) (by unfold maxLen; omega)).mono ?_
  rintro e w2 ⟨⟨_, rfl⟩ | ⟨hh, rfl⟩, rfl⟩
  case inr => exact absurd ⟨K1.out, K2.out⟩ hh
  have B2 : Hid (Below w.heap.size w (w1.alloc (.cells #[.slice (some ⟨by', oy, none⟩) m cy, .slice (some ⟨bz, oz, none⟩) l cz] 22))) := hb1.alloc hb1.size _
  clear hb1
  generalize w1.alloc (.cells #[.slice (some ⟨by', oy, none⟩) m cy, .slice (some ⟨bz, oz, none⟩) l cz] 22) = w2 at *
  have c1 := (HY.out.below B2.out).at (i := 0) (by omega)
  have c2 := (HZ.out.below B2.out).at (i := 0) (by omega)
  rw [Nat.add_zero] at c1 c2
  by_cases hg : h 0 = 0
  · have hh : ¬ g 0 = 0 := by rcases HNZ.out with h1 | h1
                              · exact h1
                              · exact absurd hg h1
    clear HNZ
    rw [hg] at c2
    generalize g 0 = v at *
    have hv : (v != 0) = true := by simpa using hh
    clear hg
    go_wp2_with fail
    refine (curved_true _).mono ?_
    rintro e w3 ⟨rfl, hb3⟩
    go_wp2
    go_ret
    exact ⟨rfl, B2.out.trans (hb3.mono B2.out.size)⟩
  · clear HNZ
    generalize h 0 = v at *
    have hv : (v != 0) = true := by simpa using hg
    go_wp2_with fail
    refine (curved_true _).mono ?_
    rintro e w3 ⟨rfl, hb3⟩
    go_wp2
    go_ret
    exact ⟨rfl, B2.out.trans (hb3.mono B2.out.size)⟩
end Go.Proofs.Ytiiekmjkgdcglaa
