/-
  millraceref.RedCheck: whether room, setup and tape may be. No condition.
-/
import Derived.Test.YtljciioooojpeaaDoorQg
import Derived.Test.YtljciioooojpeaaDoorRd8
namespace Go.Proofs.YtljciioooojpeaaDoor
open Go.RowKit Go.Extern.Stop Go.Stop Go.Extern

theorem redCheck_room (q : RSet) (P R : Int) (px : Option Addr) (m pcap : Nat) (w : World) (h : ¬ (0 ≤ P ∧ P ≤ 1000000 ∧ 0 ≤ R ∧ R ≤ 1000000)) : Calls Tryd.prog 11 #[.agg #[.int .i64 q.lo, .int .i64 q.hi, .int .i64 q.often, .int .i64 q.sl, .bool q.mrk], .int .i64 P, .int .i64 R, .slice px m pcap] w fun e w' => e = .returned (.int .i64 2) ∧ Below w.heap.size w w' := by
  have hr : roomE P R = 2 := by unfold roomE; rw [if_neg h]
  have HRM : Hid (∀ W : World, Calls Tryd.prog 24 #[.int .i64 P, .int .i64 R] W fun e w' => e = .returned (.int .i64 2) ∧ w' = W) := fun W => by have := room_any P R W; rw [hr] at this; exact this
  clear h hr
  go_enter Tryd.func11, Tryd.ntmps11
  go_wp2_with (first | (go_at_call 24; refine (HRM.out _).mono ?_; rintro e w1 ⟨rfl, hw1⟩; subst hw1))
  go_ret
  exact ⟨rfl, below_alloc_ (Below.refl _ _) _⟩
theorem redCheck_yes (q : RSet) (P R : Int) (px : Option Addr) (m pcap : Nat) (w : World) (hP : 0 ≤ P ∧ P ≤ 1000000 ∧ 0 ≤ R ∧ R ≤ 1000000) (hq : q.Ok) (hm : m ≤ 1000) : Calls Tryd.prog 11 #[.agg #[.int .i64 q.lo, .int .i64 q.hi, .int .i64 q.often, .int .i64 q.sl, .bool q.mrk], .int .i64 P, .int .i64 R, .slice px m pcap] w fun e w' => e = .returned (.int .i64 0) ∧ Below w.heap.size w w' := by
  have hr : roomE P R = 0 := by unfold roomE; rw [if_pos hP]
  have HRM : Hid (∀ W : World, Calls Tryd.prog 24 #[.int .i64 P, .int .i64 R] W fun e w' => e = .returned (.int .i64 0) ∧ w' = W) := fun W => by have := room_any P R W; rw [hr] at this; exact this
  obtain ⟨h1, h2, h3, h4, h5, h6, h7⟩ := hq
  have HW1 : Hid (∀ W : World, Calls Tryd.prog 25 #[.int .i64 q.often, .int .i64 1, .int .i64 1000] W fun e w' => e = .returned (.bool true) ∧ w' = W) := fun W => within_yes q.often 1 1000 W (by omega) (by omega)
  have HW2 : Hid (∀ W : World, Calls Tryd.prog 25 #[.int .i64 q.sl, .int .i64 0, .int .i64 10] W fun e w' => e = .returned (.bool true) ∧ w' = W) := fun W => within_yes q.sl 0 10 W (by omega) (by omega)
  clear hr hP
  go_enter Tryd.func11, Tryd.ntmps11
  go_wp2_with (first | (go_at_call 24; refine (HRM.out _).mono ?_; rintro e w1 ⟨rfl, hw1⟩; subst hw1) | (go_at_call 25; (with_reducible refine (HW1.out _).mono ?_); rintro e w2 ⟨rfl, hw2⟩; subst hw2) | (go_at_call 25; (with_reducible refine (HW2.out _).mono ?_); rintro e w2 ⟨rfl, hw2⟩; subst hw2))
  go_ret
  exact ⟨rfl, below_alloc_ (Below.refl _ _) _⟩
theorem redCheck_tape (q : RSet) (P R : Int) (px : Option Addr) (m pcap : Nat) (w : World) (hP : 0 ≤ P ∧ P ≤ 1000000 ∧ 0 ≤ R ∧ R ≤ 1000000) (hq : q.Ok) (hm : 1000 < m) (hm1 : m ≤ 9223372036854775807) : Calls Tryd.prog 11 #[.agg #[.int .i64 q.lo, .int .i64 q.hi, .int .i64 q.often, .int .i64 q.sl, .bool q.mrk], .int .i64 P, .int .i64 R, .slice px m pcap] w fun e w' => e = .returned (.int .i64 4) ∧ Below w.heap.size w w' := by
  have hr : roomE P R = 0 := by unfold roomE; rw [if_pos hP]
  have HRM : Hid (∀ W : World, Calls Tryd.prog 24 #[.int .i64 P, .int .i64 R] W fun e w' => e = .returned (.int .i64 0) ∧ w' = W) := fun W => by have := room_any P R W; rw [hr] at this; exact this
  obtain ⟨h1, h2, h3, h4, h5, h6, h7⟩ := hq
  have HW1 : Hid (∀ W : World, Calls Tryd.prog 25 #[.int .i64 q.often, .int .i64 1, .int .i64 1000] W fun e w' => e = .returned (.bool true) ∧ w' = W) := fun W => within_yes q.often 1 1000 W (by omega) (by omega)
  have HW2 : Hid (∀ W : World, Calls Tryd.prog 25 #[.int .i64 q.sl, .int .i64 0, .int .i64 10] W fun e w' => e = .returned (.bool true) ∧ w' = W) := fun W => within_yes q.sl 0 10 W (by omega) (by omega)
  clear hr hP
  go_enter Tryd.func11, Tryd.ntmps11
  go_wp2_with (first | (go_at_call 24; refine (HRM.out _).mono ?_; rintro e w1 ⟨rfl, hw1⟩; subst hw1) | (go_at_call 25; (with_reducible refine (HW1.out _).mono ?_); rintro e w2 ⟨rfl, hw2⟩; subst hw2) | (go_at_call 25; (with_reducible refine (HW2.out _).mono ?_); rintro e w2 ⟨rfl, hw2⟩; subst hw2))
  go_ret
  exact ⟨rfl, below_alloc_ (Below.refl _ _) _⟩
theorem redCheck_setup (q : RSet) (P R : Int) (px : Option Addr) (m pcap : Nat) (w : World) (hP : 0 ≤ P ∧ P ≤ 1000000 ∧ 0 ≤ R ∧ R ≤ 1000000) (hq : ¬ q.Ok) : Calls Tryd.prog 11 #[.agg #[.int .i64 q.lo, .int .i64 q.hi, .int .i64 q.often, .int .i64 q.sl, .bool q.mrk], .int .i64 P, .int .i64 R, .slice px m pcap] w fun e w' => e = .returned (.int .i64 2) ∧ Below w.heap.size w w' := by
  have hr : roomE P R = 0 := by unfold roomE; rw [if_pos hP]
  have HRM : Hid (∀ W : World, Calls Tryd.prog 24 #[.int .i64 P, .int .i64 R] W fun e w' => e = .returned (.int .i64 0) ∧ w' = W) := fun W => by have := room_any P R W; rw [hr] at this; exact this
  clear hr hP
  by_cases h1 : q.lo < 0
  · clear hq
    go_enter Tryd.func11, Tryd.ntmps11
    go_wp2_with (first | (go_at_call 24; refine (HRM.out _).mono ?_; rintro e w1 ⟨rfl, hw1⟩; subst hw1))
    go_ret
    exact ⟨rfl, below_alloc_ (Below.refl _ _) _⟩
  by_cases h2 : q.hi ≤ q.lo
  · clear hq
    go_enter Tryd.func11, Tryd.ntmps11
    go_wp2_with (first | (go_at_call 24; refine (HRM.out _).mono ?_; rintro e w1 ⟨rfl, hw1⟩; subst hw1))
    go_ret
    exact ⟨rfl, below_alloc_ (Below.refl _ _) _⟩
  by_cases h3 : 1000000 < q.hi
  · clear hq
    go_enter Tryd.func11, Tryd.ntmps11
    go_wp2_with (first | (go_at_call 24; refine (HRM.out _).mono ?_; rintro e w1 ⟨rfl, hw1⟩; subst hw1))
    go_ret
    exact ⟨rfl, below_alloc_ (Below.refl _ _) _⟩
  by_cases h4 : 1 ≤ q.often ∧ q.often ≤ 1000
  · have HW1 : Hid (∀ W : World, Calls Tryd.prog 25 #[.int .i64 q.often, .int .i64 1, .int .i64 1000] W fun e w' => e = .returned (.bool true) ∧ w' = W) := fun W => within_yes q.often 1 1000 W (by omega) (by omega)
    by_cases h5 : 0 ≤ q.sl ∧ q.sl ≤ 10
    · exact absurd ⟨by omega, by omega, by omega, h4.1, h4.2, h5.1, h5.2⟩ hq
    · have HW2 : Hid (∀ W : World, Calls Tryd.prog 25 #[.int .i64 q.sl, .int .i64 0, .int .i64 10] W fun e w' => e = .returned (.bool false) ∧ w' = W) := fun W => within_no q.sl 0 10 W (by omega)
      clear hq h5
      go_enter Tryd.func11, Tryd.ntmps11
      go_wp2_with (first | (go_at_call 24; refine (HRM.out _).mono ?_; rintro e w1 ⟨rfl, hw1⟩; subst hw1) | (go_at_call 25; (with_reducible refine (HW1.out _).mono ?_); rintro e w2 ⟨rfl, hw2⟩; subst hw2) | (go_at_call 25; (with_reducible refine (HW2.out _).mono ?_); rintro e w2 ⟨rfl, hw2⟩; subst hw2))
      go_ret
      exact ⟨rfl, below_alloc_ (Below.refl _ _) _⟩
  · have HW1 : Hid (∀ W : World, Calls Tryd.prog 25 #[.int .i64 q.often, .int .i64 1, .int .i64 1000] W fun e w' => e = .returned (.bool false) ∧ w' = W) := fun W => within_no q.often 1 1000 W (by omega)
    clear hq h4
    go_enter Tryd.func11, Tryd.ntmps11
    go_wp2_with (first | (go_at_call 24; refine (HRM.out _).mono ?_; rintro e w1 ⟨rfl, hw1⟩; subst hw1) | (go_at_call 25; (with_reducible refine (HW1.out _).mono ?_); rintro e w2 ⟨rfl, hw2⟩; subst hw2))
    go_ret
    exact ⟨rfl, below_alloc_ (Below.refl _ _) _⟩
end Go.Proofs.YtljciioooojpeaaDoor
