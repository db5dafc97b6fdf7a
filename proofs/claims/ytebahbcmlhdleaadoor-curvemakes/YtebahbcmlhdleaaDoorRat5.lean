/-
  millracebig: den, Num, NewRat, SetInt64 of fractions, Mul of whole numbers: what lies behind the call, and what stays. Conditions: as in Rat4.
-/
import Derived.Test.YtebahbcmlhdleaaDoorRat4
namespace Go.Proofs.YtebahbcmlhdleaaDoor
open Go.RowKit Go.Deep

theorem slot_rat (w : World) : Slot (w.alloc (.cells #[.bool false, .slice none 0 0, .bool false, .slice none 0 0] 80)) w.heap.size 0 ∧ Slot (w.alloc (.cells #[.bool false, .slice none 0 0, .bool false, .slice none 0 0] 80)) w.heap.size 2 := ⟨⟨⟨false, by simp⟩, ⟨none, 0, 0, by simp⟩, by simp, by simp⟩, ⟨⟨false, by simp⟩, ⟨none, 0, 0, by simp⟩, by simp, by simp⟩⟩

set_option maxHeartbeats 1000000 in
theorem den_any (b : Nat) (p q : Int) (w : World) (h : RatAt w b p q) (hq : q ≠ 0) : Calls Tryd.prog 54 #[.pointer (some ⟨b, 0, none⟩)] w fun e w' => e = .returned (.pointer (some ⟨b, 2, none⟩)) ∧ w' = w := by
  obtain ⟨_, ⟨b1, vb, b2, b3⟩, _, _⟩ := h
  obtain ⟨xb, kb, cb, rfl, hb1, hb2⟩ := b3.form
  have e0 : ((kb : Int) == 0) = false := by simp; omega
  clear hb2 b3 hq
  go_enter Tryd.func54, Tryd.ntmps54
  go_wp2
  go_ret
  exact ⟨rfl, rfl⟩

theorem num_any (b : Nat) (w : World) : Calls Tryd.prog 36 #[.pointer (some ⟨b, 0, none⟩)] w fun e w' => e = .returned (.pointer (some ⟨b, 0, none⟩)) ∧ w' = w := by
  go_enter Tryd.func36, Tryd.ntmps36
  go_wp2
  go_ret
  exact ⟨rfl, rfl⟩

set_option maxHeartbeats 2000000 in
theorem newRat_any (a d : Int) (w : World) (ha : -9223372036854775808 ≤ a ∧ a ≤ 9223372036854775807) (hd : 1 ≤ d ∧ d ≤ 9223372036854775807) :
    Calls Tryd.prog 41 #[.int .i64 a, .int .i64 d] w fun e w' => ∃ b, e = .returned (.pointer (some ⟨b, 0, none⟩)) ∧ w.heap.size ≤ b ∧ RatAt w' b (a / (gcdOf a d : Int)) (d / (gcdOf a d : Int)) ∧ Below w.heap.size w w' := by
  have HA : Hid (-9223372036854775808 ≤ a ∧ a ≤ 9223372036854775807) := ha
  have HD : Hid (1 ≤ d ∧ d ≤ 9223372036854775807) := hd
  have e0 : (d == 0) = false := by simp; omega
  clear ha hd
  go_enter Tryd.func41, Tryd.ntmps41
  go_wp2_with fail
  refine (newInt_any a HA.out _).mono ?_
  rintro e w1 ⟨b1, rfl, g1, i1, s1, l1⟩
  have HI1 : Hid (IntAt w1 b1 0 a ∧ Below (w.heap.size + 1) (w.alloc (.cells #[.bool false, .slice none 0 0, .bool false, .slice none 0 0] 80)) w1) := ⟨i1, by simpa using l1⟩
  clear g1 i1 s1 l1
  go_wp2_with fail
  refine (newInt_any d (by have := HD.out; omega) _).mono ?_
  rintro e w2 ⟨b2, rfl, g2, i2, s2, l2⟩
  have HI2 : Hid (IntAt w2 b1 0 a ∧ IntAt w2 b2 0 d ∧ Below (w.heap.size + 1) (w.alloc (.cells #[.bool false, .slice none 0 0, .bool false, .slice none 0 0] 80)) w2) := ⟨HI1.out.1.below l2, i2, HI1.out.2.trans (l2.mono (by have := HI1.out.2.size; simpa using this))⟩
  clear g2 i2 s2 l2
  go_wp2_with fail
  refine (setFrac_any w.heap.size b1 0 b2 0 a d _ ((slot_rat w).1.below (by simpa using HI2.out.2.2)) ((slot_rat w).2.below (by simpa using HI2.out.2.2)) HI2.out.1 HI2.out.2.1 HD.out.1 (by have := HA.out; omega) (by have := HD.out; omega)).mono ?_
  rintro e w3 ⟨rfl, h1, h2⟩
  have hb2 : Below w.heap.size w w2 := ((Below.refl _ _).alloc (Nat.le_refl _) _).trans (HI2.out.2.2.mono (by omega))
  have HH : Hid (RatAt w3 w.heap.size (a / (gcdOf a d : Int)) (d / (gcdOf a d : Int)) ∧ Below w.heap.size w w3) := ⟨h1, hb2.trans (h2.below (Nat.le_refl _) hb2.size)⟩
  clear h1 h2 hb2
  go_wp2
  go_ret
  exact ⟨_, rfl, Nat.le_refl _, HH.out.1, HH.out.2⟩

set_option maxHeartbeats 2000000 in
theorem rsetInt64_any (b : Nat) (a : Int) (w : World) (hs1 : Slot w b 0) (hs2 : Slot w b 2) (ha : -9223372036854775808 ≤ a ∧ a ≤ 9223372036854775807) :
    Calls Tryd.prog 40 #[.pointer (some ⟨b, 0, none⟩), .int .i64 a] w fun e w' => e = .returned (.pointer (some ⟨b, 0, none⟩)) ∧ RatAt w' b a 1 ∧ UpdR b w w' := by
  have HS : Hid (Slot w b 0 ∧ Slot w b 2) := ⟨hs1, hs2⟩
  have HA : Hid (-9223372036854775808 ≤ a ∧ a ≤ 9223372036854775807) := ha
  clear hs1 hs2 ha
  go_enter Tryd.func40, Tryd.ntmps40
  go_wp2_with fail
  refine (newInt_any a HA.out _).mono ?_
  rintro e w1 ⟨b1, rfl, g1, i1, s1, l1⟩
  have HI1 : Hid (IntAt w1 b1 0 a ∧ Below w.heap.size w w1) := ⟨i1, l1⟩
  clear g1 i1 s1 l1
  go_wp2_with fail
  refine (newInt_any 1 (by omega) _).mono ?_
  rintro e w2 ⟨b2, rfl, g2, i2, s2, l2⟩
  have HI2 : Hid (IntAt w2 b1 0 a ∧ IntAt w2 b2 0 1 ∧ Below w.heap.size w w2) := ⟨HI1.out.1.below l2, i2, HI1.out.2.trans (l2.mono HI1.out.2.size)⟩
  clear g2 i2 s2 l2
  go_wp2_with fail
  refine (setFrac_any b b1 0 b2 0 a 1 _ (HS.out.1.below HI2.out.2.2) (HS.out.2.below HI2.out.2.2) HI2.out.1 HI2.out.2.1 (by omega) (by have := HA.out; omega) (by omega)).mono ?_
  rintro e w3 ⟨rfl, h1, h2⟩
  rw [(gcdOf_one a).1, (gcdOf_one a).2] at h1
  have HH : Hid (RatAt w3 b a 1 ∧ UpdR b w w3) := ⟨h1, (UpdR.of_below HI2.out.2.2).trans h2⟩
  clear h1 h2
  go_wp2
  go_ret
  exact ⟨rfl, HH.out.1, HH.out.2⟩

theorem lt_100 {n : Nat} (h : n < 18446744073709551616) : n < 4294967296 ^ 100 := Nat.lt_of_lt_of_le h (by decide)
end Go.Proofs.YtebahbcmlhdleaaDoor
