/-
  millraceref: Int, Speed, div, down, up, Takes: what each returns. Conditions: numbers below 2^63, a rate that may be.
-/
import Derived.Test.YtebahbcmlhdleaaDoorRat12
namespace Go.Proofs.YtebahbcmlhdleaaDoor
open Go.RowKit Go.Deep

/-- In this block lies a fraction that equals P/Q, in terms not greater. -/
def Frac (w : World) (b : Nat) (P Q : Int) : Prop := ∃ a c, RatAt w b a c ∧ 1 ≤ c ∧ a * Q = P * c ∧ a.natAbs ≤ P.natAbs ∧ c.natAbs ≤ Q.natAbs
theorem Frac.below {w w' : World} {b : Nat} {P Q : Int} (h : Frac w b P Q) (hb : Below w.heap.size w w') : Frac w' b P Q := by
  obtain ⟨a, c, h1, h2⟩ := h
  exact ⟨a, c, h1.below hb, h2⟩

theorem reduced (a d : Int) (hd : 1 ≤ d) : 1 ≤ d / (gcdOf a d : Int) ∧ a / (gcdOf a d : Int) * d = a * (d / (gcdOf a d : Int)) ∧ (a / (gcdOf a d : Int)).natAbs ≤ a.natAbs ∧ (d / (gcdOf a d : Int)).natAbs ≤ d.natAbs := by
  have g0 : 0 < gcdOf a d := Nat.gcd_pos_of_pos_right _ (by omega)
  have h1 : (gcdOf a d : Int) ∣ a := Int.ofNat_dvd_left.2 (Nat.gcd_dvd_left _ _)
  have h2 : (gcdOf a d : Int) ∣ d := Int.ofNat_dvd_left.2 (Nat.gcd_dvd_right _ _)
  generalize gcdOf a d = g at *
  obtain ⟨x, rfl⟩ := h1
  obtain ⟨y, rfl⟩ := h2
  have gz : (g : Int) ≠ 0 := by omega
  rw [Int.mul_ediv_cancel_left _ gz, Int.mul_ediv_cancel_left _ gz]
  refine ⟨?_, ?_, ?_, ?_⟩
  · by_cases h : 0 < y
    · omega
    · exfalso
      have : (g : Int) * y ≤ 0 := Int.mul_nonpos_of_nonneg_of_nonpos (by omega) (by omega)
      omega
  · rw [Int.mul_left_comm, Int.mul_assoc]
  · rw [Int.natAbs_mul]; exact Nat.le_mul_of_pos_left _ (by simpa using g0)
  · rw [Int.natAbs_mul]; exact Nat.le_mul_of_pos_left _ (by simpa using g0)

theorem Frac.of {w : World} {b : Nat} {a d : Int} (hd : 1 ≤ d) (h : RatAt w b (a / (gcdOf a d : Int)) (d / (gcdOf a d : Int))) : Frac w b a d := by
  obtain ⟨h1, h2, h3, h4⟩ := reduced a d hd
  exact ⟨_, _, h, h1, h2, h3, h4⟩
theorem cross {a c a' c' P Q : Int} (hc : 1 ≤ c) (h1 : a * Q = P * c) (h2 : a' * c = a * c') : a' * Q = P * c' := by
  have e : c * (a' * Q) = c * (P * c') := by
    calc c * (a' * Q) = (a' * c) * Q := by rw [← Int.mul_assoc, Int.mul_comm c a']
      _ = (a * c') * Q := by rw [h2]
      _ = (a * Q) * c' := by rw [Int.mul_assoc, Int.mul_comm c' Q, ← Int.mul_assoc]
      _ = (P * c) * c' := by rw [h1]
      _ = c * (P * c') := by rw [Int.mul_comm P c, Int.mul_assoc]
  exact Int.eq_of_mul_eq_mul_left (by omega) e
theorem frac_floor {a c P Q : Int} (hc : 1 ≤ c) (hQ : 1 ≤ Q) (h : a * Q = P * c) : a / c = P / Q := by
  rw [← Int.mul_ediv_mul_of_pos_left a c (show 0 < Q by omega), h, Int.mul_comm c Q, Int.mul_ediv_mul_of_pos_left P Q (by omega)]
theorem floor_abs (P Q : Int) : (P / Q).natAbs ≤ P.natAbs := Int.natAbs_ediv_le_natAbs P Q

set_option maxHeartbeats 2000000 in
theorem down_any (b : Nat) (a c : Int) (w : World) (h : RatAt w b a c) (hc : 1 ≤ c) (la : a.natAbs < 9223372036854775808) (lc : c.natAbs < 9223372036854775808) :
    Calls Tryd.prog 17 #[.pointer (some ⟨b, 0, none⟩)] w fun e w' => e = .returned (.int .i64 (a / c)) ∧ Below w.heap.size w w' := by
  have hb0 := alloc_below w #[.bool false, .slice none 0 0] 75
  have HR : Hid (RatAt (w.alloc (.cells #[.bool false, .slice none 0 0] 75)) b a c ∧ Below w.heap.size w (w.alloc (.cells #[.bool false, .slice none 0 0] 75))) := ⟨h.below hb0, hb0⟩
  have HL : Hid (1 ≤ c ∧ a.natAbs < 9223372036854775808 ∧ c.natAbs < 9223372036854775808) := ⟨hc, la, lc⟩
  have HV : Hid ((a / c).natAbs < 9223372036854775808) := Nat.lt_of_le_of_lt (floor_abs a c) la
  clear h hc la lc hb0
  go_enter Tryd.func17, Tryd.ntmps17
  go_wp2_with fail
  refine (num_any b _).mono ?_
  rintro e w1 ⟨rfl, rfl⟩
  go_wp2_with fail
  refine (denom_any b a c _ HR.out.1 (by have := HL.out; omega)).mono ?_
  rintro e w1 ⟨k, rfl, g1, i1, l1⟩
  have H1 : Hid (IntAt w1 b 0 a ∧ IntAt w1 k 0 c ∧ Slot w1 w.heap.size 0 ∧ Below w.heap.size w w1) := ⟨HR.out.1.num.below l1, i1, (slot_new w).below l1, HR.out.2.trans (l1.mono HR.out.2.size)⟩
  clear g1 i1 l1
  go_wp2_with fail
  refine (idiv_any w.heap.size 0 b 0 k 0 a c _ H1.out.2.2.1 H1.out.1 H1.out.2.1 (by have := HL.out; omega) (by have := HL.out; omega) (by have := HL.out; omega)).mono ?_
  rintro e w2 ⟨rfl, i2, s2, u2⟩
  have H2 : Hid (IntAt w2 w.heap.size 0 (a / c) ∧ Below w.heap.size w w2) := ⟨i2, H1.out.2.2.2.trans (u2 _ (Nat.le_refl _) H1.out.2.2.2.size)⟩
  clear i2 s2 u2
  go_wp2_with fail
  refine (int64_any w.heap.size 0 (a / c) _ H2.out.1 HV.out).mono ?_
  rintro e w3 ⟨rfl, rfl⟩
  go_wp2
  go_ret
  exact ⟨rfl, H2.out.2⟩

/-- Rounded up. -/
def ceil (P Q : Int) : Int := -((-P) / Q)

set_option maxHeartbeats 1000000 in
theorem refInt_any (x : Int) (w : World) (hx : -9223372036854775808 ≤ x ∧ x ≤ 9223372036854775807) :
    Calls Tryd.prog 19 #[.int .i64 x] w fun e w' => ∃ b, e = .returned (.pointer (some ⟨b, 0, none⟩)) ∧ w.heap.size ≤ b ∧ Frac w' b x 1 ∧ Below w.heap.size w w' := by
  have hb0 := alloc_below w #[.bool false, .slice none 0 0, .bool false, .slice none 0 0] 80
  have HB : Hid (Below w.heap.size w (w.alloc (.cells #[.bool false, .slice none 0 0, .bool false, .slice none 0 0] 80))) := hb0
  have HX : Hid (-9223372036854775808 ≤ x ∧ x ≤ 9223372036854775807) := hx
  clear hb0 hx
  go_enter Tryd.func19, Tryd.ntmps19
  go_wp2_with fail
  refine (rsetInt64_any w.heap.size x _ (slot_rat w).1 (slot_rat w).2 HX.out).mono ?_
  rintro e w1 ⟨rfl, h1, u1⟩
  have H1 : Hid (Frac w1 w.heap.size x 1 ∧ Below w.heap.size w w1) := ⟨⟨x, 1, h1, by omega, rfl, Nat.le_refl _, Nat.le_refl _⟩, HB.out.trans (u1.below (Nat.le_refl _) HB.out.size)⟩
  clear h1 u1
  go_wp2
  go_ret
  exact ⟨_, rfl, Nat.le_refl _, H1.out.1, H1.out.2⟩

set_option maxHeartbeats 1000000 in
theorem refSpeed_any (n t : Int) (w : World) (hn : -9223372036854775808 ≤ n ∧ n ≤ 9223372036854775807) (ht : 1 ≤ t ∧ t ≤ 9223372036854775807) :
    Calls Tryd.prog 20 #[.agg #[.int .i64 n, .int .i64 t]] w fun e w' => ∃ b, e = .returned (.pointer (some ⟨b, 0, none⟩)) ∧ w.heap.size ≤ b ∧ Frac w' b n t ∧ Below w.heap.size w w' := by
  have hb0 := alloc_below w #[.int .i64 n, .int .i64 t] 23
  have HB : Hid (Below w.heap.size w (w.alloc (.cells #[.int .i64 n, .int .i64 t] 23))) := hb0
  have HN : Hid ((-9223372036854775808 ≤ n ∧ n ≤ 9223372036854775807) ∧ (1 ≤ t ∧ t ≤ 9223372036854775807)) := ⟨hn, ht⟩
  clear hb0 hn ht
  go_enter Tryd.func20, Tryd.ntmps20
  go_wp2_with fail
  refine (newRat_any n t _ HN.out.1 HN.out.2).mono ?_
  rintro e w1 ⟨b1, rfl, g1, h1, l1⟩
  have H1 : Hid (w.heap.size ≤ b1 ∧ Frac w1 b1 n t ∧ Below w.heap.size w w1) := ⟨Nat.le_trans HB.out.size g1, Frac.of HN.out.2.1 h1, HB.out.trans (l1.mono HB.out.size)⟩
  clear g1 h1 l1
  go_wp2
  go_ret
  exact ⟨_, rfl, H1.out.1, H1.out.2.1, H1.out.2.2⟩

end Go.Proofs.YtebahbcmlhdleaaDoor
