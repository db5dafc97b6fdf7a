/-
  millraceref: Int, Speed, div, down, up, Takes: what each returns. Conditions: numbers below 2^63, a rate that may be.
-/
import Derived.Test.YtamdbfdljkldeaaDoorRat12
namespace Go.Proofs.YtamdbfdljkldeaaDoor
open Go.RowKit Go.Deep

/-- In this block lies a fraction that equals P/Q, in terms not greater. -/
def Frac (w : World) (b : Nat) (P Q : Int) : Prop := ∃ a c, RatAt w b a c ∧ 1 ≤ c ∧ a * Q = P * c ∧ a.natAbs ≤ P.natAbs ∧ c.natAbs ≤ Q.natAbs
theorem Frac.below {w w' : World} {b : Nat} {P Q : Int} (h : Frac w b P Q) (hb : Below w.heap.size w w') : Frac w' b P Q := by
  obtain ⟨a, c, h1, h2⟩ := h
  exact ⟨a, c, h1.below hb, h2⟩

theorem reduced (a d : Int) (hd : 1 ≤ d) : 1 ≤ d / (gcdOf a d : Int) ∧ a / (gcdOf a d : Int) * d = a * (d / (gcdOf a d : Int)) ∧ (a / (gcdOf a d : Int)).natAbs ≤ a.natAbs ∧ (d / (gcdOf a d : Int)).natAbs ≤ d.natAbs := by
  have g0 : 0 < gcdOf a d := Nat.gcd_pos_of_pos_right _ (by omega)
  have h1 : (gcdOf a d : Int) ∣ a := Int.ofNat_dvd_left.2 (Nat.gcd_dvd_left _ _)
  have h2 : (gcdOf a d : Int) ∣ d := Int.ofNat_dvd_left.2 (Nat.gcd_dvd_right _ _)
  generalize gcdOf a d = g at *
  obtain ⟨x, rfl⟩ := h1
  obtain ⟨y, rfl⟩ := h2
  have gz : (g : Int) ≠ 0 := by omega
  rw [Int.mul_ediv_cancel_left _ gz, Int.mul_ediv_cancel_left _ gz]
  refine ⟨?_, ?_, ?_, ?_⟩
  · by_cases h : 0 < y
    · omega
    · exfalso
      have : (g : Int) * y ≤ 0 := Int.mul_nonpos_of_nonneg_of_nonpos (by omega) (by omega)
      omega
  · rw [Int.mul_left_comm, Int.mul_assoc]
  · rw [Int.natAbs_mul]; exact Nat.le_mul_of_pos_left _ (by simpa using g0)
  · rw [Int.natAbs_mul]; exact Nat.le_mul_of_pos_left _ (by simpa using g0)

theorem Frac.of {w : World} {b : Nat} {a d : Int} (hd : 1 ≤ d) (h : RatAt w b (a / (gcdOf a d : Int)) (d / (gcdOf a d : Int))) : Frac w b a d := by
  obtain ⟨h1, h2, h3, h4⟩ := reduced a d hd
  exact ⟨_, _, h, h1, h2, h3, h4⟩
theorem cross {a c a' c' P Q : Int} (hc : 1 ≤ c) (h1 : a * Q = P * c) (h2 : a' * c = a * c') : a' * Q = P * c' := by
  have e : c * (a' * Q) = c * (P * c') := by
    calc c * (a' * Q) = (a' * c) * Q := by rw [← Int.mul_assoc, Int.mul_comm c a']
      _ = (a * c') * Q := by rw [h2]
      _ = (a * Q) * c' := by rw [Int.mul_assoc, Int.mul_comm c' Q, ← Int.mul_assoc]
      _ = (P * c) * c' := by rw [h1]
      _ = c * (P * c') := by rw [Int.mul_comm P c, Int.mul_assoc]
  exact Int.eq_of_mul_eq_mul_left (by omega) e
theorem frac_floor {a c P Q : Int} (hc : 1 ≤ c) (hQ : 1 ≤ Q) (h : a * Q = P * c) : a / c = P / Q := by
  rw [← Int.mul_ediv_mul_of_pos_left a c (show 0 < Q by omega), h, Int.mul_comm c Q, Int.mul_ediv_mul_of_pos_left P Q (by omega)]
theorem floor_abs (P Q : Int) : (P / Q).natAbs ≤ P.natAbs := Int.natAbs_ediv_le_natAbs P Q

set_option maxHeartbeats 2000000 in
theorem down_any (b : Nat) (a c : Int) (w : World) (h : RatAt w b a c) (hc : 1 ≤ c) (la : a.natAbs < 9223372036854775808) (lc : c.natAbs < 9223372036854775808) :
    Calls Tryd.prog 45 #[.pointer (some ⟨b, 0, none⟩)] w fun e w' => e = .returned (.int .i64 (a / c)) ∧ Below w.heap.size w w' := by
  have hb0 := alloc_below w #[.bool false, .slice none 0 0] 93
  have HR : Hid (RatAt (w.alloc (.cells #[.bool false, .slice none 0 0] 93)) b a c ∧ Below w.heap.size w (w.alloc (.cells #[.bool false, .slice none 0 0] 93))) := ⟨h.below hb0, hb0⟩
  have HL : Hid (1 ≤ c ∧ a.natAbs < 9223372036854775808 ∧ c.natAbs < 9223372036854775808) := ⟨hc, la, lc⟩
  have HV : Hid ((a / c).natAbs < 9223372036854775808) := Nat.lt_of_le_of_lt (floor_abs a c) la
  clear h hc la lc hb0
  go_enter Tryd.func45, Tryd.ntmps45
  go_wp2_with fail
  refine (num_any b _).mono ?_
  rintro e w1 ⟨rfl, rfl⟩
  go_wp2_with fail
  refine (denom_any b a c _ HR.out.1 (by have := HL.out; omega)).mono ?_
  rintro e w1 ⟨k, rfl, g1, i1, l1⟩
  have H1 : Hid (IntAt w1 b 0 a ∧ IntAt w1 k 0 c ∧ Slot w1 w.heap.size 0 ∧ Below w.heap.size w w1) := ⟨HR.out.1.num.below l1, i1, (slot_new w).below l1, HR.out.2.trans (l1.mono HR.out.2.size)⟩
  clear g1 i1 l1
  go_wp2_with fail
  refine (idiv_any w.heap.size 0 b 0 k 0 a c _ H1.out.2.2.1 H1.out.1 H1.out.2.1 (by have := HL.out; omega) (by have := HL.out; omega) (by have := HL.out; omega)).mono ?_
  rintro e w2 ⟨rfl, i2, s2, u2⟩
  have H2 : Hid (IntAt w2 w.heap.size 0 (a / c) ∧ Below w.heap.size w w2) := ⟨i2, H1.out.2.2.2.trans (u2 _ (Nat.le_refl _) H1.out.2.2.2.size)⟩
  clear i2 s2 u2
  go_wp2_with fail
  refine (int64_any w.heap.size 0 (a / c) _ H2.out.1 HV.out).mono ?_
  rintro e w3 ⟨rfl, rfl⟩
  go_wp2
  go_ret
  exact ⟨rfl, H2.out.2⟩

/-- Rounded up. -/
def ceil (P Q : Int) : Int := -((-P) / Q)

set_option maxHeartbeats 2000000 in
theorem up_any (b : Nat) (P Q : Int) (w : World) (h : Frac w b P Q) (hQ : 1 ≤ Q) (lP : P.natAbs < 9223372036854775807) (lQ : Q.natAbs < 9223372036854775807) :
    Calls Tryd.prog 31 #[.pointer (some ⟨b, 0, none⟩)] w fun e w' => e = .returned (.int .i64 (ceil P Q)) ∧ Below w.heap.size w w' := by
  obtain ⟨a, c, hr, hc, hx, ha, hcq⟩ := h
  have hb0 := alloc_below w #[.bool false, .slice none 0 0, .bool false, .slice none 0 0] 95
  have HR : Hid (RatAt (w.alloc (.cells #[.bool false, .slice none 0 0, .bool false, .slice none 0 0] 95)) b a c ∧ Below w.heap.size w (w.alloc (.cells #[.bool false, .slice none 0 0, .bool false, .slice none 0 0] 95))) := ⟨hr.below hb0, hb0⟩
  obtain ⟨r1, r2, r3, r4⟩ := reduced a c hc
  have HL : Hid (1 ≤ c ∧ a.natAbs < 9223372036854775807 ∧ c.natAbs < 9223372036854775807) := ⟨hc, by omega, by omega⟩
  have HG : Hid (1 ≤ c / (gcdOf a c : Int) ∧ (a / (gcdOf a c : Int)).natAbs < 9223372036854775807 ∧ (c / (gcdOf a c : Int)).natAbs < 9223372036854775807) := ⟨r1, by omega, by omega⟩
  have hv : (-(a / (gcdOf a c : Int))) / (c / (gcdOf a c : Int)) = (-P) / Q := frac_floor r1 hQ (by rw [Int.neg_mul, Int.neg_mul, cross hc hx r2])
  have HV : Hid ((-(a / (gcdOf a c : Int))) / (c / (gcdOf a c : Int)) = (-P) / Q) := hv
  have hw : IntKind.i64.wrap (-((-P) / Q)) = -((-P) / Q) := by
    have := floor_abs (-P) Q
    rw [IntKind.wrap_i64]
    omega
  clear hr hc hx ha hcq hb0 r1 r2 r3 r4 hv hQ lP lQ
  go_enter Tryd.func31, Tryd.ntmps31
  go_wp2_with fail
  refine (rneg_any w.heap.size b a c _ (slot_rat w).1 (slot_rat w).2 HR.out.1 HL.out.1 (by have := HL.out; omega) (by have := HL.out; omega)).mono ?_
  rintro e w1 ⟨rfl, h1, u1⟩
  have H1 : Hid (RatAt w1 w.heap.size (-(a / (gcdOf a c : Int))) (c / (gcdOf a c : Int)) ∧ Below w.heap.size w w1) := ⟨h1, HR.out.2.trans (u1.below (Nat.le_refl _) HR.out.2.size)⟩
  clear h1 u1
  go_wp2_with fail
  refine (down_any w.heap.size _ _ _ H1.out.1 HG.out.1 (by have := HG.out; omega) (by have := HG.out; omega)).mono ?_
  rintro e w2 ⟨rfl, l2⟩
  rw [HV.out]
  have H2 : Hid (Below w.heap.size w w2) := H1.out.2.trans (l2.mono H1.out.2.size)
  clear l2
  go_wp2
  go_ret
  exact ⟨rfl, H2.out⟩

set_option maxHeartbeats 1000000 in
theorem refInt_any (x : Int) (w : World) (hx : -9223372036854775808 ≤ x ∧ x ≤ 9223372036854775807) :
    Calls Tryd.prog 33 #[.int .i64 x] w fun e w' => ∃ b, e = .returned (.pointer (some ⟨b, 0, none⟩)) ∧ w.heap.size ≤ b ∧ Frac w' b x 1 ∧ Below w.heap.size w w' := by
  have hb0 := alloc_below w #[.bool false, .slice none 0 0, .bool false, .slice none 0 0] 95
  have HB : Hid (Below w.heap.size w (w.alloc (.cells #[.bool false, .slice none 0 0, .bool false, .slice none 0 0] 95))) := hb0
  have HX : Hid (-9223372036854775808 ≤ x ∧ x ≤ 9223372036854775807) := hx
  clear hb0 hx
  go_enter Tryd.func33, Tryd.ntmps33
  go_wp2_with fail
  refine (rsetInt64_any w.heap.size x _ (slot_rat w).1 (slot_rat w).2 HX.out).mono ?_
  rintro e w1 ⟨rfl, h1, u1⟩
  have H1 : Hid (Frac w1 w.heap.size x 1 ∧ Below w.heap.size w w1) := ⟨⟨x, 1, h1, by omega, rfl, Nat.le_refl _, Nat.le_refl _⟩, HB.out.trans (u1.below (Nat.le_refl _) HB.out.size)⟩
  clear h1 u1
  go_wp2
  go_ret
  exact ⟨_, rfl, Nat.le_refl _, H1.out.1, H1.out.2⟩

set_option maxHeartbeats 1000000 in
theorem refSpeed_any (n t : Int) (w : World) (hn : -9223372036854775808 ≤ n ∧ n ≤ 9223372036854775807) (ht : 1 ≤ t ∧ t ≤ 9223372036854775807) :
    Calls Tryd.prog 34 #[.agg #[.int .i64 n, .int .i64 t]] w fun e w' => ∃ b, e = .returned (.pointer (some ⟨b, 0, none⟩)) ∧ w.heap.size ≤ b ∧ Frac w' b n t ∧ Below w.heap.size w w' := by
  have hb0 := alloc_below w #[.int .i64 n, .int .i64 t] 38
  have HB : Hid (Below w.heap.size w (w.alloc (.cells #[.int .i64 n, .int .i64 t] 38))) := hb0
  have HN : Hid ((-9223372036854775808 ≤ n ∧ n ≤ 9223372036854775807) ∧ (1 ≤ t ∧ t ≤ 9223372036854775807)) := ⟨hn, ht⟩
  clear hb0 hn ht
  go_enter Tryd.func34, Tryd.ntmps34
  go_wp2_with fail
  refine (newRat_any n t _ HN.out.1 HN.out.2).mono ?_
  rintro e w1 ⟨b1, rfl, g1, h1, l1⟩
  have H1 : Hid (w.heap.size ≤ b1 ∧ Frac w1 b1 n t ∧ Below w.heap.size w w1) := ⟨Nat.le_trans HB.out.size g1, Frac.of HN.out.2.1 h1, HB.out.trans (l1.mono HB.out.size)⟩
  clear g1 h1 l1
  go_wp2
  go_ret
  exact ⟨_, rfl, H1.out.1, H1.out.2.1, H1.out.2.2⟩

set_option maxHeartbeats 1000000 in
theorem refDiv_any (xb yb : Nat) (P Q R S : Int) (w : World) (hx : Frac w xb P Q) (hy : Frac w yb R S) (hR : 1 ≤ R) (hS : 1 ≤ S) (l1 : P.natAbs * S.natAbs < 18446744073709551616) (l2 : Q.natAbs * R.natAbs < 18446744073709551616) (l3 : S.natAbs < 18446744073709551616) :
    Calls Tryd.prog 32 #[.pointer (some ⟨xb, 0, none⟩), .pointer (some ⟨yb, 0, none⟩)] w fun e w' => ∃ b, e = .returned (.pointer (some ⟨b, 0, none⟩)) ∧ w.heap.size ≤ b ∧ Frac w' b (P * S) (Q * R) ∧ Below w.heap.size w w' := by
  obtain ⟨p, q, hx, hq, ex, px, qx⟩ := hx
  obtain ⟨r, s, hy, hs, ey, ry, sy⟩ := hy
  have hr : 1 ≤ r := by
    by_cases h : 0 < r
    · omega
    · exfalso
      have h1 : r * S ≤ 0 := Int.mul_nonpos_of_nonpos_of_nonneg (by omega) (by omega)
      have h2 : 0 < R * s := Int.mul_pos (by omega) (by omega)
      omega
  have hb0 := alloc_below w #[.bool false, .slice none 0 0, .bool false, .slice none 0 0] 95
  have HB : Hid (Below w.heap.size w (w.alloc (.cells #[.bool false, .slice none 0 0, .bool false, .slice none 0 0] 95))) := hb0
  have HX : Hid (RatAt (w.alloc (.cells #[.bool false, .slice none 0 0, .bool false, .slice none 0 0] 95)) xb p q ∧ RatAt (w.alloc (.cells #[.bool false, .slice none 0 0, .bool false, .slice none 0 0] 95)) yb r s) := ⟨hx.below hb0, hy.below hb0⟩
  have m1 : (p * s).natAbs ≤ P.natAbs * S.natAbs := by rw [Int.natAbs_mul]; exact Nat.mul_le_mul px sy
  have m2 : (q * r).natAbs ≤ Q.natAbs * R.natAbs := by rw [Int.natAbs_mul]; exact Nat.mul_le_mul qx ry
  have HL : Hid (1 ≤ q ∧ 1 ≤ r ∧ 1 ≤ s ∧ s.natAbs < 18446744073709551616 ∧ (p * s).natAbs < 18446744073709551616 ∧ (q * r).natAbs < 18446744073709551616) := ⟨hq, hr, hs, by omega, by omega, by omega⟩
  have hqr : 1 ≤ q * r := Int.mul_pos (by omega) (by omega)
  obtain ⟨r1, r2, r3, r4⟩ := reduced (p * s) (q * r) hqr
  have hcr : (p * s) * (Q * R) = (P * S) * (q * r) := by
    calc (p * s) * (Q * R) = (p * Q) * (R * s) := by ac_rfl
      _ = (P * q) * (r * S) := by rw [ex, ey]
      _ = (P * S) * (q * r) := by ac_rfl
  have HF : Hid (∀ w' b, RatAt w' b (p * s / (gcdOf (p * s) (q * r) : Int)) (q * r / (gcdOf (p * s) (q * r) : Int)) → Frac w' b (P * S) (Q * R)) := by
    intro w' b h
    refine ⟨_, _, h, r1, cross hqr hcr r2, ?_, ?_⟩
    · rw [Int.natAbs_mul P S]; omega
    · rw [Int.natAbs_mul Q R]; omega
  clear hx hq ex px qx hy hs ey ry sy hr hb0 m1 m2 hqr r1 r2 r3 r4 hcr l1 l2 l3 hR hS
  go_enter Tryd.func32, Tryd.ntmps32
  go_wp2_with fail
  refine (rquo_any w.heap.size xb yb p q r s _ (slot_rat w).1 (slot_rat w).2 HX.out.1 HX.out.2 HL.out.1 HL.out.2.1 HL.out.2.2.1 HL.out.2.2.2.1 HL.out.2.2.2.2.1 HL.out.2.2.2.2.2).mono ?_
  rintro e w1 ⟨rfl, h1, u1⟩
  have H1 : Hid (Frac w1 w.heap.size (P * S) (Q * R) ∧ Below w.heap.size w w1) := ⟨HF.out _ _ h1, HB.out.trans (u1.below (Nat.le_refl _) HB.out.size)⟩
  clear h1 u1
  go_wp2
  go_ret
  exact ⟨_, rfl, Nat.le_refl _, H1.out.1, H1.out.2⟩
end Go.Proofs.YtamdbfdljkldeaaDoor
