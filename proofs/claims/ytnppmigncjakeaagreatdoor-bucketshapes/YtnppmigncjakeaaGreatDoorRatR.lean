/-
  Fractions in lowest terms, whatever they are told by; millraceref: Int, Speed, div, mul, add, greater, and Cmp, at numbers of at most thirty digits.
-/
import Derived.Test.YtnppmigncjakeaaGreatDoorRatX
import Derived.Test.YtnppmigncjakeaaGreatDoorRatD
namespace Go.Proofs.YtnppmigncjakeaaGreatDoor
open Go.RowKit Go.Deep

/-- In this block lies, in lowest terms, the fraction P/Q. -/
def FracR (w : World) (b : Nat) (P Q : Int) : Prop := 1 ≤ Q ∧ ∃ a c, RatAt w b a c ∧ 1 ≤ c ∧ Nat.gcd a.natAbs c.natAbs = 1 ∧ a * Q = P * c
theorem FracR.below {w w' : World} {b : Nat} {P Q : Int} (h : FracR w b P Q) (hb : Below w.heap.size w w') : FracR w' b P Q := by
  obtain ⟨h0, a, c, h1, h2⟩ := h
  exact ⟨h0, a, c, h1.below hb, h2⟩
theorem FracR.lt {w : World} {b : Nat} {P Q : Int} (h : FracR w b P Q) : b < w.heap.size := by
  obtain ⟨_, a, c, h1, _⟩ := h
  exact lt_of_int h1.num
theorem frac_small {a c P Q : Int} (hc : 1 ≤ c) (hQ : 1 ≤ Q) (hg : Nat.gcd a.natAbs c.natAbs = 1) (h : a * Q = P * c) : a.natAbs ≤ P.natAbs ∧ c.natAbs ≤ Q.natAbs := by
  have h' : a.natAbs * Q.natAbs = P.natAbs * c.natAbs := by rw [← Int.natAbs_mul, ← Int.natAbs_mul, h]
  have hQ' : 0 < Q.natAbs := by omega
  have hc' : 0 < c.natAbs := by omega
  generalize a.natAbs = A at *
  generalize c.natAbs = C at *
  generalize P.natAbs = PP at *
  generalize Q.natAbs = QQ at *
  constructor
  · have hd : A ∣ PP := Nat.Coprime.dvd_of_dvd_mul_right (k := A) (n := C) hg ⟨QQ, by rw [← h']⟩
    rcases Nat.eq_zero_or_pos PP with h0 | h0
    · rw [h0, Nat.zero_mul] at h'
      rcases Nat.mul_eq_zero.1 h' with h1 | h1
      · omega
      · omega
    · exact Nat.le_of_dvd h0 hd
  · have hd : C ∣ QQ := Nat.Coprime.dvd_of_dvd_mul_left (k := C) (m := A) (Nat.Coprime.symm hg) ⟨PP, by rw [h', Nat.mul_comm]⟩
    exact Nat.le_of_dvd hQ' hd
theorem FracR.parts {w : World} {b : Nat} {P Q : Int} (h : FracR w b P Q) : ∃ a c, RatAt w b a c ∧ 1 ≤ c ∧ a * Q = P * c ∧ a.natAbs ≤ P.natAbs ∧ c.natAbs ≤ Q.natAbs := by
  obtain ⟨h0, a, c, h1, h2, h3, h4⟩ := h
  obtain ⟨h5, h6⟩ := frac_small h2 h0 h3 h4
  exact ⟨a, c, h1, h2, h4, h5, h6⟩
theorem cross' {a c P Q P' Q' : Int} (hQ : 1 ≤ Q) (h1 : a * Q = P * c) (h2 : P * Q' = P' * Q) : a * Q' = P' * c := by
  have e : Q * (a * Q') = Q * (P' * c) := by
    have e1 : Q * (a * Q') = (a * Q) * Q' := by ac_rfl
    have e2 : (P * c) * Q' = (P * Q') * c := by ac_rfl
    have e3 : (P' * Q) * c = Q * (P' * c) := by ac_rfl
    rw [e1, h1, e2, h2, e3]
  exact Int.eq_of_mul_eq_mul_left (by omega) e
theorem FracR.same {w : World} {b : Nat} {P Q P' Q' : Int} (h : FracR w b P Q) (hQ : 1 ≤ Q') (he : P * Q' = P' * Q) : FracR w b P' Q' := by
  obtain ⟨h0, a, c, h1, h2, h3, h4⟩ := h
  exact ⟨hQ, a, c, h1, h2, h3, cross' h0 h4 he⟩
theorem FracR.of {w : World} {b : Nat} {a d P Q : Int} (hd : 1 ≤ d) (h : RatAt w b (a / (gcdOf a d : Int)) (d / (gcdOf a d : Int))) (hQ : 1 ≤ Q) (he : a * Q = P * d) : FracR w b P Q := by
  have g0 : 0 < gcdOf a d := Nat.gcd_pos_of_pos_right _ (by omega)
  have d1 : gcdOf a d ∣ a.natAbs := Nat.gcd_dvd_left _ _
  have d2 : gcdOf a d ∣ d.natAbs := Nat.gcd_dvd_right _ _
  obtain ⟨m1, _⟩ := div_sign g0 d1
  obtain ⟨m3, m4⟩ := div_sign (a := d) g0 d2
  have hz : (d / (gcdOf a d : Int)) ≠ 0 := by
    intro e
    rw [e] at m3
    have h1 : gcdOf a d ≤ d.natAbs := Nat.le_of_dvd (by omega) d2
    have h2 : 0 < d.natAbs / gcdOf a d := Nat.div_pos h1 g0
    simp at m3
    omega
  have hc : 1 ≤ d / (gcdOf a d : Int) := by
    by_cases hneg : d / (gcdOf a d : Int) < 0
    · have := m4.2 hneg; omega
    · omega
  have hcop : Nat.gcd (a / (gcdOf a d : Int)).natAbs (d / (gcdOf a d : Int)).natAbs = 1 := by
    rw [m1, m3]
    rw [Nat.gcd_div d1 d2]
    exact Nat.div_self g0
  have hcr : a / (gcdOf a d : Int) * d = a * (d / (gcdOf a d : Int)) := by
    obtain ⟨x, hx⟩ : (gcdOf a d : Int) ∣ a := Int.ofNat_dvd_left.2 d1
    obtain ⟨y, hy⟩ : (gcdOf a d : Int) ∣ d := Int.ofNat_dvd_left.2 d2
    have gz : (gcdOf a d : Int) ≠ 0 := by omega
    generalize (gcdOf a d : Int) = g at *
    subst hx hy
    rw [Int.mul_ediv_cancel_left _ gz, Int.mul_ediv_cancel_left _ gz]
    ac_rfl
  exact ⟨hQ, _, _, h, hc, hcop, cross' hd hcr he⟩

theorem lim_mul {a b : Nat} (ha : a ≤ 1000000000000000000000000000000) (hb : b ≤ 1000000000000000000000000000000) : a * b ≤ 1000000000000000000000000000000000000000000000000000000000000 := Nat.le_trans (Nat.mul_le_mul ha hb) (by decide)
theorem lim_50 {a : Nat} (ha : a ≤ 2000000000000000000000000000000000000000000000000000000000000) : a < 4294967296 ^ 50 := Nat.lt_of_le_of_lt ha (by decide)
theorem lim_30 {a : Nat} (ha : a ≤ 1000000000000000000000000000000) : a < 4294967296 ^ 50 := Nat.lt_of_le_of_lt ha (by decide)

theorem rInt_any (x : Int) (w : World) (hx : -9223372036854775808 ≤ x ∧ x ≤ 9223372036854775807) :
    Calls Tryz.prog 35 #[.int .i64 x] w fun e w' => ∃ b, e = .returned (.pointer (some ⟨b, 0, none⟩)) ∧ FracR w' b x 1 ∧ Below w.heap.size w w' := by
  have hb0 := alloc_below w #[.bool false, .slice none 0 0, .bool false, .slice none 0 0] 104
  have HB : Hid (Below w.heap.size w (w.alloc (.cells #[.bool false, .slice none 0 0, .bool false, .slice none 0 0] 104))) := hb0
  have HX : Hid (-9223372036854775808 ≤ x ∧ x ≤ 9223372036854775807) := hx
  clear hb0 hx
  go_enter Tryz.func35, Tryz.ntmps35
  go_wp2_with fail
  refine (rsetInt64_any w.heap.size x _ (slot_rat w).1 (slot_rat w).2 HX.out).mono ?_
  rintro e w1 ⟨rfl, h1, u1⟩
  have H1 : Hid (FracR w1 w.heap.size x 1 ∧ Below w.heap.size w w1) := ⟨⟨by omega, x, 1, h1, by omega, by simp, rfl⟩, HB.out.trans (u1.below (Nat.le_refl _) HB.out.size)⟩
  clear h1 u1
  go_wp2
  go_ret
  exact ⟨_, rfl, H1.out.1, H1.out.2⟩
theorem rSpeed_any (n t : Int) (w : World) (hn : -9223372036854775808 ≤ n ∧ n ≤ 9223372036854775807) (ht : 1 ≤ t ∧ t ≤ 9223372036854775807) :
    Calls Tryz.prog 38 #[.agg #[.int .i64 n, .int .i64 t]] w fun e w' => ∃ b, e = .returned (.pointer (some ⟨b, 0, none⟩)) ∧ FracR w' b n t ∧ Below w.heap.size w w' := by
  have hb0 := alloc_below w #[.int .i64 n, .int .i64 t] 23
  have HB : Hid (Below w.heap.size w (w.alloc (.cells #[.int .i64 n, .int .i64 t] 23))) := hb0
  have HN : Hid ((-9223372036854775808 ≤ n ∧ n ≤ 9223372036854775807) ∧ (1 ≤ t ∧ t ≤ 9223372036854775807)) := ⟨hn, ht⟩
  clear hb0 hn ht
  go_enter Tryz.func38, Tryz.ntmps38
  go_wp2_with fail
  refine (newRat_any n t _ HN.out.1 HN.out.2).mono ?_
  rintro e w1 ⟨b1, rfl, g1, h1, l1⟩
  have H1 : Hid (FracR w1 b1 n t ∧ Below w.heap.size w w1) := ⟨FracR.of HN.out.2.1 h1 HN.out.2.1 rfl, HB.out.trans (l1.mono HB.out.size)⟩
  clear g1 h1 l1
  go_wp2
  go_ret
  exact ⟨_, rfl, H1.out.1, H1.out.2⟩
set_option maxHeartbeats 1000000 in
theorem rMul_any (xb yb : Nat) (P Q R S : Int) (w : World) (hx : FracR w xb P Q) (hy : FracR w yb R S) (lP : P.natAbs ≤ 1000000000000000000000000000000) (lQ : Q.natAbs ≤ 1000000000000000000000000000000) (lR : R.natAbs ≤ 1000000000000000000000000000000) (lS : S.natAbs ≤ 1000000000000000000000000000000) :
    Calls Tryz.prog 37 #[.pointer (some ⟨xb, 0, none⟩), .pointer (some ⟨yb, 0, none⟩)] w fun e w' => ∃ b, e = .returned (.pointer (some ⟨b, 0, none⟩)) ∧ FracR w' b (P * R) (Q * S) ∧ Below w.heap.size w w' := by
  have hQS : 1 ≤ Q * S := Int.mul_pos (by have := hx.1; omega) (by have := hy.1; omega)
  obtain ⟨p, q, hx, hq, ex, px, qx⟩ := hx.parts
  obtain ⟨r, s, hy, hs, ey, ry, sy⟩ := hy.parts
  have hb0 := alloc_below w #[.bool false, .slice none 0 0, .bool false, .slice none 0 0] 104
  have HB : Hid (Below w.heap.size w (w.alloc (.cells #[.bool false, .slice none 0 0, .bool false, .slice none 0 0] 104))) := hb0
  have HX : Hid (RatAt (w.alloc (.cells #[.bool false, .slice none 0 0, .bool false, .slice none 0 0] 104)) xb p q ∧ RatAt (w.alloc (.cells #[.bool false, .slice none 0 0, .bool false, .slice none 0 0] 104)) yb r s) := ⟨hx.below hb0, hy.below hb0⟩
  have m1 := lim_mul (Nat.le_trans px lP) (Nat.le_trans ry lR)
  have m2 := lim_mul (Nat.le_trans qx lQ) (Nat.le_trans sy lS)
  have HL : Hid (1 ≤ q ∧ 1 ≤ s ∧ (p.natAbs < 4294967296 ^ 50 ∧ q.natAbs < 4294967296 ^ 50 ∧ r.natAbs < 4294967296 ^ 50 ∧ s.natAbs < 4294967296 ^ 50) ∧ (p * r).natAbs < 4294967296 ^ 50 ∧ (q * s).natAbs < 4294967296 ^ 50) := ⟨hq, hs, ⟨lim_30 (Nat.le_trans px lP), lim_30 (Nat.le_trans qx lQ), lim_30 (Nat.le_trans ry lR), lim_30 (Nat.le_trans sy lS)⟩, lim_50 (by rw [Int.natAbs_mul]; omega), lim_50 (by rw [Int.natAbs_mul]; omega)⟩
  have hqs : 1 ≤ q * s := Int.mul_pos (by omega) (by omega)
  have hcr : (p * r) * (Q * S) = (P * R) * (q * s) := by
    have h1 : (p * r) * (Q * S) = (p * Q) * (r * S) := by ac_rfl
    have h2 : (P * q) * (R * s) = (P * R) * (q * s) := by ac_rfl
    rw [h1, ex, ey, h2]
  have HF : Hid (∀ w' b, RatAt w' b (p * r / (gcdOf (p * r) (q * s) : Int)) (q * s / (gcdOf (p * r) (q * s) : Int)) → FracR w' b (P * R) (Q * S)) := fun w' b h => FracR.of hqs h hQS hcr
  clear hx hq ex px qx hy hs ey ry sy hb0 m1 m2 hqs hcr lP lQ lR lS hQS
  go_enter Tryz.func37, Tryz.ntmps37
  go_wp2_with fail
  refine (rmul_big w.heap.size xb yb p q r s _ (slot_rat w).1 (slot_rat w).2 HX.out.1 HX.out.2 HL.out.1 HL.out.2.1 HL.out.2.2.1.1 HL.out.2.2.1.2.1 HL.out.2.2.1.2.2.1 HL.out.2.2.1.2.2.2 HL.out.2.2.2.1 HL.out.2.2.2.2).mono ?_
  rintro e w1 ⟨rfl, h1, u1⟩
  have H1 : Hid (FracR w1 w.heap.size (P * R) (Q * S) ∧ Below w.heap.size w w1) := ⟨HF.out _ _ h1, HB.out.trans (u1.below (Nat.le_refl _) HB.out.size)⟩
  clear h1 u1
  go_wp2
  go_ret
  exact ⟨_, rfl, H1.out.1, H1.out.2⟩
set_option maxHeartbeats 1000000 in
theorem rAdd_any (xb yb : Nat) (P Q R S : Int) (w : World) (hx : FracR w xb P Q) (hy : FracR w yb R S) (lP : P.natAbs ≤ 1000000000000000000000000000000) (lQ : Q.natAbs ≤ 1000000000000000000000000000000) (lR : R.natAbs ≤ 1000000000000000000000000000000) (lS : S.natAbs ≤ 1000000000000000000000000000000) :
    Calls Tryz.prog 36 #[.pointer (some ⟨xb, 0, none⟩), .pointer (some ⟨yb, 0, none⟩)] w fun e w' => ∃ b, e = .returned (.pointer (some ⟨b, 0, none⟩)) ∧ FracR w' b (P * S + R * Q) (Q * S) ∧ Below w.heap.size w w' := by
  have hQS : 1 ≤ Q * S := Int.mul_pos (by have := hx.1; omega) (by have := hy.1; omega)
  obtain ⟨p, q, hx, hq, ex, px, qx⟩ := hx.parts
  obtain ⟨r, s, hy, hs, ey, ry, sy⟩ := hy.parts
  have hb0 := alloc_below w #[.bool false, .slice none 0 0, .bool false, .slice none 0 0] 104
  have HB : Hid (Below w.heap.size w (w.alloc (.cells #[.bool false, .slice none 0 0, .bool false, .slice none 0 0] 104))) := hb0
  have HX : Hid (RatAt (w.alloc (.cells #[.bool false, .slice none 0 0, .bool false, .slice none 0 0] 104)) xb p q ∧ RatAt (w.alloc (.cells #[.bool false, .slice none 0 0, .bool false, .slice none 0 0] 104)) yb r s) := ⟨hx.below hb0, hy.below hb0⟩
  have m1 := lim_mul (Nat.le_trans px lP) (Nat.le_trans sy lS)
  have m2 := lim_mul (Nat.le_trans ry lR) (Nat.le_trans qx lQ)
  have m3 := lim_mul (Nat.le_trans qx lQ) (Nat.le_trans sy lS)
  rw [← Int.natAbs_mul] at m1 m2 m3
  have HL : Hid (1 ≤ q ∧ 1 ≤ s ∧ (p.natAbs < 4294967296 ^ 50 ∧ q.natAbs < 4294967296 ^ 50 ∧ r.natAbs < 4294967296 ^ 50 ∧ s.natAbs < 4294967296 ^ 50) ∧ (p * s).natAbs < 4294967296 ^ 50 ∧ (r * q).natAbs < 4294967296 ^ 50 ∧ (p * s + r * q).natAbs < 4294967296 ^ 50 ∧ (q * s).natAbs < 4294967296 ^ 50) := ⟨hq, hs, ⟨lim_30 (Nat.le_trans px lP), lim_30 (Nat.le_trans qx lQ), lim_30 (Nat.le_trans ry lR), lim_30 (Nat.le_trans sy lS)⟩, lim_50 (by omega), lim_50 (by omega), lim_50 (by omega), lim_50 (by omega)⟩
  have hqs : 1 ≤ q * s := Int.mul_pos (by omega) (by omega)
  have hcr : (p * s + r * q) * (Q * S) = (P * S + R * Q) * (q * s) := by
    have h1 : p * s * (Q * S) = (p * Q) * (s * S) := by ac_rfl
    have h2 : r * q * (Q * S) = (r * S) * (q * Q) := by ac_rfl
    have h3 : P * S * (q * s) = (P * q) * (s * S) := by ac_rfl
    have h4 : R * Q * (q * s) = (R * s) * (q * Q) := by ac_rfl
    rw [Int.add_mul, Int.add_mul, h1, h2, h3, h4, ex, ey]
  have HF : Hid (∀ w' b, RatAt w' b ((p * s + r * q) / (gcdOf (p * s + r * q) (q * s) : Int)) (q * s / (gcdOf (p * s + r * q) (q * s) : Int)) → FracR w' b (P * S + R * Q) (Q * S)) := fun w' b h => FracR.of hqs h hQS hcr
  clear hx hq ex px qx hy hs ey ry sy hb0 m1 m2 m3 hqs hcr lP lQ lR lS hQS
  go_enter Tryz.func36, Tryz.ntmps36
  go_wp2_with fail
  refine (radd_any w.heap.size xb yb p q r s _ (slot_rat w).1 (slot_rat w).2 HX.out.1 HX.out.2 HL.out.1 HL.out.2.1 HL.out.2.2.1.1 HL.out.2.2.1.2.1 HL.out.2.2.1.2.2.1 HL.out.2.2.1.2.2.2 HL.out.2.2.2.1 HL.out.2.2.2.2.1 HL.out.2.2.2.2.2.1 HL.out.2.2.2.2.2.2).mono ?_
  rintro e w1 ⟨rfl, h1, u1⟩
  have H1 : Hid (FracR w1 w.heap.size (P * S + R * Q) (Q * S) ∧ Below w.heap.size w w1) := ⟨HF.out _ _ h1, HB.out.trans (u1.below (Nat.le_refl _) HB.out.size)⟩
  clear h1 u1
  go_wp2
  go_ret
  exact ⟨_, rfl, H1.out.1, H1.out.2⟩
theorem cmpZ_cross {p q r s P Q R S : Int} (hq : 1 ≤ q) (hs : 1 ≤ s) (hQ : 1 ≤ Q) (hS : 1 ≤ S) (ex : p * Q = P * q) (ey : r * S = R * s) : cmpZ (p * s) (r * q) = cmpZ (P * S) (R * Q) := by
  have h1 : (p * s) * (Q * S) = (P * S) * (q * s) := by
    have e1 : (p * s) * (Q * S) = (p * Q) * (s * S) := by ac_rfl
    have e2 : (P * S) * (q * s) = (P * q) * (s * S) := by ac_rfl
    rw [e1, e2, ex]
  have h2 : (r * q) * (Q * S) = (R * Q) * (q * s) := by
    have e1 : (r * q) * (Q * S) = (r * S) * (q * Q) := by ac_rfl
    have e2 : (R * Q) * (q * s) = (R * s) * (q * Q) := by ac_rfl
    rw [e1, e2, ey]
  rw [← cmpZ_mul (c := Q * S) (Int.mul_pos (by omega) (by omega)), h1, h2, cmpZ_mul (Int.mul_pos (by omega) (by omega))]
theorem rCmp_any (xb yb : Nat) (P Q R S : Int) (w : World) (hx : FracR w xb P Q) (hy : FracR w yb R S) (lP : P.natAbs ≤ 1000000000000000000000000000000) (lQ : Q.natAbs ≤ 1000000000000000000000000000000) (lR : R.natAbs ≤ 1000000000000000000000000000000) (lS : S.natAbs ≤ 1000000000000000000000000000000) :
    Calls Tryz.prog 39 #[.pointer (some ⟨xb, 0, none⟩), .pointer (some ⟨yb, 0, none⟩)] w fun e w' => e = .returned (.int .i64 (cmpZ (P * S) (R * Q))) ∧ Below w.heap.size w w' := by
  obtain ⟨p, q, hx1, hq, ex, px, qx⟩ := hx.parts
  obtain ⟨r, s, hy1, hs, ey, ry, sy⟩ := hy.parts
  rw [← cmpZ_cross hq hs hx.1 hy.1 ex ey]
  exact rcmp_any xb yb p q r s w hx1 hy1 hq hs (lim_30 (Nat.le_trans px lP)) (lim_30 (Nat.le_trans qx lQ)) (lim_30 (Nat.le_trans ry lR)) (lim_30 (Nat.le_trans sy lS))
end Go.Proofs.YtnppmigncjakeaaGreatDoor
