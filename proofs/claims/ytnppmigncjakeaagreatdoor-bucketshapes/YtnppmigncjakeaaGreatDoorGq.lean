/-
  millracebig: DivMod, Div of whole numbers; Denom, Set, Neg of fractions: what lies behind the call, and what stays. Conditions: numbers below 2^64, a divisor of at least 1.
  millraceref: Int, Speed, div, down, up, Takes: what each returns. Conditions: numbers below 2^63, a rate that may be.
-/
import Derived.Test.YtnppmigncjakeaaGreatDoorRat8
import Derived.Test.YtnppmigncjakeaaGreatDoorRat11
namespace Go.Proofs.YtnppmigncjakeaaGreatDoor
open Go.RowKit Go.Deep

theorem RatAt.drew {w : World} {b : Nat} {p q : Int} (h : RatAt w b p q) : RatAt w.drew b p q := h.below (Below.refl _ w).drew

theorem div_neg {x y : Int} (hy : 0 < y) (h : x.tmod y < 0) : x.tdiv y - 1 = x / y := by
  have e := Int.tmod_add_mul_tdiv x y
  have hlt : -y < x.tmod y := by
    have h1 := Int.natAbs_tmod x y
    have h2 : x.natAbs % y.natAbs < y.natAbs := Nat.mod_lt _ (by omega)
    omega
  symm
  rw [Int.ediv_eq_iff_of_pos hy]
  have e1 : y * (x.tdiv y - 1) = y * x.tdiv y - y := by rw [Int.mul_sub, Int.mul_one]
  have e2 : (x.tdiv y - 1) * y = y * x.tdiv y - y := by rw [Int.mul_comm, e1]
  rw [e2]
  omega
theorem div_pos' {x y : Int} (hy : 0 < y) (h : ¬ x.tmod y < 0) : x.tdiv y = x / y := by
  have e := Int.tmod_add_mul_tdiv x y
  have hlt : x.tmod y < y := by
    have h1 := Int.natAbs_tmod x y
    have h2 : x.natAbs % y.natAbs < y.natAbs := Nat.mod_lt _ (by omega)
    omega
  symm
  rw [Int.ediv_eq_iff_of_pos hy]
  rw [Int.mul_comm]
  omega

set_option maxHeartbeats 4000000 in
theorem divMod_any (b o xb xo yb yo mb mo : Nat) (x y : Int) (w : World) (hs : Slot w b o) (hm : Slot w mb mo) (hx : IntAt w xb xo x) (hy : IntAt w yb yo y) (lx : x.natAbs < 18446744073709551616) (ly : y.natAbs < 18446744073709551616) (y0 : 0 < y) (nb : b ≠ mb) :
    Calls Tryz.prog 100 #[.pointer (some ⟨b, o, none⟩), .pointer (some ⟨xb, xo, none⟩), .pointer (some ⟨yb, yo, none⟩), .pointer (some ⟨mb, mo, none⟩)] w fun e w' =>
      e = .returned (.tuple #[.pointer (some ⟨b, o, none⟩), .pointer (some ⟨mb, mo, none⟩)]) ∧ IntAt w' b o (x / y) ∧ Slot w' b o ∧ ∀ B, B ≤ b → B ≤ mb → B ≤ w.heap.size → Below B w w' := by
  have HS : Hid (Slot w b o ∧ Slot w mb mo ∧ b ≠ mb) := ⟨hs, hm, nb⟩
  have HI : Hid (IntAt w xb xo x ∧ IntAt w yb yo y) := ⟨hx, hy⟩
  have HL : Hid (x.natAbs < 18446744073709551616 ∧ y.natAbs < 18446744073709551616 ∧ 0 < y) := ⟨lx, ly, y0⟩
  have hg : b < w.heap.size ∧ mb < w.heap.size := ⟨lt_of_slot hs, lt_of_slot hm⟩
  have HG : Hid (b < w.heap.size ∧ mb < w.heap.size) := hg
  clear hs hm hx hy lx ly y0 nb hg
  go_enter Tryz.func100, Tryz.ntmps100
  go_wp2_with fail
  have hb0 := alloc_below w #[.bool false, .slice none 0 0] 102
  refine (set_any w.heap.size 0 yb yo y _ (slot_new w) (HI.out.2.below hb0)).mono ?_
  rintro e w1 ⟨rfl, hd1, _, hu1⟩
  have HB1 : Hid (Below w.heap.size w w1 ∧ IntAt w1 w.heap.size 0 y ∧ w.heap.size < w1.heap.size) := ⟨hb0.trans (hu1.below (Nat.le_refl _) (by simp)), hd1, lt_of_int hd1⟩
  clear hb0 hd1 hu1
  go_wp2_with fail
  refine (quoRem_any b o xb xo yb yo mb mo x y _ (HS.out.1.below HB1.out.1) (HS.out.2.1.below HB1.out.1) (HI.out.1.below HB1.out.1) (HI.out.2.below HB1.out.1) HL.out.1 (by have := HL.out.2.2; omega) HS.out.2.2).mono ?_
  rintro e w2 ⟨rfl, hq, hr, hs2, hm2, w12, hu1, hs12, hu2⟩
  have HB2 : Hid (∀ B, B ≤ b → B ≤ mb → B ≤ w.heap.size → Below B w w2) := by
    intro B h1 h2 h3
    have hb1 := HB1.out.1.mono h3
    have hb2 : Below B w1 w12 := hu1.below h1 (Nat.le_trans h3 HB1.out.1.size)
    exact (hb1.trans hb2).trans (hu2.below h2 (Nat.le_trans h3 (Nat.le_trans HB1.out.1.size hb2.size)))
  have HD2 : Hid (IntAt w2 w.heap.size 0 y) := by
    have g := HG.out
    have h1 := HB1.out.2.1.upd (HS.out.1.below HB1.out.1) hu1 (Or.inl (by omega))
    exact h1.upd hs12 hu2 (Or.inl (by omega))
  have HQ2 : Hid (IntAt w2 b o (x.tdiv y) ∧ IntAt w2 mb mo (x.tmod y) ∧ Slot w2 b o ∧ Slot w2 mb mo) := ⟨hq, hr, hs2, hm2⟩
  obtain ⟨cm, _⟩ := hr
  obtain ⟨cd, _⟩ := HD2.out
  rw [show decide (y < 0) = false by have := HL.out.2.2; simp; omega] at cd
  clear hq hs2 hm2 hu1 hs12 hu2
  by_cases hneg : x.tmod y < 0
  · rw [show decide (x.tmod y < 0) = true by simpa using hneg] at cm
    have HZ : Hid (x.tdiv y - 1 = x / y) := div_neg HL.out.2.2 hneg
    clear hneg
    go_wp2_with fail
    refine (newInt_any 1 (by omega) _).mono ?_
    rintro e w3 ⟨b1, rfl, g1, i1, s1, l1⟩
    have H3 : Hid (IntAt w3 b o (x.tdiv y) ∧ IntAt w3 b1 0 1 ∧ Slot w3 b o ∧ Below w2.heap.size w2 w3) := ⟨HQ2.out.1.below l1, i1, HQ2.out.2.2.1.below l1, l1⟩
    clear g1 i1 s1 l1
    go_wp2_with fail
    refine (isub_any b o b o b1 0 (x.tdiv y) 1 _ H3.out.2.2.1 H3.out.1 H3.out.2.1 (by rw [Int.natAbs_tdiv]; exact lt_100 (Nat.lt_of_le_of_lt (Nat.div_le_self _ _) HL.out.1)) (lt_100 (by decide))).mono ?_
    rintro e w4 ⟨rfl, i4, s4, u4⟩
    have H4 : Hid (IntAt w4 b o (x / y) ∧ Slot w4 b o ∧ IntAt w4 mb mo (x.tmod y) ∧ Slot w4 mb mo ∧ IntAt w4 w.heap.size 0 y ∧ ∀ B, B ≤ b → B ≤ mb → B ≤ w.heap.size → Below B w w4) := by
      rw [HZ.out] at i4
      have g := HG.out
      refine ⟨i4, s4, (HQ2.out.2.1.below H3.out.2.2.2).upd H3.out.2.2.1 u4 (Or.inl (Ne.symm HS.out.2.2)), (HQ2.out.2.2.2.below H3.out.2.2.2).upd u4 (Or.inl (Ne.symm HS.out.2.2)), (HD2.out.below H3.out.2.2.2).upd H3.out.2.2.1 u4 (Or.inl (by omega)), ?_⟩
      intro B h1 h2 h3
      have k1 := HB2.out B h1 h2 h3
      have k2 : Below B w2 w3 := H3.out.2.2.2.mono (Nat.le_trans h3 k1.size)
      exact (k1.trans k2).trans (u4.below h1 (Nat.le_trans h3 (Nat.le_trans k1.size k2.size)))
    clear i4 s4 u4
    go_wp2_with fail
    refine (iadd_any mb mo mb mo w.heap.size 0 (x.tmod y) y _ H4.out.2.2.2.1 H4.out.2.2.1 H4.out.2.2.2.2.1 (by rw [Int.natAbs_tmod]; exact lt_100 (Nat.lt_of_le_of_lt (Nat.mod_le _ _) HL.out.1)) (lt_100 HL.out.2.1)).mono ?_
    rintro e w5 ⟨rfl, i5, s5, u5⟩
    have H5 : Hid (IntAt w5 b o (x / y) ∧ Slot w5 b o ∧ ∀ B, B ≤ b → B ≤ mb → B ≤ w.heap.size → Below B w w5) := by
      refine ⟨H4.out.1.upd H4.out.2.2.2.1 u5 (Or.inl HS.out.2.2), H4.out.2.1.upd u5 (Or.inl HS.out.2.2), ?_⟩
      intro B h1 h2 h3
      have k1 := H4.out.2.2.2.2.2 B h1 h2 h3
      exact k1.trans (u5.below h2 (Nat.le_trans h3 k1.size))
    clear i5 s5 u5
    go_wp2
    go_ret2
    exact ⟨rfl, H5.out.1, H5.out.2.1, H5.out.2.2⟩
  · rw [show decide (x.tmod y < 0) = false by simpa using hneg] at cm
    have HZ : Hid (x.tdiv y = x / y) := div_pos' HL.out.2.2 hneg
    clear hneg
    have H5 : Hid (IntAt w2 b o (x / y) ∧ Slot w2 b o) := by
      refine ⟨?_, HQ2.out.2.2.1⟩
      have := HQ2.out.1
      rw [HZ.out] at this
      exact this
    go_wp2
    go_ret2
    exact ⟨rfl, H5.out.1, H5.out.2, HB2.out⟩

set_option maxHeartbeats 2000000 in
theorem idiv_any (b o xb xo yb yo : Nat) (x y : Int) (w : World) (hs : Slot w b o) (hx : IntAt w xb xo x) (hy : IntAt w yb yo y) (lx : x.natAbs < 18446744073709551616) (ly : y.natAbs < 18446744073709551616) (y0 : 0 < y) :
    Calls Tryz.prog 86 #[.pointer (some ⟨b, o, none⟩), .pointer (some ⟨xb, xo, none⟩), .pointer (some ⟨yb, yo, none⟩)] w fun e w' =>
      e = .returned (.pointer (some ⟨b, o, none⟩)) ∧ IntAt w' b o (x / y) ∧ Slot w' b o ∧ ∀ B, B ≤ b → B ≤ w.heap.size → Below B w w' := by
  have HS : Hid (Slot w b o ∧ b < w.heap.size) := ⟨hs, lt_of_slot hs⟩
  have HI : Hid (IntAt w xb xo x ∧ IntAt w yb yo y) := ⟨hx, hy⟩
  have HL : Hid (x.natAbs < 18446744073709551616 ∧ y.natAbs < 18446744073709551616 ∧ 0 < y) := ⟨lx, ly, y0⟩
  clear hs hx hy lx ly y0
  go_enter Tryz.func86, Tryz.ntmps86
  go_wp2_with fail
  have hb0 := alloc_below w #[.bool false, .slice none 0 0] 102
  refine (divMod_any b o xb xo yb yo w.heap.size 0 x y _ (HS.out.1.below hb0) (slot_new w) (HI.out.1.below hb0) (HI.out.2.below hb0) HL.out.1 HL.out.2.1 HL.out.2.2 (by have := HS.out.2; omega)).mono ?_
  rintro e w1 ⟨rfl, i1, s1, u1⟩
  have H1 : Hid (IntAt w1 b o (x / y) ∧ Slot w1 b o ∧ ∀ B, B ≤ b → B ≤ w.heap.size → Below B w w1) := ⟨i1, s1, fun B h1 h2 => (hb0.mono h2).trans (u1 B h1 h2 (Nat.le_trans h2 hb0.size))⟩
  clear i1 s1 u1 hb0
  go_wp2
  go_ret
  exact ⟨rfl, H1.out⟩

set_option maxHeartbeats 1000000 in
theorem denom_any (b : Nat) (p q : Int) (w : World) (h : RatAt w b p q) (hq : q ≠ 0) :
    Calls Tryz.prog 88 #[.pointer (some ⟨b, 0, none⟩)] w fun e w' => ∃ k, e = .returned (.pointer (some ⟨k, 0, none⟩)) ∧ w.heap.size ≤ k ∧ IntAt w' k 0 q ∧ Below w.heap.size w w' := by
  have hb0 := alloc_below w #[.bool false, .slice none 0 0] 102
  have HR : Hid (RatAt (w.alloc (.cells #[.bool false, .slice none 0 0] 102)) b p q ∧ q ≠ 0 ∧ Below w.heap.size w (w.alloc (.cells #[.bool false, .slice none 0 0] 102))) := ⟨h.below hb0, hq, hb0⟩
  clear h hq hb0
  go_enter Tryz.func88, Tryz.ntmps88
  go_wp2_with fail
  refine (den_any b p q _ HR.out.1 HR.out.2.1).mono ?_
  rintro e w1 ⟨rfl, rfl⟩
  go_wp2_with fail
  refine (set_any w.heap.size 0 b 2 q _ (slot_new w) HR.out.1.den).mono ?_
  rintro e w1 ⟨rfl, i1, _, u1⟩
  have H1 : Hid (IntAt w1 w.heap.size 0 q ∧ Below w.heap.size w w1) := ⟨i1, HR.out.2.2.trans (u1.below (Nat.le_refl _) HR.out.2.2.size)⟩
  clear i1 u1
  go_wp2
  go_ret
  exact ⟨_, rfl, Nat.le_refl _, H1.out.1, H1.out.2⟩

set_option maxHeartbeats 1000000 in
theorem rset_any (b xb : Nat) (p q : Int) (w : World) (hs1 : Slot w b 0) (hs2 : Slot w b 2) (hx : RatAt w xb p q) (hq : 1 ≤ q) (lp : p.natAbs < 18446744073709551616) (lq : q.natAbs < 18446744073709551616) :
    Calls Tryz.prog 90 #[.pointer (some ⟨b, 0, none⟩), .pointer (some ⟨xb, 0, none⟩)] w fun e w' => e = .returned (.pointer (some ⟨b, 0, none⟩)) ∧ RatAt w' b (p / (gcdOf p q : Int)) (q / (gcdOf p q : Int)) ∧ UpdR b w w' := by
  have HS : Hid (Slot w b 0 ∧ Slot w b 2) := ⟨hs1, hs2⟩
  have HX : Hid (RatAt w xb p q) := hx
  have HL : Hid (1 ≤ q ∧ p.natAbs < 18446744073709551616 ∧ q.natAbs < 18446744073709551616) := ⟨hq, lp, lq⟩
  clear hs1 hs2 hx hq lp lq
  go_enter Tryz.func90, Tryz.ntmps90
  go_wp2_with fail
  go_region_with (first | (go_at_call 62; refine (den_any xb p q _ (by exact HX.out.drew) (by have := HL.out; omega)).mono ?_; rintro e w1 ⟨rfl, rfl⟩) | (go_at_call 73; refine (setFrac_any b xb 0 xb 2 p q _ (by exact HS.out.1) (by exact HS.out.2) (by exact HX.out.drew.num) (by exact HX.out.drew.den) HL.out.1 HL.out.2.1 HL.out.2.2).mono ?_; rintro e w2 ⟨rfl, hr2, hu2⟩))
  all_goals
    trace "limb"
    have HE : Hid (RatAt w2 b (p / (gcdOf p q : Int)) (q / (gcdOf p q : Int)) ∧ UpdR b w w2) := ⟨hr2, ⟨hu2.os, hu2.tape, hu2.output, hu2.size, hu2.block, hu2.words⟩⟩
    clear hr2 hu2
    go_wp2
    go_ret
    exact ⟨rfl, HE.out⟩

set_option maxHeartbeats 1000000 in
theorem rneg_any (b xb : Nat) (p q : Int) (w : World) (hs1 : Slot w b 0) (hs2 : Slot w b 2) (hx : RatAt w xb p q) (hq : 1 ≤ q) (lp : p.natAbs < 18446744073709551616) (lq : q.natAbs < 18446744073709551616) :
    Calls Tryz.prog 71 #[.pointer (some ⟨b, 0, none⟩), .pointer (some ⟨xb, 0, none⟩)] w fun e w' => e = .returned (.pointer (some ⟨b, 0, none⟩)) ∧ RatAt w' b (-(p / (gcdOf p q : Int))) (q / (gcdOf p q : Int)) ∧ UpdR b w w' := by
  have HS : Hid (Slot w b 0 ∧ Slot w b 2) := ⟨hs1, hs2⟩
  have HX : Hid (RatAt w xb p q) := hx
  have HL : Hid (1 ≤ q ∧ p.natAbs < 18446744073709551616 ∧ q.natAbs < 18446744073709551616) := ⟨hq, lp, lq⟩
  clear hs1 hs2 hx hq lp lq
  go_enter Tryz.func71, Tryz.ntmps71
  go_wp2_with fail
  refine (rset_any b xb p q _ HS.out.1 HS.out.2 HX.out HL.out.1 HL.out.2.1 HL.out.2.2).mono ?_
  rintro e w1 ⟨rfl, hr1, hu1⟩
  have H1 : Hid (RatAt w1 b (p / (gcdOf p q : Int)) (q / (gcdOf p q : Int)) ∧ UpdR b w w1) := ⟨hr1, hu1⟩
  clear hr1 hu1
  go_wp2_with fail
  go_region_with (first | (go_at_call 91; refine (neg_any b 0 b 0 (p / (gcdOf p q : Int)) _ (by exact H1.out.1.slot1) (by exact H1.out.1.num)).mono ?_; rintro e w2 ⟨rfl, hi2, hs2, hu2⟩))
  all_goals
    trace "limb"
    have HE : Hid (RatAt w2 b (-(p / (gcdOf p q : Int))) (q / (gcdOf p q : Int)) ∧ UpdR b w w2) := by
      have hd : RatAt w1.drew b (p / (gcdOf p q : Int)) (q / (gcdOf p q : Int)) := H1.out.1.drew
      refine ⟨⟨hi2, hd.den.upd hd.slot1 hu2 (Or.inr (by omega)), hs2, hd.slot2.upd hu2 (Or.inr (by omega))⟩, H1.out.2.trans ?_⟩
      have := UpdR.of_upd hd.slot1 hu2
      exact ⟨this.os, this.tape, this.output, this.size, this.block, this.words⟩
    clear hi2 hs2 hu2
    go_wp2
    go_ret
    exact ⟨rfl, HE.out⟩
end Go.Proofs.YtnppmigncjakeaaGreatDoor
namespace Go.Proofs.YtnppmigncjakeaaGreatDoor
open Go.RowKit Go.Deep

/-- In this block lies a fraction that equals P/Q, in terms not greater. -/
def Frac (w : World) (b : Nat) (P Q : Int) : Prop := ∃ a c, RatAt w b a c ∧ 1 ≤ c ∧ a * Q = P * c ∧ a.natAbs ≤ P.natAbs ∧ c.natAbs ≤ Q.natAbs
theorem Frac.below {w w' : World} {b : Nat} {P Q : Int} (h : Frac w b P Q) (hb : Below w.heap.size w w') : Frac w' b P Q := by
  obtain ⟨a, c, h1, h2⟩ := h
  exact ⟨a, c, h1.below hb, h2⟩

theorem reduced (a d : Int) (hd : 1 ≤ d) : 1 ≤ d / (gcdOf a d : Int) ∧ a / (gcdOf a d : Int) * d = a * (d / (gcdOf a d : Int)) ∧ (a / (gcdOf a d : Int)).natAbs ≤ a.natAbs ∧ (d / (gcdOf a d : Int)).natAbs ≤ d.natAbs := by
  have g0 : 0 < gcdOf a d := Nat.gcd_pos_of_pos_right _ (by omega)
  have h1 : (gcdOf a d : Int) ∣ a := Int.ofNat_dvd_left.2 (Nat.gcd_dvd_left _ _)
  have h2 : (gcdOf a d : Int) ∣ d := Int.ofNat_dvd_left.2 (Nat.gcd_dvd_right _ _)
  generalize gcdOf a d = g at *
  obtain ⟨x, rfl⟩ := h1
  obtain ⟨y, rfl⟩ := h2
  have gz : (g : Int) ≠ 0 := by omega
  rw [Int.mul_ediv_cancel_left _ gz, Int.mul_ediv_cancel_left _ gz]
  refine ⟨?_, ?_, ?_, ?_⟩
  · by_cases h : 0 < y
    · omega
    · exfalso
      have : (g : Int) * y ≤ 0 := Int.mul_nonpos_of_nonneg_of_nonpos (by omega) (by omega)
      omega
  · rw [Int.mul_left_comm, Int.mul_assoc]
  · rw [Int.natAbs_mul]; exact Nat.le_mul_of_pos_left _ (by simpa using g0)
  · rw [Int.natAbs_mul]; exact Nat.le_mul_of_pos_left _ (by simpa using g0)

theorem Frac.of {w : World} {b : Nat} {a d : Int} (hd : 1 ≤ d) (h : RatAt w b (a / (gcdOf a d : Int)) (d / (gcdOf a d : Int))) : Frac w b a d := by
  obtain ⟨h1, h2, h3, h4⟩ := reduced a d hd
  exact ⟨_, _, h, h1, h2, h3, h4⟩
theorem cross {a c a' c' P Q : Int} (hc : 1 ≤ c) (h1 : a * Q = P * c) (h2 : a' * c = a * c') : a' * Q = P * c' := by
  have e : c * (a' * Q) = c * (P * c') := by
    calc c * (a' * Q) = (a' * c) * Q := by rw [← Int.mul_assoc, Int.mul_comm c a']
      _ = (a * c') * Q := by rw [h2]
      _ = (a * Q) * c' := by rw [Int.mul_assoc, Int.mul_comm c' Q, ← Int.mul_assoc]
      _ = (P * c) * c' := by rw [h1]
      _ = c * (P * c') := by rw [Int.mul_comm P c, Int.mul_assoc]
  exact Int.eq_of_mul_eq_mul_left (by omega) e
theorem frac_floor {a c P Q : Int} (hc : 1 ≤ c) (hQ : 1 ≤ Q) (h : a * Q = P * c) : a / c = P / Q := by
  rw [← Int.mul_ediv_mul_of_pos_left a c (show 0 < Q by omega), h, Int.mul_comm c Q, Int.mul_ediv_mul_of_pos_left P Q (by omega)]
theorem floor_abs (P Q : Int) : (P / Q).natAbs ≤ P.natAbs := Int.natAbs_ediv_le_natAbs P Q

set_option maxHeartbeats 2000000 in
theorem down_any (b : Nat) (a c : Int) (w : World) (h : RatAt w b a c) (hc : 1 ≤ c) (la : a.natAbs < 9223372036854775808) (lc : c.natAbs < 9223372036854775808) :
    Calls Tryz.prog 70 #[.pointer (some ⟨b, 0, none⟩)] w fun e w' => e = .returned (.int .i64 (a / c)) ∧ Below w.heap.size w w' := by
  have hb0 := alloc_below w #[.bool false, .slice none 0 0] 102
  have HR : Hid (RatAt (w.alloc (.cells #[.bool false, .slice none 0 0] 102)) b a c ∧ Below w.heap.size w (w.alloc (.cells #[.bool false, .slice none 0 0] 102))) := ⟨h.below hb0, hb0⟩
  have HL : Hid (1 ≤ c ∧ a.natAbs < 9223372036854775808 ∧ c.natAbs < 9223372036854775808) := ⟨hc, la, lc⟩
  have HV : Hid ((a / c).natAbs < 9223372036854775808) := Nat.lt_of_le_of_lt (floor_abs a c) la
  clear h hc la lc hb0
  go_enter Tryz.func70, Tryz.ntmps70
  go_wp2_with fail
  refine (num_any b _).mono ?_
  rintro e w1 ⟨rfl, rfl⟩
  go_wp2_with fail
  refine (denom_any b a c _ HR.out.1 (by have := HL.out; omega)).mono ?_
  rintro e w1 ⟨k, rfl, g1, i1, l1⟩
  have H1 : Hid (IntAt w1 b 0 a ∧ IntAt w1 k 0 c ∧ Slot w1 w.heap.size 0 ∧ Below w.heap.size w w1) := ⟨HR.out.1.num.below l1, i1, (slot_new w).below l1, HR.out.2.trans (l1.mono HR.out.2.size)⟩
  clear g1 i1 l1
  go_wp2_with fail
  refine (idiv_any w.heap.size 0 b 0 k 0 a c _ H1.out.2.2.1 H1.out.1 H1.out.2.1 (by have := HL.out; omega) (by have := HL.out; omega) (by have := HL.out; omega)).mono ?_
  rintro e w2 ⟨rfl, i2, s2, u2⟩
  have H2 : Hid (IntAt w2 w.heap.size 0 (a / c) ∧ Below w.heap.size w w2) := ⟨i2, H1.out.2.2.2.trans (u2 _ (Nat.le_refl _) H1.out.2.2.2.size)⟩
  clear i2 s2 u2
  go_wp2_with fail
  refine (int64_any w.heap.size 0 (a / c) _ H2.out.1 HV.out).mono ?_
  rintro e w3 ⟨rfl, rfl⟩
  go_wp2
  go_ret
  exact ⟨rfl, H2.out.2⟩

/-- Rounded up. -/
def ceil (P Q : Int) : Int := -((-P) / Q)

set_option maxHeartbeats 2000000 in
theorem up_any (b : Nat) (P Q : Int) (w : World) (h : Frac w b P Q) (hQ : 1 ≤ Q) (lP : P.natAbs < 9223372036854775807) (lQ : Q.natAbs < 9223372036854775807) :
    Calls Tryz.prog 55 #[.pointer (some ⟨b, 0, none⟩)] w fun e w' => e = .returned (.int .i64 (ceil P Q)) ∧ Below w.heap.size w w' := by
  obtain ⟨a, c, hr, hc, hx, ha, hcq⟩ := h
  have hb0 := alloc_below w #[.bool false, .slice none 0 0, .bool false, .slice none 0 0] 104
  have HR : Hid (RatAt (w.alloc (.cells #[.bool false, .slice none 0 0, .bool false, .slice none 0 0] 104)) b a c ∧ Below w.heap.size w (w.alloc (.cells #[.bool false, .slice none 0 0, .bool false, .slice none 0 0] 104))) := ⟨hr.below hb0, hb0⟩
  obtain ⟨r1, r2, r3, r4⟩ := reduced a c hc
  have HL : Hid (1 ≤ c ∧ a.natAbs < 9223372036854775807 ∧ c.natAbs < 9223372036854775807) := ⟨hc, by omega, by omega⟩
  have HG : Hid (1 ≤ c / (gcdOf a c : Int) ∧ (a / (gcdOf a c : Int)).natAbs < 9223372036854775807 ∧ (c / (gcdOf a c : Int)).natAbs < 9223372036854775807) := ⟨r1, by omega, by omega⟩
  have hv : (-(a / (gcdOf a c : Int))) / (c / (gcdOf a c : Int)) = (-P) / Q := frac_floor r1 hQ (by rw [Int.neg_mul, Int.neg_mul, cross hc hx r2])
  have HV : Hid ((-(a / (gcdOf a c : Int))) / (c / (gcdOf a c : Int)) = (-P) / Q) := hv
  have hw : IntKind.i64.wrap (-((-P) / Q)) = -((-P) / Q) := by
    have := floor_abs (-P) Q
    rw [IntKind.wrap_i64]
    omega
  clear hr hc hx ha hcq hb0 r1 r2 r3 r4 hv hQ lP lQ
  go_enter Tryz.func55, Tryz.ntmps55
  go_wp2_with fail
  refine (rneg_any w.heap.size b a c _ (slot_rat w).1 (slot_rat w).2 HR.out.1 HL.out.1 (by have := HL.out; omega) (by have := HL.out; omega)).mono ?_
  rintro e w1 ⟨rfl, h1, u1⟩
  have H1 : Hid (RatAt w1 w.heap.size (-(a / (gcdOf a c : Int))) (c / (gcdOf a c : Int)) ∧ Below w.heap.size w w1) := ⟨h1, HR.out.2.trans (u1.below (Nat.le_refl _) HR.out.2.size)⟩
  clear h1 u1
  go_wp2_with fail
  refine (down_any w.heap.size _ _ _ H1.out.1 HG.out.1 (by have := HG.out; omega) (by have := HG.out; omega)).mono ?_
  rintro e w2 ⟨rfl, l2⟩
  rw [HV.out]
  have H2 : Hid (Below w.heap.size w w2) := H1.out.2.trans (l2.mono H1.out.2.size)
  clear l2
  go_wp2
  go_ret
  exact ⟨rfl, H2.out⟩

set_option maxHeartbeats 1000000 in
theorem refInt_any (x : Int) (w : World) (hx : -9223372036854775808 ≤ x ∧ x ≤ 9223372036854775807) :
    Calls Tryz.prog 35 #[.int .i64 x] w fun e w' => ∃ b, e = .returned (.pointer (some ⟨b, 0, none⟩)) ∧ w.heap.size ≤ b ∧ Frac w' b x 1 ∧ Below w.heap.size w w' := by
  have hb0 := alloc_below w #[.bool false, .slice none 0 0, .bool false, .slice none 0 0] 104
  have HB : Hid (Below w.heap.size w (w.alloc (.cells #[.bool false, .slice none 0 0, .bool false, .slice none 0 0] 104))) := hb0
  have HX : Hid (-9223372036854775808 ≤ x ∧ x ≤ 9223372036854775807) := hx
  clear hb0 hx
  go_enter Tryz.func35, Tryz.ntmps35
  go_wp2_with fail
  refine (rsetInt64_any w.heap.size x _ (slot_rat w).1 (slot_rat w).2 HX.out).mono ?_
  rintro e w1 ⟨rfl, h1, u1⟩
  have H1 : Hid (Frac w1 w.heap.size x 1 ∧ Below w.heap.size w w1) := ⟨⟨x, 1, h1, by omega, rfl, Nat.le_refl _, Nat.le_refl _⟩, HB.out.trans (u1.below (Nat.le_refl _) HB.out.size)⟩
  clear h1 u1
  go_wp2
  go_ret
  exact ⟨_, rfl, Nat.le_refl _, H1.out.1, H1.out.2⟩

set_option maxHeartbeats 1000000 in
theorem refSpeed_any (n t : Int) (w : World) (hn : -9223372036854775808 ≤ n ∧ n ≤ 9223372036854775807) (ht : 1 ≤ t ∧ t ≤ 9223372036854775807) :
    Calls Tryz.prog 38 #[.agg #[.int .i64 n, .int .i64 t]] w fun e w' => ∃ b, e = .returned (.pointer (some ⟨b, 0, none⟩)) ∧ w.heap.size ≤ b ∧ Frac w' b n t ∧ Below w.heap.size w w' := by
  have hb0 := alloc_below w #[.int .i64 n, .int .i64 t] 23
  have HB : Hid (Below w.heap.size w (w.alloc (.cells #[.int .i64 n, .int .i64 t] 23))) := hb0
  have HN : Hid ((-9223372036854775808 ≤ n ∧ n ≤ 9223372036854775807) ∧ (1 ≤ t ∧ t ≤ 9223372036854775807)) := ⟨hn, ht⟩
  clear hb0 hn ht
  go_enter Tryz.func38, Tryz.ntmps38
  go_wp2_with fail
  refine (newRat_any n t _ HN.out.1 HN.out.2).mono ?_
  rintro e w1 ⟨b1, rfl, g1, h1, l1⟩
  have H1 : Hid (w.heap.size ≤ b1 ∧ Frac w1 b1 n t ∧ Below w.heap.size w w1) := ⟨Nat.le_trans HB.out.size g1, Frac.of HN.out.2.1 h1, HB.out.trans (l1.mono HB.out.size)⟩
  clear g1 h1 l1
  go_wp2
  go_ret
  exact ⟨_, rfl, H1.out.1, H1.out.2.1, H1.out.2.2⟩

set_option maxHeartbeats 1000000 in
theorem refDiv_any (xb yb : Nat) (P Q R S : Int) (w : World) (hx : Frac w xb P Q) (hy : Frac w yb R S) (hR : 1 ≤ R) (hS : 1 ≤ S) (l1 : P.natAbs * S.natAbs < 18446744073709551616) (l2 : Q.natAbs * R.natAbs < 18446744073709551616) (l3 : S.natAbs < 18446744073709551616) :
    Calls Tryz.prog 56 #[.pointer (some ⟨xb, 0, none⟩), .pointer (some ⟨yb, 0, none⟩)] w fun e w' => ∃ b, e = .returned (.pointer (some ⟨b, 0, none⟩)) ∧ w.heap.size ≤ b ∧ Frac w' b (P * S) (Q * R) ∧ Below w.heap.size w w' := by
  obtain ⟨p, q, hx, hq, ex, px, qx⟩ := hx
  obtain ⟨r, s, hy, hs, ey, ry, sy⟩ := hy
  have hr : 1 ≤ r := by
    by_cases h : 0 < r
    · omega
    · exfalso
      have h1 : r * S ≤ 0 := Int.mul_nonpos_of_nonpos_of_nonneg (by omega) (by omega)
      have h2 : 0 < R * s := Int.mul_pos (by omega) (by omega)
      omega
  have hb0 := alloc_below w #[.bool false, .slice none 0 0, .bool false, .slice none 0 0] 104
  have HB : Hid (Below w.heap.size w (w.alloc (.cells #[.bool false, .slice none 0 0, .bool false, .slice none 0 0] 104))) := hb0
  have HX : Hid (RatAt (w.alloc (.cells #[.bool false, .slice none 0 0, .bool false, .slice none 0 0] 104)) xb p q ∧ RatAt (w.alloc (.cells #[.bool false, .slice none 0 0, .bool false, .slice none 0 0] 104)) yb r s) := ⟨hx.below hb0, hy.below hb0⟩
  have m1 : (p * s).natAbs ≤ P.natAbs * S.natAbs := by rw [Int.natAbs_mul]; exact Nat.mul_le_mul px sy
  have m2 : (q * r).natAbs ≤ Q.natAbs * R.natAbs := by rw [Int.natAbs_mul]; exact Nat.mul_le_mul qx ry
  have HL : Hid (1 ≤ q ∧ 1 ≤ r ∧ 1 ≤ s ∧ s.natAbs < 18446744073709551616 ∧ (p * s).natAbs < 18446744073709551616 ∧ (q * r).natAbs < 18446744073709551616) := ⟨hq, hr, hs, by omega, by omega, by omega⟩
  have hqr : 1 ≤ q * r := Int.mul_pos (by omega) (by omega)
  obtain ⟨r1, r2, r3, r4⟩ := reduced (p * s) (q * r) hqr
  have hcr : (p * s) * (Q * R) = (P * S) * (q * r) := by
    calc (p * s) * (Q * R) = (p * Q) * (R * s) := by ac_rfl
      _ = (P * q) * (r * S) := by rw [ex, ey]
      _ = (P * S) * (q * r) := by ac_rfl
  have HF : Hid (∀ w' b, RatAt w' b (p * s / (gcdOf (p * s) (q * r) : Int)) (q * r / (gcdOf (p * s) (q * r) : Int)) → Frac w' b (P * S) (Q * R)) := by
    intro w' b h
    refine ⟨_, _, h, r1, cross hqr hcr r2, ?_, ?_⟩
    · rw [Int.natAbs_mul P S]; omega
    · rw [Int.natAbs_mul Q R]; omega
  clear hx hq ex px qx hy hs ey ry sy hr hb0 m1 m2 hqr r1 r2 r3 r4 hcr l1 l2 l3 hR hS
  go_enter Tryz.func56, Tryz.ntmps56
  go_wp2_with fail
  refine (rquo_any w.heap.size xb yb p q r s _ (slot_rat w).1 (slot_rat w).2 HX.out.1 HX.out.2 HL.out.1 HL.out.2.1 HL.out.2.2.1 HL.out.2.2.2.1 HL.out.2.2.2.2.1 HL.out.2.2.2.2.2).mono ?_
  rintro e w1 ⟨rfl, h1, u1⟩
  have H1 : Hid (Frac w1 w.heap.size (P * S) (Q * R) ∧ Below w.heap.size w w1) := ⟨HF.out _ _ h1, HB.out.trans (u1.below (Nat.le_refl _) HB.out.size)⟩
  clear h1 u1
  go_wp2
  go_ret
  exact ⟨_, rfl, Nat.le_refl _, H1.out.1, H1.out.2⟩
end Go.Proofs.YtnppmigncjakeaaGreatDoor
