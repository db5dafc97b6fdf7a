/-
  millracebig: DivMod, Div of whole numbers; Denom, Set, Neg of fractions: what lies behind the call, and what stays. Conditions: numbers below 2^64, a divisor of at least 1.
-/
import Derived.Test.YtebahbcmlhdleaaDoorRat8
import Derived.Test.YtebahbcmlhdleaaDoorRat11
namespace Go.Proofs.YtebahbcmlhdleaaDoor
open Go.RowKit Go.Deep

theorem RatAt.drew {w : World} {b : Nat} {p q : Int} (h : RatAt w b p q) : RatAt w.drew b p q := h.below (Below.refl _ w).drew

theorem div_neg {x y : Int} (hy : 0 < y) (h : x.tmod y < 0) : x.tdiv y - 1 = x / y := by
  have e := Int.tmod_add_mul_tdiv x y
  have hlt : -y < x.tmod y := by
    have h1 := Int.natAbs_tmod x y
    have h2 : x.natAbs % y.natAbs < y.natAbs := Nat.mod_lt _ (by omega)
    omega
  symm
  rw [Int.ediv_eq_iff_of_pos hy]
  have e1 : y * (x.tdiv y - 1) = y * x.tdiv y - y := by rw [Int.mul_sub, Int.mul_one]
  have e2 : (x.tdiv y - 1) * y = y * x.tdiv y - y := by rw [Int.mul_comm, e1]
  rw [e2]
  omega
theorem div_pos' {x y : Int} (hy : 0 < y) (h : ¬ x.tmod y < 0) : x.tdiv y = x / y := by
  have e := Int.tmod_add_mul_tdiv x y
  have hlt : x.tmod y < y := by
    have h1 := Int.natAbs_tmod x y
    have h2 : x.natAbs % y.natAbs < y.natAbs := Nat.mod_lt _ (by omega)
    omega
  symm
  rw [Int.ediv_eq_iff_of_pos hy]
  rw [Int.mul_comm]
  omega

set_option maxHeartbeats 4000000 in
theorem divMod_any (b o xb xo yb yo mb mo : Nat) (x y : Int) (w : World) (hs : Slot w b o) (hm : Slot w mb mo) (hx : IntAt w xb xo x) (hy : IntAt w yb yo y) (lx : x.natAbs < 18446744073709551616) (ly : y.natAbs < 18446744073709551616) (y0 : 0 < y) (nb : b ≠ mb) :
    Calls Tryd.prog 52 #[.pointer (some ⟨b, o, none⟩), .pointer (some ⟨xb, xo, none⟩), .pointer (some ⟨yb, yo, none⟩), .pointer (some ⟨mb, mo, none⟩)] w fun e w' =>
      e = .returned (.tuple #[.pointer (some ⟨b, o, none⟩), .pointer (some ⟨mb, mo, none⟩)]) ∧ IntAt w' b o (x / y) ∧ Slot w' b o ∧ ∀ B, B ≤ b → B ≤ mb → B ≤ w.heap.size → Below B w w' := by
  have HS : Hid (Slot w b o ∧ Slot w mb mo ∧ b ≠ mb) := ⟨hs, hm, nb⟩
  have HI : Hid (IntAt w xb xo x ∧ IntAt w yb yo y) := ⟨hx, hy⟩
  have HL : Hid (x.natAbs < 18446744073709551616 ∧ y.natAbs < 18446744073709551616 ∧ 0 < y) := ⟨lx, ly, y0⟩
  have hg : b < w.heap.size ∧ mb < w.heap.size := ⟨lt_of_slot hs, lt_of_slot hm⟩
  have HG : Hid (b < w.heap.size ∧ mb < w.heap.size) := hg
  clear hs hm hx hy lx ly y0 nb hg
  go_enter Tryd.func52, Tryd.ntmps52
  go_wp2_with fail
  have hb0 := alloc_below w #[.bool false, .slice none 0 0] 75
  refine (set_any w.heap.size 0 yb yo y _ (slot_new w) (HI.out.2.below hb0)).mono ?_
  rintro e w1 ⟨rfl, hd1, _, hu1⟩
  have HB1 : Hid (Below w.heap.size w w1 ∧ IntAt w1 w.heap.size 0 y ∧ w.heap.size < w1.heap.size) := ⟨hb0.trans (hu1.below (Nat.le_refl _) (by simp)), hd1, lt_of_int hd1⟩
  clear hb0 hd1 hu1
  go_wp2_with fail
  refine (quoRem_any b o xb xo yb yo mb mo x y _ (HS.out.1.below HB1.out.1) (HS.out.2.1.below HB1.out.1) (HI.out.1.below HB1.out.1) (HI.out.2.below HB1.out.1) HL.out.1 (by have := HL.out.2.2; omega) HS.out.2.2).mono ?_
  rintro e w2 ⟨rfl, hq, hr, hs2, hm2, w12, hu1, hs12, hu2⟩
  have HB2 : Hid (∀ B, B ≤ b → B ≤ mb → B ≤ w.heap.size → Below B w w2) := by
    intro B h1 h2 h3
    have hb1 := HB1.out.1.mono h3
    have hb2 : Below B w1 w12 := hu1.below h1 (Nat.le_trans h3 HB1.out.1.size)
    exact (hb1.trans hb2).trans (hu2.below h2 (Nat.le_trans h3 (Nat.le_trans HB1.out.1.size hb2.size)))
  have HD2 : Hid (IntAt w2 w.heap.size 0 y) := by
    have g := HG.out
    have h1 := HB1.out.2.1.upd (HS.out.1.below HB1.out.1) hu1 (Or.inl (by omega))
    exact h1.upd hs12 hu2 (Or.inl (by omega))
  have HQ2 : Hid (IntAt w2 b o (x.tdiv y) ∧ IntAt w2 mb mo (x.tmod y) ∧ Slot w2 b o ∧ Slot w2 mb mo) := ⟨hq, hr, hs2, hm2⟩
  obtain ⟨cm, _⟩ := hr
  obtain ⟨cd, _⟩ := HD2.out
  rw [show decide (y < 0) = false by have := HL.out.2.2; simp; omega] at cd
  clear hq hs2 hm2 hu1 hs12 hu2
  by_cases hneg : x.tmod y < 0
  · rw [show decide (x.tmod y < 0) = true by simpa using hneg] at cm
    have HZ : Hid (x.tdiv y - 1 = x / y) := div_neg HL.out.2.2 hneg
    clear hneg
    go_wp2_with fail
    refine (newInt_any 1 (by omega) _).mono ?_
    rintro e w3 ⟨b1, rfl, g1, i1, s1, l1⟩
    have H3 : Hid (IntAt w3 b o (x.tdiv y) ∧ IntAt w3 b1 0 1 ∧ Slot w3 b o ∧ Below w2.heap.size w2 w3) := ⟨HQ2.out.1.below l1, i1, HQ2.out.2.2.1.below l1, l1⟩
    clear g1 i1 s1 l1
    go_wp2_with fail
    refine (isub_any b o b o b1 0 (x.tdiv y) 1 _ H3.out.2.2.1 H3.out.1 H3.out.2.1 (by rw [Int.natAbs_tdiv]; exact lt_100 (Nat.lt_of_le_of_lt (Nat.div_le_self _ _) HL.out.1)) (lt_100 (by decide))).mono ?_
    rintro e w4 ⟨rfl, i4, s4, u4⟩
    have H4 : Hid (IntAt w4 b o (x / y) ∧ Slot w4 b o ∧ IntAt w4 mb mo (x.tmod y) ∧ Slot w4 mb mo ∧ IntAt w4 w.heap.size 0 y ∧ ∀ B, B ≤ b → B ≤ mb → B ≤ w.heap.size → Below B w w4) := by
      rw [HZ.out] at i4
      have g := HG.out
      refine ⟨i4, s4, (HQ2.out.2.1.below H3.out.2.2.2).upd H3.out.2.2.1 u4 (Or.inl (Ne.symm HS.out.2.2)), (HQ2.out.2.2.2.below H3.out.2.2.2).upd u4 (Or.inl (Ne.symm HS.out.2.2)), (HD2.out.below H3.out.2.2.2).upd H3.out.2.2.1 u4 (Or.inl (by omega)), ?_⟩
      intro B h1 h2 h3
      have k1 := HB2.out B h1 h2 h3
      have k2 : Below B w2 w3 := H3.out.2.2.2.mono (Nat.le_trans h3 k1.size)
      exact (k1.trans k2).trans (u4.below h1 (Nat.le_trans h3 (Nat.le_trans k1.size k2.size)))
    clear i4 s4 u4
    go_wp2_with fail
    refine (iadd_any mb mo mb mo w.heap.size 0 (x.tmod y) y _ H4.out.2.2.2.1 H4.out.2.2.1 H4.out.2.2.2.2.1 (by rw [Int.natAbs_tmod]; exact lt_100 (Nat.lt_of_le_of_lt (Nat.mod_le _ _) HL.out.1)) (lt_100 HL.out.2.1)).mono ?_
    rintro e w5 ⟨rfl, i5, s5, u5⟩
    have H5 : Hid (IntAt w5 b o (x / y) ∧ Slot w5 b o ∧ ∀ B, B ≤ b → B ≤ mb → B ≤ w.heap.size → Below B w w5) := by
      refine ⟨H4.out.1.upd H4.out.2.2.2.1 u5 (Or.inl HS.out.2.2), H4.out.2.1.upd u5 (Or.inl HS.out.2.2), ?_⟩
      intro B h1 h2 h3
      have k1 := H4.out.2.2.2.2.2 B h1 h2 h3
      exact k1.trans (u5.below h2 (Nat.le_trans h3 k1.size))
    clear i5 s5 u5
    go_wp2
    go_ret2
    exact ⟨rfl, H5.out.1, H5.out.2.1, H5.out.2.2⟩
  · rw [show decide (x.tmod y < 0) = false by simpa using hneg] at cm
    have HZ : Hid (x.tdiv y = x / y) := div_pos' HL.out.2.2 hneg
    clear hneg
    have H5 : Hid (IntAt w2 b o (x / y) ∧ Slot w2 b o) := by
      refine ⟨?_, HQ2.out.2.2.1⟩
      have := HQ2.out.1
      rw [HZ.out] at this
      exact this
    go_wp2
    go_ret2
    exact ⟨rfl, H5.out.1, H5.out.2, HB2.out⟩

set_option maxHeartbeats 2000000 in
theorem idiv_any (b o xb xo yb yo : Nat) (x y : Int) (w : World) (hs : Slot w b o) (hx : IntAt w xb xo x) (hy : IntAt w yb yo y) (lx : x.natAbs < 18446744073709551616) (ly : y.natAbs < 18446744073709551616) (y0 : 0 < y) :
    Calls Tryd.prog 35 #[.pointer (some ⟨b, o, none⟩), .pointer (some ⟨xb, xo, none⟩), .pointer (some ⟨yb, yo, none⟩)] w fun e w' =>
      e = .returned (.pointer (some ⟨b, o, none⟩)) ∧ IntAt w' b o (x / y) ∧ Slot w' b o ∧ ∀ B, B ≤ b → B ≤ w.heap.size → Below B w w' := by
  have HS : Hid (Slot w b o ∧ b < w.heap.size) := ⟨hs, lt_of_slot hs⟩
  have HI : Hid (IntAt w xb xo x ∧ IntAt w yb yo y) := ⟨hx, hy⟩
  have HL : Hid (x.natAbs < 18446744073709551616 ∧ y.natAbs < 18446744073709551616 ∧ 0 < y) := ⟨lx, ly, y0⟩
  clear hs hx hy lx ly y0
  go_enter Tryd.func35, Tryd.ntmps35
  go_wp2_with fail
  have hb0 := alloc_below w #[.bool false, .slice none 0 0] 75
  refine (divMod_any b o xb xo yb yo w.heap.size 0 x y _ (HS.out.1.below hb0) (slot_new w) (HI.out.1.below hb0) (HI.out.2.below hb0) HL.out.1 HL.out.2.1 HL.out.2.2 (by have := HS.out.2; omega)).mono ?_
  rintro e w1 ⟨rfl, i1, s1, u1⟩
  have H1 : Hid (IntAt w1 b o (x / y) ∧ Slot w1 b o ∧ ∀ B, B ≤ b → B ≤ w.heap.size → Below B w w1) := ⟨i1, s1, fun B h1 h2 => (hb0.mono h2).trans (u1 B h1 h2 (Nat.le_trans h2 hb0.size))⟩
  clear i1 s1 u1 hb0
  go_wp2
  go_ret
  exact ⟨rfl, H1.out⟩

set_option maxHeartbeats 1000000 in
theorem denom_any (b : Nat) (p q : Int) (w : World) (h : RatAt w b p q) (hq : q ≠ 0) :
    Calls Tryd.prog 37 #[.pointer (some ⟨b, 0, none⟩)] w fun e w' => ∃ k, e = .returned (.pointer (some ⟨k, 0, none⟩)) ∧ w.heap.size ≤ k ∧ IntAt w' k 0 q ∧ Below w.heap.size w w' := by
  have hb0 := alloc_below w #[.bool false, .slice none 0 0] 75
  have HR : Hid (RatAt (w.alloc (.cells #[.bool false, .slice none 0 0] 75)) b p q ∧ q ≠ 0 ∧ Below w.heap.size w (w.alloc (.cells #[.bool false, .slice none 0 0] 75))) := ⟨h.below hb0, hq, hb0⟩
  clear h hq hb0
  go_enter Tryd.func37, Tryd.ntmps37
  go_wp2_with fail
  refine (den_any b p q _ HR.out.1 HR.out.2.1).mono ?_
  rintro e w1 ⟨rfl, rfl⟩
  go_wp2_with fail
  refine (set_any w.heap.size 0 b 2 q _ (slot_new w) HR.out.1.den).mono ?_
  rintro e w1 ⟨rfl, i1, _, u1⟩
  have H1 : Hid (IntAt w1 w.heap.size 0 q ∧ Below w.heap.size w w1) := ⟨i1, HR.out.2.2.trans (u1.below (Nat.le_refl _) HR.out.2.2.size)⟩
  clear i1 u1
  go_wp2
  go_ret
  exact ⟨_, rfl, Nat.le_refl _, H1.out.1, H1.out.2⟩

end Go.Proofs.YtebahbcmlhdleaaDoor
