/-
  millracebig: den, Num, NewRat, SetInt64 of fractions, Mul of whole numbers: what lies behind the call, and what stays. Conditions: as in Rat4.
  millracebig: Mul, sum, Add, Sub of whole numbers: what lies behind the call, and what stays. Conditions: numbers below 2^3200.
  millracebig: sum, Add, Sub of whole numbers: what lies behind the call, and what stays. Conditions: numbers below 2^3200.
-/
import Derived.Test.YtnppmigncjakeaaGreatDoorRat4
namespace Go.Proofs.YtnppmigncjakeaaGreatDoor
open Go.RowKit Go.Deep

theorem slot_rat (w : World) : Slot (w.alloc (.cells #[.bool false, .slice none 0 0, .bool false, .slice none 0 0] 104)) w.heap.size 0 ∧ Slot (w.alloc (.cells #[.bool false, .slice none 0 0, .bool false, .slice none 0 0] 104)) w.heap.size 2 := ⟨⟨⟨false, by simp⟩, ⟨none, 0, 0, by simp⟩, by simp, by simp⟩, ⟨⟨false, by simp⟩, ⟨none, 0, 0, by simp⟩, by simp, by simp⟩⟩

set_option maxHeartbeats 1000000 in
theorem den_any (b : Nat) (p q : Int) (w : World) (h : RatAt w b p q) (hq : q ≠ 0) : Calls Tryz.prog 62 #[.pointer (some ⟨b, 0, none⟩)] w fun e w' => e = .returned (.pointer (some ⟨b, 2, none⟩)) ∧ w' = w := by
  obtain ⟨_, ⟨b1, vb, b2, b3⟩, _, _⟩ := h
  obtain ⟨xb, kb, cb, rfl, hb1, hb2⟩ := b3.form
  have e0 : ((kb : Int) == 0) = false := by simp; omega
  clear hb2 b3 hq
  go_enter Tryz.func62, Tryz.ntmps62
  go_wp2
  go_ret
  exact ⟨rfl, rfl⟩

theorem num_any (b : Nat) (w : World) : Calls Tryz.prog 87 #[.pointer (some ⟨b, 0, none⟩)] w fun e w' => e = .returned (.pointer (some ⟨b, 0, none⟩)) ∧ w' = w := by
  go_enter Tryz.func87, Tryz.ntmps87
  go_wp2
  go_ret
  exact ⟨rfl, rfl⟩

set_option maxHeartbeats 2000000 in
theorem newRat_any (a d : Int) (w : World) (ha : -9223372036854775808 ≤ a ∧ a ≤ 9223372036854775807) (hd : 1 ≤ d ∧ d ≤ 9223372036854775807) :
    Calls Tryz.prog 61 #[.int .i64 a, .int .i64 d] w fun e w' => ∃ b, e = .returned (.pointer (some ⟨b, 0, none⟩)) ∧ w.heap.size ≤ b ∧ RatAt w' b (a / (gcdOf a d : Int)) (d / (gcdOf a d : Int)) ∧ Below w.heap.size w w' := by
  have HA : Hid (-9223372036854775808 ≤ a ∧ a ≤ 9223372036854775807) := ha
  have HD : Hid (1 ≤ d ∧ d ≤ 9223372036854775807) := hd
  have e0 : (d == 0) = false := by simp; omega
  clear ha hd
  go_enter Tryz.func61, Tryz.ntmps61
  go_wp2_with fail
  refine (newInt_any a HA.out _).mono ?_
  rintro e w1 ⟨b1, rfl, g1, i1, s1, l1⟩
  have HI1 : Hid (IntAt w1 b1 0 a ∧ Below (w.heap.size + 1) (w.alloc (.cells #[.bool false, .slice none 0 0, .bool false, .slice none 0 0] 104)) w1) := ⟨i1, by simpa using l1⟩
  clear g1 i1 s1 l1
  go_wp2_with fail
  refine (newInt_any d (by have := HD.out; omega) _).mono ?_
  rintro e w2 ⟨b2, rfl, g2, i2, s2, l2⟩
  have HI2 : Hid (IntAt w2 b1 0 a ∧ IntAt w2 b2 0 d ∧ Below (w.heap.size + 1) (w.alloc (.cells #[.bool false, .slice none 0 0, .bool false, .slice none 0 0] 104)) w2) := ⟨HI1.out.1.below l2, i2, HI1.out.2.trans (l2.mono (by have := HI1.out.2.size; simpa using this))⟩
  clear g2 i2 s2 l2
  go_wp2_with fail
  refine (setFrac_any w.heap.size b1 0 b2 0 a d _ ((slot_rat w).1.below (by simpa using HI2.out.2.2)) ((slot_rat w).2.below (by simpa using HI2.out.2.2)) HI2.out.1 HI2.out.2.1 HD.out.1 (by have := HA.out; omega) (by have := HD.out; omega)).mono ?_
  rintro e w3 ⟨rfl, h1, h2⟩
  have hb2 : Below w.heap.size w w2 := ((Below.refl _ _).alloc (Nat.le_refl _) _).trans (HI2.out.2.2.mono (by omega))
  have HH : Hid (RatAt w3 w.heap.size (a / (gcdOf a d : Int)) (d / (gcdOf a d : Int)) ∧ Below w.heap.size w w3) := ⟨h1, hb2.trans (h2.below (Nat.le_refl _) hb2.size)⟩
  clear h1 h2 hb2
  go_wp2
  go_ret
  exact ⟨_, rfl, Nat.le_refl _, HH.out.1, HH.out.2⟩

set_option maxHeartbeats 2000000 in
theorem rsetInt64_any (b : Nat) (a : Int) (w : World) (hs1 : Slot w b 0) (hs2 : Slot w b 2) (ha : -9223372036854775808 ≤ a ∧ a ≤ 9223372036854775807) :
    Calls Tryz.prog 58 #[.pointer (some ⟨b, 0, none⟩), .int .i64 a] w fun e w' => e = .returned (.pointer (some ⟨b, 0, none⟩)) ∧ RatAt w' b a 1 ∧ UpdR b w w' := by
  have HS : Hid (Slot w b 0 ∧ Slot w b 2) := ⟨hs1, hs2⟩
  have HA : Hid (-9223372036854775808 ≤ a ∧ a ≤ 9223372036854775807) := ha
  clear hs1 hs2 ha
  go_enter Tryz.func58, Tryz.ntmps58
  go_wp2_with fail
  refine (newInt_any a HA.out _).mono ?_
  rintro e w1 ⟨b1, rfl, g1, i1, s1, l1⟩
  have HI1 : Hid (IntAt w1 b1 0 a ∧ Below w.heap.size w w1) := ⟨i1, l1⟩
  clear g1 i1 s1 l1
  go_wp2_with fail
  refine (newInt_any 1 (by omega) _).mono ?_
  rintro e w2 ⟨b2, rfl, g2, i2, s2, l2⟩
  have HI2 : Hid (IntAt w2 b1 0 a ∧ IntAt w2 b2 0 1 ∧ Below w.heap.size w w2) := ⟨HI1.out.1.below l2, i2, HI1.out.2.trans (l2.mono HI1.out.2.size)⟩
  clear g2 i2 s2 l2
  go_wp2_with fail
  refine (setFrac_any b b1 0 b2 0 a 1 _ (HS.out.1.below HI2.out.2.2) (HS.out.2.below HI2.out.2.2) HI2.out.1 HI2.out.2.1 (by omega) (by have := HA.out; omega) (by omega)).mono ?_
  rintro e w3 ⟨rfl, h1, h2⟩
  rw [(gcdOf_one a).1, (gcdOf_one a).2] at h1
  have HH : Hid (RatAt w3 b a 1 ∧ UpdR b w w3) := ⟨h1, (UpdR.of_below HI2.out.2.2).trans h2⟩
  clear h1 h2
  go_wp2
  go_ret
  exact ⟨rfl, HH.out.1, HH.out.2⟩

theorem lt_100 {n : Nat} (h : n < 18446744073709551616) : n < 4294967296 ^ 100 := Nat.lt_of_lt_of_le h (by decide)
end Go.Proofs.YtnppmigncjakeaaGreatDoor
namespace Go.Proofs.YtnppmigncjakeaaGreatDoor
open Go.RowKit Go.Deep

theorem sign_mul (x y : Int) : (if (!(decide (x < 0) == decide (y < 0))) = true then -((x.natAbs * y.natAbs : Nat) : Int) else ((x.natAbs * y.natAbs : Nat) : Int)) = x * y := by
  rw [Int.natCast_mul]
  have e : ∀ c : Bool, c = (!(decide (x < 0) == decide (y < 0))) → (if c = true then -((x.natAbs : Int) * (y.natAbs : Int)) else (x.natAbs : Int) * (y.natAbs : Int)) = x * y := ?_
  · exact e _ rfl
  intro c hc
  by_cases hx : x < 0 <;> by_cases hy : y < 0 <;> simp [hx, hy] at hc <;> subst hc
  · rw [if_neg (by simp), show ((x.natAbs : Nat) : Int) = -x by omega, show ((y.natAbs : Nat) : Int) = -y by omega, Int.neg_mul_neg]
  · rw [if_pos rfl, show ((x.natAbs : Nat) : Int) = -x by omega, show ((y.natAbs : Nat) : Int) = y by omega, Int.neg_mul, Int.neg_neg]
  · rw [if_pos rfl, show ((x.natAbs : Nat) : Int) = x by omega, show ((y.natAbs : Nat) : Int) = -y by omega, Int.mul_neg, Int.neg_neg]
  · rw [if_neg (by simp), show ((x.natAbs : Nat) : Int) = x by omega, show ((y.natAbs : Nat) : Int) = y by omega]

/-- Two whole numbers' cells. -/
def TwoAt (xb xo yb yo : Nat) (p q u v : Value) (w : World) : Prop := w.cell? ⟨xb, xo, none⟩ = some p ∧ w.cell? ⟨xb, xo + 1, none⟩ = some q ∧ w.cell? ⟨yb, yo, none⟩ = some u ∧ w.cell? ⟨yb, yo + 1, none⟩ = some v
theorem TwoAt.below {xb xo yb yo : Nat} {p q u v : Value} {w w' : World} (h : TwoAt xb xo yb yo p q u v w) (hb : Below w.heap.size w w') : TwoAt xb xo yb yo p q u v w' :=
  ⟨(hb.cell (lt_of_cell h.1)).trans h.1, (hb.cell (lt_of_cell h.2.1)).trans h.2.1, (hb.cell (lt_of_cell h.2.2.1)).trans h.2.2.1, (hb.cell (lt_of_cell h.2.2.2)).trans h.2.2.2⟩
theorem TwoAt.upd {xb xo yb yo b o : Nat} {p q u v : Value} {w w' : World} (h : TwoAt xb xo yb yo p q u v w) (hb : Upd b o w w') (h1 : xb ≠ b) (h2 : yb ≠ b) : TwoAt xb xo yb yo p q u v w' :=
  ⟨(hb.cell xb xo (lt_of_cell h.1) (by omega)).trans h.1, (hb.cell xb (xo + 1) (lt_of_cell h.2.1) (by omega)).trans h.2.1, (hb.cell yb yo (lt_of_cell h.2.2.1) (by omega)).trans h.2.2.1, (hb.cell yb (yo + 1) (lt_of_cell h.2.2.2) (by omega)).trans h.2.2.2⟩

set_option maxHeartbeats 4000000 in
theorem imul_any (b o xb xo yb yo : Nat) (x y : Int) (w : World) (hs : Slot w b o) (hx : IntAt w xb xo x) (hy : IntAt w yb yo y) (lx : x.natAbs < 4294967296 ^ 100) (ly : y.natAbs < 4294967296 ^ 100) (nx : xb ≠ b) (ny : yb ≠ b) :
    Calls Tryz.prog 64 #[.pointer (some ⟨b, o, none⟩), .pointer (some ⟨xb, xo, none⟩), .pointer (some ⟨yb, yo, none⟩)] w fun e w' => e = .returned (.pointer (some ⟨b, o, none⟩)) ∧ IntAt w' b o (x * y) ∧ Slot w' b o ∧ Upd b o w w' := by
  have HS : Hid (Slot w b o) := hs
  have HL : Hid (x.natAbs < 4294967296 ^ 100 ∧ y.natAbs < 4294967296 ^ 100) := ⟨lx, ly⟩
  obtain ⟨c0, v, c1, hn⟩ := hx
  obtain ⟨x0, m, c, rfl, _, _⟩ := hn.form
  obtain ⟨d0, v', d1, hn'⟩ := hy
  obtain ⟨y0, m', c', rfl, _, _⟩ := hn'.form
  have HN : Hid (NatAt w (.slice x0 m c) x.natAbs ∧ NatAt w (.slice y0 m' c') y.natAbs) := ⟨hn, hn'⟩
  have HT : Hid (TwoAt xb xo yb yo (.bool (decide (x < 0))) (.slice x0 m c) (.bool (decide (y < 0))) (.slice y0 m' c') w ∧ xb ≠ b ∧ yb ≠ b) := ⟨⟨c0, c1, d0, d1⟩, nx, ny⟩
  clear hn hn' hs lx ly c0 c1 d0 d1 nx ny
  go_enter Tryz.func64, Tryz.ntmps64
  go_wp2_with fail
  go_region_held3 (fun w' => w'.cell? ⟨xb, xo, none⟩ = some (.bool (decide (x < 0))) ∧ w'.cell? ⟨xb, xo + 1, none⟩ = some (.slice x0 m c) ∧ w'.cell? ⟨yb, yo, none⟩ = some (.bool (decide (y < 0))) ∧ w'.cell? ⟨yb, yo + 1, none⟩ = some (.slice y0 m' c')) (first | exact HT.out.1 | exact S2.out | exact S1.out)
    (first | (go_at_call 78; refine (mul_any _ (by exact HN.out.1) (by exact HN.out.2) (by exact HL.out.1) (by exact HL.out.2)).mono ?_; rintro e w1 ⟨v1, rfl, hv1, hb1⟩; have S1 : Hid (TwoAt xb xo yb yo (.bool (decide (x < 0))) (.slice x0 m c) (.bool (decide (y < 0))) (.slice y0 m' c') w1) := TwoAt.below (w := w.drew) HT.out.1 hb1) | (go_at_call 77; refine (give_any b o _ _ (by exact Slot.below (w := w.drew) HS.out hb1) (by exact hv1)).mono ?_; rintro e w2 ⟨rfl, hi2, hs2, hu2⟩; have S2 : Hid (TwoAt xb xo yb yo (.bool (decide (x < 0))) (.slice x0 m c) (.bool (decide (y < 0))) (.slice y0 m' c') w2) := TwoAt.upd S1.out hu2 HT.out.2.1 HT.out.2.2))
  all_goals
    trace "limb"
    have HI : Hid (IntAt w2 b o (x * y)) := by
      rw [sign_mul] at hi2
      exact hi2
    have hbw : Below w.heap.size w w1 := ((Below.refl _ w).drew).trans hb1
    clear hi2 hv1 hb1
    go_wp2
    go_ret
    exact ⟨rfl, HI.out, hs2, (Upd.of_below hbw).trans hu2⟩
end Go.Proofs.YtnppmigncjakeaaGreatDoor
namespace Go.Proofs.YtnppmigncjakeaaGreatDoor
open Go.RowKit Go.Deep

/-- A number with a sign. -/
def sgn (p : Bool) (n : Nat) : Int := if p then -(n : Int) else n

set_option maxHeartbeats 2000000 in
theorem sum_any (p q : Bool) {v1 v2 : Value} {n m : Nat} (w : World) (h1 : NatAt w v1 n) (h2 : NatAt w v2 m) (hn : n < 4294967296 ^ 100) (hm : m < 4294967296 ^ 100) :
    Calls Tryz.prog 95 #[.bool p, v1, .bool q, v2] w fun e w' => ∃ s v k, e = .returned (.tuple #[.bool s, v]) ∧ NatAt w' v k ∧ sgn s k = sgn p n + sgn q m ∧ Below w.heap.size w w' := by
  obtain ⟨x, k, c, rfl, _, _⟩ := h1.form
  obtain ⟨y, l, d, rfl, _, _⟩ := h2.form
  have H1 : Hid (NatAt w (.slice x k c) n) := h1
  have H2 : Hid (NatAt w (.slice y l d) m) := h2
  have HN : Hid (n < 4294967296 ^ 100 ∧ m < 4294967296 ^ 100) := ⟨hn, hm⟩
  clear h1 h2 hn hm
  by_cases hpq : p = q
  · subst hpq
    have e0 : (p == p) = true := by simp
    go_enter Tryz.func95, Tryz.ntmps95
    go_wp2_with fail
    refine (add_any _ H1.out H2.out HN.out.1 HN.out.2).mono ?_
    rintro e w1 ⟨v, rfl, hv, hb⟩
    have HV : Hid (NatAt w1 v (n + m)) := hv
    clear hv
    go_wp2
    go_ret2
    exact ⟨p, v, n + m, rfl, HV.out, by cases p <;> simp [sgn] <;> omega, hb⟩
  · have e0 : (p == q) = false := by simpa using hpq
    have hq : q = !p := by cases p <;> cases q <;> simp_all
    have HPQ : Hid (q = !p) := hq
    clear hq
    clear hpq
    by_cases hle : m ≤ n
    · have hc0 : 0 ≤ cmpOf n m := by unfold cmpOf; rw [if_neg (by omega)]; split <;> omega
      have HC : Hid (0 ≤ cmpOf n m) := hc0
      clear hc0
      have HLE : Hid (m ≤ n) := hle
      go_enter Tryz.func95, Tryz.ntmps95
      go_wp2_with fail
      refine (cmp_any _ H1.out H2.out).mono ?_
      rintro e w1 ⟨rfl, hb1⟩
      have hc : decide (0 ≤ cmpOf n m) = true := by simpa using HC.out
      generalize cmpOf n m = cm at *
      have H1' : Hid (NatAt w1 (.slice x k c) n) := H1.out.below hb1
      have H2' : Hid (NatAt w1 (.slice y l d) m) := H2.out.below hb1
      go_wp2_with fail
      refine (sub_any _ H1'.out H2'.out HN.out.1 HLE.out).mono ?_
      rintro e w2 ⟨v, rfl, hv, hb2⟩
      have HV : Hid (NatAt w2 v (n - m)) := hv
      clear hv
      go_wp2
      go_ret2
      refine ⟨p, v, n - m, rfl, HV.out, ?_, hb1.trans (hb2.mono hb1.size)⟩
      have := HLE.out
      rw [HPQ.out]
      cases p <;> simp [sgn] <;> omega
    · have hc0 : cmpOf n m < 0 := by unfold cmpOf; rw [if_pos (by omega)]; omega
      have HC : Hid (cmpOf n m < 0) := hc0
      have hlt : n < m := by omega
      have HLE : Hid (n < m) := hlt
      clear hc0 hlt
      go_enter Tryz.func95, Tryz.ntmps95
      go_wp2_with fail
      refine (cmp_any _ H1.out H2.out).mono ?_
      rintro e w1 ⟨rfl, hb1⟩
      have hc : decide (0 ≤ cmpOf n m) = false := by have := HC.out; simp; omega
      generalize cmpOf n m = cm at *
      have H1' : Hid (NatAt w1 (.slice x k c) n) := H1.out.below hb1
      have H2' : Hid (NatAt w1 (.slice y l d) m) := H2.out.below hb1
      go_wp2_with fail
      refine (sub_any _ H2'.out H1'.out HN.out.2 (Nat.le_of_lt HLE.out)).mono ?_
      rintro e w2 ⟨v, rfl, hv, hb2⟩
      have HV : Hid (NatAt w2 v (m - n)) := hv
      clear hv
      go_wp2
      go_ret2
      refine ⟨q, v, m - n, rfl, HV.out, ?_, hb1.trans (hb2.mono hb1.size)⟩
      have := HLE.out
      rw [HPQ.out]
      cases p <;> simp [sgn] <;> omega
theorem sgn_abs (x : Int) : sgn (decide (x < 0)) x.natAbs = x := by
  unfold sgn
  by_cases h : x < 0 <;> simp [h] <;> omega
theorem sgn_neg (x : Int) : sgn (!decide (x < 0)) x.natAbs = -x := by
  unfold sgn
  by_cases h : x < 0 <;> simp [h] <;> omega
end Go.Proofs.YtnppmigncjakeaaGreatDoor
