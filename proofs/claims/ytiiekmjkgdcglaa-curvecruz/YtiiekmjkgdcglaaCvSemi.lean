/-
  millracekeep.CurveSemiring is true at every three rows of numbers; nothing that was there before is otherwise. Conditions: the numbers lie in memory.
-/
import Derived.Test.YtiiekmjkgdcglaaCvK1
namespace Go.Proofs.Ytiiekmjkgdcglaa
open Go.RowKit Go.Extern.Stop Go.Stop Go.Extern

/-- Three of anything. -/
def tri {α : Type} (a b c : α) : Nat → α
  | 0 => a
  | 1 => b
  | _ => c
theorem all_tri {P : Nat → (Nat → Int) → Prop} {n0 n1 n2 : Nat} {f0 f1 f2 : Nat → Int} : (∀ i, i < 3 → P (tri n0 n1 n2 i) (tri f0 f1 f2 i)) ↔ P n0 f0 ∧ P n1 f1 ∧ P n2 f2 := by
  constructor
  · intro h; exact ⟨h 0 (by omega), h 1 (by omega), h 2 (by omega)⟩
  · rintro ⟨h0, h1, h2⟩ i hi
    match i, hi with
    | 0, _ => exact h0
    | 1, _ => exact h1
    | 2, _ => exact h2
theorem lines3 (w : World) (x0 x1 x2 : Option Addr) (c0 c1 c2 n0 n1 n2 : Nat) (f0 f1 f2 : Nat → Int) (h0 : Row w x0 n0 f0) (h1 : Row w x1 n1 f1) (h2 : Row w x2 n2 f2) (m0 : n0 ≤ maxLen) (m1 : n1 ≤ maxLen) (m2 : n2 ≤ maxLen) :
    Calls Try.prog 8 #[.int .i64 60, .slice (some ⟨w.heap.size, 0, none⟩) 3 3] (w.alloc (.cells #[.slice x0 n0 c0, .slice x1 n1 c1, .slice x2 n2 c2] 22)) fun e w' => (((lineOk n0 f0 ∧ lineOk n1 f1 ∧ lineOk n2 f2) ∧ e = .returned (.bool true)) ∨ (¬ (lineOk n0 f0 ∧ lineOk n1 f1 ∧ lineOk n2 f2) ∧ e = .returned (.bool false))) ∧ w' = w.alloc (.cells #[.slice x0 n0 c0, .slice x1 n1 c1, .slice x2 n2 c2] 22) := by
  have := lines_any w.heap.size 3 3 (tri x0 x1 x2) (tri n0 n1 n2) (tri c0 c1 c2) (tri f0 f1 f2) (w.alloc (.cells #[.slice x0 n0 c0, .slice x1 n1 c1, .slice x2 n2 c2] 22)) (by omega) ?_ ?_ ?_
  · unfold Lines at this
    rw [all_tri] at this
    exact this
  · intro i hi
    match i, hi with
    | 0, _ => simp [tri]
    | 1, _ => simp [tri]
    | 2, _ => simp [tri]
  · intro i hi
    match i, hi with
    | 0, _ => exact h0.alloc _
    | 1, _ => exact h1.alloc _
    | 2, _ => exact h2.alloc _
  · intro i hi
    match i, hi with
    | 0, _ => exact m0
    | 1, _ => exact m1
    | 2, _ => exact m2

theorem semi1 (x y : Option Addr) (cx cy n m : Nat) (f g : Nat → Int) (w : World) (hx : Row w x n f) (hy : Row w y m g) (h1 : okC n f) (h2 : okC m g) (k : Nat) (hk : min n m = k) :
    Calls Try.prog 9 #[.slice x n cx, .slice y m cy] w fun e w' => ∃ s, e = .returned (.slice (some ⟨s, 0, none⟩) k k) ∧ Row w' (some ⟨s, 0, none⟩) k (conv f g) ∧ Below w.heap.size w w' := by
  have HC := then_ok x y cx cy n m f g w hx hy h1 h2
  rw [hk] at HC
  have HC' : Hid (Calls Try.prog 10 #[.slice x n cx, .slice y m cy] w fun e w' => ∃ s, e = .returned (.tuple #[.slice (some ⟨s, 0, none⟩) k k, .nilIface]) ∧ Row w' (some ⟨s, 0, none⟩) k (conv f g) ∧ Below w.heap.size w w') := HC
  clear HC hx hy h1 h2 hk
  go_enter Try.func9, Try.ntmps9
  go_wp2_with fail
  refine HC'.out.mono ?_
  rintro e w1 ⟨s, rfl, hrow, hb1⟩
  have HR : Hid (Row w1 (some ⟨s, 0, none⟩) k (conv f g)) := hrow
  clear hrow
  go_wp2
  go_ret
  exact ⟨s, rfl, HR.out, hb1⟩
theorem semi2 (x y : Option Addr) (cx cy n m : Nat) (f g : Nat → Int) (w : World) (hx : Row w x n f) (hy : Row w y m g) (h1 : okC n f) (h2 : okC m g) (k : Nat) (hk : min n m = k) :
    Calls Try.prog 11 #[.slice x n cx, .slice y m cy] w fun e w' => ∃ s, e = .returned (.slice (some ⟨s, 0, none⟩) k k) ∧ Row w' (some ⟨s, 0, none⟩) k (fun i => min (f i) (g i)) ∧ Below w.heap.size w w' := by
  have HC := least_ok x y cx cy n m f g w hx hy h1 h2
  rw [hk] at HC
  have HC' : Hid (Calls Try.prog 12 #[.slice x n cx, .slice y m cy] w fun e w' => ∃ s, e = .returned (.tuple #[.slice (some ⟨s, 0, none⟩) k k, .nilIface]) ∧ Row w' (some ⟨s, 0, none⟩) k (fun i => min (f i) (g i)) ∧ Below w.heap.size w w') := HC
  clear HC hx hy h1 h2 hk
  go_enter Try.func11, Try.ntmps11
  go_wp2_with fail
  refine HC'.out.mono ?_
  rintro e w1 ⟨s, rfl, hrow, hb1⟩
  have HR : Hid (Row w1 (some ⟨s, 0, none⟩) k (fun i => min (f i) (g i))) := hrow
  clear hrow
  go_wp2
  go_ret
  exact ⟨s, rfl, HR.out, hb1⟩

theorem semi_no (x y z : Option Addr) (cx cy cz n m l : Nat) (f g h : Nat → Int) (w : World) (hx : Row w x n f) (hy : Row w y m g) (hz : Row w z l h) (m0 : n ≤ maxLen) (m1 : m ≤ maxLen) (m2 : l ≤ maxLen) (hno : ¬ (lineOk n f ∧ lineOk m g ∧ lineOk l h)) :
    Calls Try.prog 3 #[.slice x n cx, .slice y m cy, .slice z l cz] w fun e w' => e = .returned (.bool true) ∧ Below w.heap.size w w' := by
  have HX : Hid (Row w x n f) := hx
  have HY : Hid (Row w y m g) := hy
  have HZ : Hid (Row w z l h) := hz
  have M0 : Hid (n ≤ maxLen) := m0
  have M1 : Hid (m ≤ maxLen) := m1
  have M2 : Hid (l ≤ maxLen) := m2
  have HN : Hid (¬ (lineOk n f ∧ lineOk m g ∧ lineOk l h)) := hno
  clear hx hy hz m0 m1 m2 hno
  go_enter Try.func3, Try.ntmps3
  go_wp2_with fail
  refine (curved_true _).mono ?_
  rintro e w1 ⟨rfl, hb1⟩
  go_wp2_with fail
  refine (lines3 w1 x y z cx cy cz n m l f g h (HX.out.below hb1) (HY.out.below hb1) (HZ.out.below hb1) M0.out M1.out M2.out).mono ?_
  rintro e w2 ⟨⟨hh, rfl⟩ | ⟨_, rfl⟩, rfl⟩
  · exact absurd hh HN.out
  go_wp2_with fail
  refine (curved_true _).mono ?_
  rintro e w3 ⟨rfl, hb3⟩
  go_wp2
  go_ret
  exact ⟨rfl, (hb1.alloc hb1.size _).trans (hb3.mono (by simp; have := hb1.size; omega))⟩
set_option maxRecDepth 10000 in
set_option maxHeartbeats 4000000 in
theorem semi_yes (x y z : Option Addr) (cx cy cz n m l : Nat) (f g h : Nat → Int) (w : World) (hx : Row w x n f) (hy : Row w y m g) (hz : Row w z l h) (k0 : lineOk n f) (k1 : lineOk m g) (k2 : lineOk l h) :
    Calls Try.prog 3 #[.slice x n cx, .slice y m cy, .slice z l cz] w fun e w' => e = .returned (.bool true) ∧ Below w.heap.size w w' := by
  have HX : Hid (Row w x n f) := hx
  have HY : Hid (Row w y m g) := hy
  have HZ : Hid (Row w z l h) := hz
  have K0 : Hid (lineOk n f) := k0
  have K1 : Hid (lineOk m g) := k1
  have K2 : Hid (lineOk l h) := k2
  have b0 := k0.1
  have b1 := k1.1
  have b2 := k2.1
  obtain ⟨p, hp⟩ : ∃ p, min n m = p := ⟨_, rfl⟩
  obtain ⟨q, hq⟩ : ∃ q, min m l = q := ⟨_, rfl⟩
  obtain ⟨r, hr⟩ : ∃ r, min n l = r := ⟨_, rfl⟩
  obtain ⟨t, ht⟩ : ∃ t, min p l = t := ⟨_, rfl⟩
  have O01 : Hid (okC p (conv f g)) := by rw [← hp]; exact (k0.conv k1).1
  have O12 : Hid (okC q (conv g h)) := by rw [← hq]; exact (k1.conv k2).1
  have O02 : Hid (okC r (conv f h)) := by rw [← hr]; exact (k0.conv k2).1
  have OL : Hid (okC q (fun i => min (g i) (h i))) := by rw [← hq]; exact okC_least k1.2.1 k2.2.1
  have HP : Hid (min n m = p) := hp
  have HQ : Hid (min m l = q) := hq
  have HR : Hid (min n l = r) := hr
  have HT : Hid (min p l = t) := ht
  have HT2 : Hid (min n q = t) := by show min n q = t; omega
  have HT3 : Hid (min p r = t) := by show min p r = t; omega
  have hp60 : p ≤ 60 := by omega
  have ht60 : t ≤ 60 := by omega
  clear hp hq hr ht
  clear hx hy hz k0 k1 k2
  go_enter Try.func3, Try.ntmps3
  go_wp2_with fail
  refine (curved_true _).mono ?_
  rintro e w1 ⟨rfl, hb1⟩
  go_wp2_with fail
  refine (lines3 w1 x y z cx cy cz n m l f g h (HX.out.below hb1) (HY.out.below hb1) (HZ.out.below hb1) (by unfold maxLen; omega) (by unfold maxLen; omega) (by unfold maxLen; omega)).mono ?_
  rintro e w2 ⟨⟨_, rfl⟩ | ⟨hh, rfl⟩, rfl⟩
  case inr => exact absurd ⟨K0.out, K1.out, K2.out⟩ hh
  have B2 : Hid (Below w.heap.size w (w1.alloc (.cells #[.slice x n cx, .slice y m cy, .slice z l cz] 22))) := hb1.alloc hb1.size _
  clear hb1
  generalize w1.alloc (.cells #[.slice x n cx, .slice y m cy, .slice z l cz] 22) = w2 at *
  go_wp2_with fail
  refine (semi1 x y cx cy n m f g w2 (HX.out.below B2.out) (HY.out.below B2.out) K0.out.2.1 K1.out.2.1 p HP.out).mono ?_
  rintro e w3 ⟨s1, rfl, hr1, hb3⟩
  have R1 : Hid (Row w3 (some ⟨s1, 0, none⟩) p (conv f g)) := hr1
  have B3 : Hid (Below w.heap.size w w3) := B2.out.trans (hb3.mono B2.out.size)
  clear hr1 hb3
  go_wp2_with fail
  refine (semi1 y x cy cx m n g f w3 (HY.out.below B3.out) (HX.out.below B3.out) K1.out.2.1 K0.out.2.1 p (by have := HP.out; omega)).mono ?_
  rintro e w4 ⟨s2, rfl, hr2, hb4⟩
  have R1' : Hid (Row w4 (some ⟨s1, 0, none⟩) p (conv f g)) := R1.out.below hb4
  have R2 : Hid (Row w4 (some ⟨s2, 0, none⟩) p (conv g f)) := hr2
  have B4 : Hid (Below w.heap.size w w4) := B3.out.trans (hb4.mono B3.out.size)
  clear hr2 hb4
  go_wp2_with fail
  refine (same_two _ _ _ _ p p rfl _ _ w4 (by unfold maxLen; omega) R1'.out R2.out (fun i _ => conv_comm f g i)).mono ?_
  rintro e w5 ⟨rfl, hq5⟩
  have B5 : Hid (Below w.heap.size w w5) := B4.out.trans (below_of_drew hq5)
  clear hq5 R1 R1' R2
  go_wp2_with fail
  refine (semi1 x y cx cy n m f g w5 (HX.out.below B5.out) (HY.out.below B5.out) K0.out.2.1 K1.out.2.1 p HP.out).mono ?_
  rintro e w6 ⟨s4, rfl, hr4, hb6⟩
  have R4 : Hid (Row w6 (some ⟨s4, 0, none⟩) p (conv f g)) := hr4
  have B6 : Hid (Below w.heap.size w w6) := B5.out.trans (hb6.mono B5.out.size)
  clear hr4 hb6
  go_wp2_with fail
  refine (semi1 (some ⟨s4, 0, none⟩) z p cz p l (conv f g) h w6 R4.out (HZ.out.below B6.out) O01.out K2.out.2.1 t HT.out).mono ?_
  rintro e w7 ⟨s5, rfl, hr5, hb7⟩
  have R5 : Hid (Row w7 (some ⟨s5, 0, none⟩) t (conv (conv f g) h)) := hr5
  have B7 : Hid (Below w.heap.size w w7) := B6.out.trans (hb7.mono B6.out.size)
  clear hr5 hb7 R4
  go_wp2_with fail
  refine (semi1 y z cy cz m l g h w7 (HY.out.below B7.out) (HZ.out.below B7.out) K1.out.2.1 K2.out.2.1 q HQ.out).mono ?_
  rintro e w8 ⟨s6, rfl, hr6, hb8⟩
  have R5' : Hid (Row w8 (some ⟨s5, 0, none⟩) t (conv (conv f g) h)) := R5.out.below hb8
  have R6 : Hid (Row w8 (some ⟨s6, 0, none⟩) q (conv g h)) := hr6
  have B8 : Hid (Below w.heap.size w w8) := B7.out.trans (hb8.mono B7.out.size)
  clear hr6 hb8 R5
  go_wp2_with fail
  refine (semi1 x (some ⟨s6, 0, none⟩) cx q n q f (conv g h) w8 (HX.out.below B8.out) R6.out K0.out.2.1 O12.out t HT2.out).mono ?_
  rintro e w9 ⟨s7, rfl, hr7, hb9⟩
  have R5'' : Hid (Row w9 (some ⟨s5, 0, none⟩) t (conv (conv f g) h)) := R5'.out.below hb9
  have R7 : Hid (Row w9 (some ⟨s7, 0, none⟩) t (conv f (conv g h))) := hr7
  have B9 : Hid (Below w.heap.size w w9) := B8.out.trans (hb9.mono B8.out.size)
  clear hr7 hb9 R5' R6
  go_wp2_with fail
  refine (same_two _ _ _ _ t t rfl _ _ w9 (by unfold maxLen; omega) R5''.out R7.out (fun i _ => conv_assoc f g h i)).mono ?_
  rintro e w10 ⟨rfl, hq10⟩
  have B10 : Hid (Below w.heap.size w w10) := B9.out.trans (below_of_drew hq10)
  clear hq10 R5'' R7
  go_wp2_with fail
  refine (semi2 y z cy cz m l g h w10 (HY.out.below B10.out) (HZ.out.below B10.out) K1.out.2.1 K2.out.2.1 q HQ.out).mono ?_
  rintro e w11 ⟨s9, rfl, hr9, hb11⟩
  have R9 : Hid (Row w11 (some ⟨s9, 0, none⟩) q (fun i => min (g i) (h i))) := hr9
  have B11 : Hid (Below w.heap.size w w11) := B10.out.trans (hb11.mono B10.out.size)
  clear hr9 hb11
  go_wp2_with fail
  refine (semi1 x (some ⟨s9, 0, none⟩) cx q n q f (fun i => min (g i) (h i)) w11 (HX.out.below B11.out) R9.out K0.out.2.1 OL.out t HT2.out).mono ?_
  rintro e w12 ⟨s10, rfl, hr10, hb12⟩
  have R10 : Hid (Row w12 (some ⟨s10, 0, none⟩) t (conv f (fun i => min (g i) (h i)))) := hr10
  have B12 : Hid (Below w.heap.size w w12) := B11.out.trans (hb12.mono B11.out.size)
  clear hr10 hb12 R9
  go_wp2_with fail
  refine (semi1 x y cx cy n m f g w12 (HX.out.below B12.out) (HY.out.below B12.out) K0.out.2.1 K1.out.2.1 p HP.out).mono ?_
  rintro e w13 ⟨s11, rfl, hr11, hb13⟩
  have R10' : Hid (Row w13 (some ⟨s10, 0, none⟩) t (conv f (fun i => min (g i) (h i)))) := R10.out.below hb13
  have R11 : Hid (Row w13 (some ⟨s11, 0, none⟩) p (conv f g)) := hr11
  have B13 : Hid (Below w.heap.size w w13) := B12.out.trans (hb13.mono B12.out.size)
  clear hr11 hb13 R10
  go_wp2_with fail
  refine (semi1 x z cx cz n l f h w13 (HX.out.below B13.out) (HZ.out.below B13.out) K0.out.2.1 K2.out.2.1 r HR.out).mono ?_
  rintro e w14 ⟨s12, rfl, hr12, hb14⟩
  have R10'' : Hid (Row w14 (some ⟨s10, 0, none⟩) t (conv f (fun i => min (g i) (h i)))) := R10'.out.below hb14
  have R11' : Hid (Row w14 (some ⟨s11, 0, none⟩) p (conv f g)) := R11.out.below hb14
  have R12 : Hid (Row w14 (some ⟨s12, 0, none⟩) r (conv f h)) := hr12
  have B14 : Hid (Below w.heap.size w w14) := B13.out.trans (hb14.mono B13.out.size)
  clear hr12 hb14 R10' R11
  go_wp2_with fail
  refine (semi2 (some ⟨s11, 0, none⟩) (some ⟨s12, 0, none⟩) p r p r (conv f g) (conv f h) w14 R11'.out R12.out O01.out O02.out t HT3.out).mono ?_
  rintro e w15 ⟨s13, rfl, hr13, hb15⟩
  have R10''' : Hid (Row w15 (some ⟨s10, 0, none⟩) t (conv f (fun i => min (g i) (h i)))) := R10''.out.below hb15
  have R13 : Hid (Row w15 (some ⟨s13, 0, none⟩) t (fun i => min (conv f g i) (conv f h i))) := hr13
  have B15 : Hid (Below w.heap.size w w15) := B14.out.trans (hb15.mono B14.out.size)
  clear hr13 hb15 R10'' R11' R12
  go_wp2_with fail
  refine (same_two _ _ _ _ t t rfl _ _ w15 (by unfold maxLen; omega) R10'''.out R13.out (fun i _ => conv_min f g h i)).mono ?_
  rintro e w16 ⟨rfl, hq16⟩
  have B16 : Hid (Below w.heap.size w w16) := B15.out.trans (below_of_drew hq16)
  clear hq16 R10''' R13
  go_wp2_with fail
  refine (semi1 x y cx cy n m f g w16 (HX.out.below B16.out) (HY.out.below B16.out) K0.out.2.1 K1.out.2.1 p HP.out).mono ?_
  rintro e w17 ⟨s15, rfl, hr15, hb17⟩
  have B17 : Hid (Below w.heap.size w w17) := B16.out.trans (hb17.mono B16.out.size)
  clear hr15 hb17
  by_cases hmn : m < n
  · obtain rfl : p = m := by have := HP.out; omega
    go_wp2
    go_ret
    exact ⟨rfl, B17.out⟩
  · obtain rfl : p = n := by have := HP.out; omega
    go_wp2
    go_ret
    exact ⟨rfl, B17.out⟩
theorem semi_any (x y z : Option Addr) (cx cy cz n m l : Nat) (f g h : Nat → Int) (w : World) (hx : Row w x n f) (hy : Row w y m g) (hz : Row w z l h) (m0 : n ≤ maxLen) (m1 : m ≤ maxLen) (m2 : l ≤ maxLen) :
    Calls Try.prog 3 #[.slice x n cx, .slice y m cy, .slice z l cz] w fun e w' => e = .returned (.bool true) ∧ Below w.heap.size w w' := by
  by_cases hk : lineOk n f ∧ lineOk m g ∧ lineOk l h
  · exact semi_yes x y z cx cy cz n m l f g h w hx hy hz hk.1 hk.2.1 hk.2.2
  · exact semi_no x y z cx cy cz n m l f g h w hx hy hz m0 m1 m2 hk
end Go.Proofs.Ytiiekmjkgdcglaa
