/-
  millracekeep.CurveOnce is true at every three rows of numbers; nothing that was there before is otherwise. Conditions: the numbers lie in memory, and a slice is no longer than its room.
-/
import Derived.Test.YtiiekmjkgdcglaaCvSemi
namespace Go.Proofs.Ytiiekmjkgdcglaa
open Go.RowKit Go.Extern.Stop Go.Stop Go.Extern

theorem dlyV_bd {n m : Nat} {f g : Nat → Int} (h : dlyOk n f m g) : 0 ≤ dlyV n f m g ∧ dlyV n f m g ≤ m := by
  refine ⟨px_nonneg _ _, px_le _ _ (by omega) _ fun t ht => ?_⟩
  have := h t ht
  omega
theorem once_no (x y z : Option Addr) (cx cy cz n m l : Nat) (f g h : Nat → Int) (w : World) (hx : Row w x n f) (hy : Row w y m g) (hz : Row w z l h) (m0 : n ≤ maxLen) (m1 : m ≤ maxLen) (m2 : l ≤ maxLen) (hno : ¬ (lineOk n f ∧ lineOk m g ∧ lineOk l h)) :
    Calls Try.prog 5 #[.slice x n cx, .slice y m cy, .slice z l cz] w fun e w' => e = .returned (.bool true) ∧ Below w.heap.size w w' := by
  have HX : Hid (Row w x n f) := hx
  have HY : Hid (Row w y m g) := hy
  have HZ : Hid (Row w z l h) := hz
  have M0 : Hid (n ≤ maxLen) := m0
  have M1 : Hid (m ≤ maxLen) := m1
  have M2 : Hid (l ≤ maxLen) := m2
  have HN : Hid (¬ (lineOk n f ∧ lineOk m g ∧ lineOk l h)) := hno
  clear hx hy hz m0 m1 m2 hno
  go_enter Try.func5, Try.ntmps5
  go_wp2_with fail
  refine (curved_true _).mono ?_
  rintro e w1 ⟨rfl, hb1⟩
  go_wp2_with fail
  refine (lines3 w1 x y z cx cy cz n m l f g h (HX.out.below hb1) (HY.out.below hb1) (HZ.out.below hb1) M0.out M1.out M2.out).mono ?_
  rintro e w2 ⟨⟨hh, rfl⟩ | ⟨_, rfl⟩, rfl⟩
  · exact absurd hh HN.out
  go_wp2_with fail
  refine (curved_true _).mono ?_
  rintro e w3 ⟨rfl, hb3⟩
  go_wp2
  go_ret
  exact ⟨rfl, (hb1.alloc hb1.size _).trans (hb3.mono (by simp; have := hb1.size; omega))⟩

theorem then_k (x y : Option Addr) (cx cy n m : Nat) (f g : Nat → Int) (w : World) (hx : Row w x n f) (hy : Row w y m g) (h1 : okC n f) (h2 : okC m g) (k : Nat) (hk : min n m = k) :
    Calls Try.prog 10 #[.slice x n cx, .slice y m cy] w fun e w' => ∃ s, e = .returned (.tuple #[.slice (some ⟨s, 0, none⟩) k k, .nilIface]) ∧ Row w' (some ⟨s, 0, none⟩) k (conv f g) ∧ Below w.heap.size w w' := by
  subst hk; exact then_ok x y cx cy n m f g w hx hy h1 h2
theorem behind_k (x y : Option Addr) (cx cy n m : Nat) (f g : Nat → Int) (w : World) (hx : Row w x n f) (hy : Row w y m g) (h1 : okC n f) (h2 : okC m g) (hc : n ≤ cx) (hc2 : cx ≤ maxLen) (k : Nat) (hk : (min n m + 1) / 2 = k) (F : Nat → Int) (hF : bhd (min n m) f g = F) :
    Calls Try.prog 17 #[.slice x n cx, .slice y m cy] w fun e w' => ∃ s, e = .returned (.tuple #[.slice (some ⟨s, 0, none⟩) k k, .nilIface]) ∧ Row w' (some ⟨s, 0, none⟩) k F ∧ Below w.heap.size w w' := by
  subst hk; subst hF; exact behind_ok x y cx cy n m f g w hx hy h1 h2 hc hc2
/-- Delay, its answer named. -/
theorem delay_k (x y : Option Addr) (cx cy n m : Nat) (f g : Nat → Int) (w : World) (hx : Row w x n f) (hy : Row w y m g) (h1 : okC n f) (h2 : okC m g) (hc : m ≤ cy) :
    Calls Try.prog 18 #[.slice x n cx, .slice y m cy] w fun e w' => ((∃ d : Int, dlyOk n f m g ∧ d = dlyV n f m g ∧ 0 ≤ d ∧ d ≤ 201 ∧ e = .returned (.tuple #[.int .i64 d, .nilIface])) ∨ (¬ dlyOk n f m g ∧ e = .returned (.tuple #[.int .i64 0, .iface 45 (.int .i64 8)]))) ∧ Below w.heap.size w w' := by
  refine (delay_any x y cx cy n m f g w hx hy h1 h2 hc).mono ?_
  rintro e w' ⟨⟨h, rfl⟩ | ⟨h, rfl⟩, hb⟩
  · have := dlyV_bd h
    have := h2.len
    exact ⟨Or.inl ⟨_, h, rfl, by omega, by omega, rfl⟩, hb⟩
  · exact ⟨Or.inr ⟨h, rfl⟩, hb⟩

set_option maxRecDepth 10000 in
set_option maxHeartbeats 4000000 in
theorem once_yes (x y z : Option Addr) (cx cy cz n m l : Nat) (f g h : Nat → Int) (w : World) (hx : Row w x n f) (hy : Row w y m g) (hz : Row w z l h) (q0 : n ≤ cx) (q1 : m ≤ cy) (q2 : l ≤ cz) (m0 : cx ≤ maxLen) (k0 : lineOk n f) (k1 : lineOk m g) (k2 : lineOk l h) :
    Calls Try.prog 5 #[.slice x n cx, .slice y m cy, .slice z l cz] w fun e w' => e = .returned (.bool true) ∧ Below w.heap.size w w' := by
  have HX : Hid (Row w x n f) := hx
  have HY : Hid (Row w y m g) := hy
  have HZ : Hid (Row w z l h) := hz
  have K0 : Hid (lineOk n f) := k0
  have K1 : Hid (lineOk m g) := k1
  have K2 : Hid (lineOk l h) := k2
  have M0 : Hid (cx ≤ maxLen) := m0
  have b0 := k0.1
  have b1 := k1.1
  have b2 := k2.1
  have p0 := k0.2.1.pos
  have p1 := k1.2.1.pos
  obtain ⟨p, hp⟩ : ∃ p, min m l = p := ⟨_, rfl⟩
  obtain ⟨r, hr⟩ : ∃ r, (min n m + 1) / 2 = r := ⟨_, rfl⟩
  obtain ⟨F, hF⟩ : ∃ F, bhd (min n m) f g = F := ⟨_, rfl⟩
  have OB : Hid (okC p (conv g h)) := by rw [← hp]; exact (k1.conv k2).1
  have OF : Hid (okC r F) := by rw [← hr, ← hF]; exact okC_bhd k0.2.1 k1.2.1
  have hrn : r ≤ n := by omega
  have hr1 : 1 ≤ r := by omega
  have OR : Hid (okC r f) := k0.2.1.take hr1 hrn
  have HO : Hid (dlyOk n f m g → dlyOk r F l h → dlyOk r f p (conv g h) → dlyV r f p (conv g h) ≤ dlyV n f m g + dlyV r F l h) := by
    intro h1 h2 h3
    subst hp; subst hF
    have := once (N := n) (M := m) (K := l) (n := r) (a := f) (b := g) (c := h) k1.2.1 k2.2.1 h1 (by rw [hr]; exact h2) hrn (by omega) h3
    rw [hr] at this
    exact this
  have HP : Hid (min m l = p) := hp
  have HR : Hid ((min n m + 1) / 2 = r) := hr
  have HF : Hid (bhd (min n m) f g = F) := hF
  have hrc : r ≤ cx := by omega
  have hri : (r : Int) ≤ cx := by omega
  have hr60 : r ≤ 60 := by omega
  have hrz : ¬ r = 0 := by omega
  clear hx hy hz k0 k1 k2 m0 hp hr hF
  go_enter Try.func5, Try.ntmps5
  go_wp2_with fail
  refine (curved_true _).mono ?_
  rintro e w1 ⟨rfl, hb1⟩
  go_wp2_with fail
  refine (lines3 w1 x y z cx cy cz n m l f g h (HX.out.below hb1) (HY.out.below hb1) (HZ.out.below hb1) (by unfold maxLen; omega) (by unfold maxLen; omega) (by unfold maxLen; omega)).mono ?_
  rintro e w2 ⟨⟨_, rfl⟩ | ⟨hh, rfl⟩, rfl⟩
  case inr => exact absurd ⟨K0.out, K1.out, K2.out⟩ hh
  have B2 : Hid (Below w.heap.size w (w1.alloc (.cells #[.slice x n cx, .slice y m cy, .slice z l cz] 22))) := hb1.alloc hb1.size _
  clear hb1
  generalize w1.alloc (.cells #[.slice x n cx, .slice y m cy, .slice z l cz] 22) = w2 at *
  go_wp2_with fail
  refine (then_k y z cy cz m l g h w2 (HY.out.below B2.out) (HZ.out.below B2.out) K1.out.2.1 K2.out.2.1 p HP.out).mono ?_
  rintro e w3 ⟨s1, rfl, hr3, hb3⟩
  have R1 : Hid (Row w3 (some ⟨s1, 0, none⟩) p (conv g h)) := hr3
  have B3 : Hid (Below w.heap.size w w3) := B2.out.trans (hb3.mono B2.out.size)
  clear hr3 hb3
  go_wp2_with fail
  refine (behind_k x y cx cy n m f g w3 (HX.out.below B3.out) (HY.out.below B3.out) K0.out.2.1 K1.out.2.1 q0 M0.out r HR.out F HF.out).mono ?_
  rintro e w4 ⟨s2, rfl, hr4, hb4⟩
  have R1' : Hid (Row w4 (some ⟨s1, 0, none⟩) p (conv g h)) := R1.out.below hb4
  have R2 : Hid (Row w4 (some ⟨s2, 0, none⟩) r F) := hr4
  have B4 : Hid (Below w.heap.size w w4) := B3.out.trans (hb4.mono B3.out.size)
  clear hr4 hb4 R1
  go_wp2_with fail
  refine (delay_k x y cx cy n m f g w4 (HX.out.below B4.out) (HY.out.below B4.out) K0.out.2.1 K1.out.2.1 q1).mono ?_
  rintro e w5 ⟨⟨d1, hd1, hv1, l1, u1, rfl⟩ | ⟨_, rfl⟩, hb5⟩
  · have R1'' : Hid (Row w5 (some ⟨s1, 0, none⟩) p (conv g h)) := R1'.out.below hb5
    have R2' : Hid (Row w5 (some ⟨s2, 0, none⟩) r F) := R2.out.below hb5
    have B5 : Hid (Below w.heap.size w w5) := B4.out.trans (hb5.mono B4.out.size)
    have D1 : Hid (dlyOk n f m g) := hd1
    have V1 : Hid (d1 = dlyV n f m g) := hv1
    clear hb5 R1' R2 hd1 hv1
    go_wp2_with fail
    refine (delay_k (some ⟨s2, 0, none⟩) z r cz r l F h w5 R2'.out (HZ.out.below B5.out) OF.out K2.out.2.1 q2).mono ?_
    rintro e w6 ⟨⟨d2, hd2, hv2, l2, u2, rfl⟩ | ⟨_, rfl⟩, hb6⟩
    · have R3 : Hid (Row w6 (some ⟨s1, 0, none⟩) p (conv g h)) := R1''.out.below hb6
      have B6 : Hid (Below w.heap.size w w6) := B5.out.trans (hb6.mono B5.out.size)
      have D2 : Hid (dlyOk r F l h) := hd2
      have V2 : Hid (d2 = dlyV r F l h) := hv2
      clear hb6 R1'' R2' hd2 hv2
      by_cases hrn2 : r < n
      · go_wp2_with fail
        refine (delay_k x (some ⟨s1, 0, none⟩) cx p r p f (conv g h) w6 ((HX.out.take hrn).below B6.out) R3.out OR.out OB.out (Nat.le_refl _)).mono ?_
        rintro e w7 ⟨⟨d3, hd3, hv3, l3, u3, rfl⟩ | ⟨_, rfl⟩, hb7⟩
        · have B7 : Hid (Below w.heap.size w w7) := B6.out.trans (hb7.mono B6.out.size)
          have hle : d3 ≤ d1 + d2 := by
            have := HO.out D1.out D2.out hd3
            rw [← hv3, ← V1.out, ← V2.out] at this
            exact this
          clear hb7 hd3 hv3
          go_wp2
          go_ret
          exact ⟨rfl, B7.out⟩
        · have B7 : Hid (Below w.heap.size w w7) := B6.out.trans (hb7.mono B6.out.size)
          clear hb7
          go_wp2
          go_ret
          exact ⟨rfl, B7.out⟩
      · obtain rfl : r = n := by omega
        go_wp2_with fail
        refine (delay_k x (some ⟨s1, 0, none⟩) cx p r p f (conv g h) w6 ((HX.out.take hrn).below B6.out) R3.out OR.out OB.out (Nat.le_refl _)).mono ?_
        rintro e w7 ⟨⟨d3, hd3, hv3, l3, u3, rfl⟩ | ⟨_, rfl⟩, hb7⟩
        · have B7 : Hid (Below w.heap.size w w7) := B6.out.trans (hb7.mono B6.out.size)
          have hle : d3 ≤ d1 + d2 := by
            have := HO.out D1.out D2.out hd3
            rw [← hv3, ← V1.out, ← V2.out] at this
            exact this
          clear hb7 hd3 hv3
          go_wp2
          go_ret
          exact ⟨rfl, B7.out⟩
        · have B7 : Hid (Below w.heap.size w w7) := B6.out.trans (hb7.mono B6.out.size)
          clear hb7
          go_wp2
          go_ret
          exact ⟨rfl, B7.out⟩
    · have B6 : Hid (Below w.heap.size w w6) := B5.out.trans (hb6.mono B5.out.size)
      clear hb6
      go_wp2
      go_ret
      exact ⟨rfl, B6.out⟩
  · have R2' : Hid (Row w5 (some ⟨s2, 0, none⟩) r F) := R2.out.below hb5
    have B5 : Hid (Below w.heap.size w w5) := B4.out.trans (hb5.mono B4.out.size)
    clear hb5 R1' R2
    go_wp2_with fail
    refine (delay_k (some ⟨s2, 0, none⟩) z r cz r l F h w5 R2'.out (HZ.out.below B5.out) OF.out K2.out.2.1 q2).mono ?_
    rintro e w6 ⟨⟨d2, _, _, l2, u2, rfl⟩ | ⟨_, rfl⟩, hb6⟩
    · have B6 : Hid (Below w.heap.size w w6) := B5.out.trans (hb6.mono B5.out.size)
      clear hb6
      go_wp2
      go_ret
      exact ⟨rfl, B6.out⟩
    · have B6 : Hid (Below w.heap.size w w6) := B5.out.trans (hb6.mono B5.out.size)
      clear hb6
      go_wp2
      go_ret
      exact ⟨rfl, B6.out⟩
theorem once_any (x y z : Option Addr) (cx cy cz n m l : Nat) (f g h : Nat → Int) (w : World) (hx : Row w x n f) (hy : Row w y m g) (hz : Row w z l h) (q0 : n ≤ cx) (q1 : m ≤ cy) (q2 : l ≤ cz) (m0 : cx ≤ maxLen) (m1 : cy ≤ maxLen) (m2 : cz ≤ maxLen) :
    Calls Try.prog 5 #[.slice x n cx, .slice y m cy, .slice z l cz] w fun e w' => e = .returned (.bool true) ∧ Below w.heap.size w w' := by
  by_cases hk : lineOk n f ∧ lineOk m g ∧ lineOk l h
  · exact once_yes x y z cx cy cz n m l f g h w hx hy hz q0 q1 q2 m0 hk.1 hk.2.1 hk.2.2
  · exact once_no x y z cx cy cz n m l f g h w hx hy hz (Nat.le_trans q0 m0) (Nat.le_trans q1 m1) (Nat.le_trans q2 m2) hk
end Go.Proofs.Ytiiekmjkgdcglaa
