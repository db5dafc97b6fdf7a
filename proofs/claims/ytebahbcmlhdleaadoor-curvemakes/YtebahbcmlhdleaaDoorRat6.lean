/-
  millracebig: Mul, sum, Add, Sub of whole numbers: what lies behind the call, and what stays. Conditions: numbers below 2^3200.
-/
import Derived.Test.YtebahbcmlhdleaaDoorRat5
namespace Go.Proofs.YtebahbcmlhdleaaDoor
open Go.RowKit Go.Deep

theorem sign_mul (x y : Int) : (if (!(decide (x < 0) == decide (y < 0))) = true then -((x.natAbs * y.natAbs : Nat) : Int) else ((x.natAbs * y.natAbs : Nat) : Int)) = x * y := by
  rw [Int.natCast_mul]
  have e : ∀ c : Bool, c = (!(decide (x < 0) == decide (y < 0))) → (if c = true then -((x.natAbs : Int) * (y.natAbs : Int)) else (x.natAbs : Int) * (y.natAbs : Int)) = x * y := ?_
  · exact e _ rfl
  intro c hc
  by_cases hx : x < 0 <;> by_cases hy : y < 0 <;> simp [hx, hy] at hc <;> subst hc
  · rw [if_neg (by simp), show ((x.natAbs : Nat) : Int) = -x by omega, show ((y.natAbs : Nat) : Int) = -y by omega, Int.neg_mul_neg]
  · rw [if_pos rfl, show ((x.natAbs : Nat) : Int) = -x by omega, show ((y.natAbs : Nat) : Int) = y by omega, Int.neg_mul, Int.neg_neg]
  · rw [if_pos rfl, show ((x.natAbs : Nat) : Int) = x by omega, show ((y.natAbs : Nat) : Int) = -y by omega, Int.mul_neg, Int.neg_neg]
  · rw [if_neg (by simp), show ((x.natAbs : Nat) : Int) = x by omega, show ((y.natAbs : Nat) : Int) = y by omega]

/-- Two whole numbers' cells. -/
def TwoAt (xb xo yb yo : Nat) (p q u v : Value) (w : World) : Prop := w.cell? ⟨xb, xo, none⟩ = some p ∧ w.cell? ⟨xb, xo + 1, none⟩ = some q ∧ w.cell? ⟨yb, yo, none⟩ = some u ∧ w.cell? ⟨yb, yo + 1, none⟩ = some v
theorem TwoAt.below {xb xo yb yo : Nat} {p q u v : Value} {w w' : World} (h : TwoAt xb xo yb yo p q u v w) (hb : Below w.heap.size w w') : TwoAt xb xo yb yo p q u v w' :=
  ⟨(hb.cell (lt_of_cell h.1)).trans h.1, (hb.cell (lt_of_cell h.2.1)).trans h.2.1, (hb.cell (lt_of_cell h.2.2.1)).trans h.2.2.1, (hb.cell (lt_of_cell h.2.2.2)).trans h.2.2.2⟩
theorem TwoAt.upd {xb xo yb yo b o : Nat} {p q u v : Value} {w w' : World} (h : TwoAt xb xo yb yo p q u v w) (hb : Upd b o w w') (h1 : xb ≠ b) (h2 : yb ≠ b) : TwoAt xb xo yb yo p q u v w' :=
  ⟨(hb.cell xb xo (lt_of_cell h.1) (by omega)).trans h.1, (hb.cell xb (xo + 1) (lt_of_cell h.2.1) (by omega)).trans h.2.1, (hb.cell yb yo (lt_of_cell h.2.2.1) (by omega)).trans h.2.2.1, (hb.cell yb (yo + 1) (lt_of_cell h.2.2.2) (by omega)).trans h.2.2.2⟩

set_option maxHeartbeats 4000000 in
theorem imul_any (b o xb xo yb yo : Nat) (x y : Int) (w : World) (hs : Slot w b o) (hx : IntAt w xb xo x) (hy : IntAt w yb yo y) (lx : x.natAbs < 4294967296 ^ 100) (ly : y.natAbs < 4294967296 ^ 100) (nx : xb ≠ b) (ny : yb ≠ b) :
    Calls Tryd.prog 57 #[.pointer (some ⟨b, o, none⟩), .pointer (some ⟨xb, xo, none⟩), .pointer (some ⟨yb, yo, none⟩)] w fun e w' => e = .returned (.pointer (some ⟨b, o, none⟩)) ∧ IntAt w' b o (x * y) ∧ Slot w' b o ∧ Upd b o w w' := by
  have HS : Hid (Slot w b o) := hs
  have HL : Hid (x.natAbs < 4294967296 ^ 100 ∧ y.natAbs < 4294967296 ^ 100) := ⟨lx, ly⟩
  obtain ⟨c0, v, c1, hn⟩ := hx
  obtain ⟨x0, m, c, rfl, _, _⟩ := hn.form
  obtain ⟨d0, v', d1, hn'⟩ := hy
  obtain ⟨y0, m', c', rfl, _, _⟩ := hn'.form
  have HN : Hid (NatAt w (.slice x0 m c) x.natAbs ∧ NatAt w (.slice y0 m' c') y.natAbs) := ⟨hn, hn'⟩
  have HT : Hid (TwoAt xb xo yb yo (.bool (decide (x < 0))) (.slice x0 m c) (.bool (decide (y < 0))) (.slice y0 m' c') w ∧ xb ≠ b ∧ yb ≠ b) := ⟨⟨c0, c1, d0, d1⟩, nx, ny⟩
  clear hn hn' hs lx ly c0 c1 d0 d1 nx ny
  go_enter Tryd.func57, Tryd.ntmps57
  go_wp2_with fail
  go_region_held3 (fun w' => w'.cell? ⟨xb, xo, none⟩ = some (.bool (decide (x < 0))) ∧ w'.cell? ⟨xb, xo + 1, none⟩ = some (.slice x0 m c) ∧ w'.cell? ⟨yb, yo, none⟩ = some (.bool (decide (y < 0))) ∧ w'.cell? ⟨yb, yo + 1, none⟩ = some (.slice y0 m' c')) (first | exact HT.out.1 | exact S2.out | exact S1.out)
    (first | (go_at_call 71; refine (mul_any _ (by exact HN.out.1) (by exact HN.out.2) (by exact HL.out.1) (by exact HL.out.2)).mono ?_; rintro e w1 ⟨v1, rfl, hv1, hb1⟩; have S1 : Hid (TwoAt xb xo yb yo (.bool (decide (x < 0))) (.slice x0 m c) (.bool (decide (y < 0))) (.slice y0 m' c') w1) := TwoAt.below (w := w.drew) HT.out.1 hb1) | (go_at_call 68; refine (give_any b o _ _ (by exact Slot.below (w := w.drew) HS.out hb1) (by exact hv1)).mono ?_; rintro e w2 ⟨rfl, hi2, hs2, hu2⟩; have S2 : Hid (TwoAt xb xo yb yo (.bool (decide (x < 0))) (.slice x0 m c) (.bool (decide (y < 0))) (.slice y0 m' c') w2) := TwoAt.upd S1.out hu2 HT.out.2.1 HT.out.2.2))
  all_goals
    trace "limb"
    have HI : Hid (IntAt w2 b o (x * y)) := by
      rw [sign_mul] at hi2
      exact hi2
    have hbw : Below w.heap.size w w1 := ((Below.refl _ w).drew).trans hb1
    clear hi2 hv1 hb1
    go_wp2
    go_ret
    exact ⟨rfl, HI.out, hs2, (Upd.of_below hbw).trans hu2⟩
end Go.Proofs.YtebahbcmlhdleaaDoor
