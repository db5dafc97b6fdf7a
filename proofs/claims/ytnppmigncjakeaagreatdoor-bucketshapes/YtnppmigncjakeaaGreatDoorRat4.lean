/-
  millracebig's Rat: SetFrac, NewRat, SetInt64 at numbers below 2^64, the lower part at least 1: both parts divided by their greatest common divisor; what stays.
-/
import Derived.Test.YtnppmigncjakeaaGreatDoorRat3
namespace Go.Proofs.YtnppmigncjakeaaGreatDoor
open Go.RowKit Go.Deep

theorem gcdOf_zero (d : Int) (hd : 1 ≤ d) : (0 : Int) / (gcdOf 0 d : Int) = 0 ∧ d / (gcdOf 0 d : Int) = 1 := by
  have : (gcdOf 0 d : Int) = d := by simp [gcdOf]; omega
  rw [this]
  exact ⟨by simp, Int.ediv_self (by omega)⟩
theorem gcdOf_one (a : Int) : a / (gcdOf a 1 : Int) = a ∧ (1 : Int) / (gcdOf a 1 : Int) = 1 := by
  have : (gcdOf a 1 : Int) = 1 := by simp [gcdOf]
  rw [this]
  exact ⟨by simp, by simp⟩

/-- norm: both parts divided by their greatest common divisor. -/
theorem norm_any (b : Nat) (a d : Int) (w : World) (h : RatAt w b a d) (hd : 1 ≤ d) (hA : a.natAbs < 4294967296 ^ 50) (hD : d.natAbs < 4294967296 ^ 50) :
    Calls Tryz.prog 93 #[.pointer (some ⟨b, 0, none⟩)] w fun e w' => e = .returned (.pointer (some ⟨b, 0, none⟩)) ∧ RatAt w' b (a / (gcdOf a d : Int)) (d / (gcdOf a d : Int)) ∧ UpdR b w w' := by
  by_cases ha : a = 0
  · subst ha
    rw [(gcdOf_zero d hd).1, (gcdOf_zero d hd).2]
    exact norm_zero b d w h hd
  · by_cases h1 : d = 1
    · subst h1
      rw [(gcdOf_one a).1, (gcdOf_one a).2]
      exact norm_one b a w h ha
    · exact norm_more b a d w h ha (by omega) hA hD

theorem addr_ne {b o b' o' : Nat} (h : ¬ (b = b' ∧ o = o')) : (⟨b, o, none⟩ : Addr) ≠ ⟨b', o', none⟩ := by
  intro e; injection e with e1 e2; exact h ⟨e1, e2⟩

/-- The four stores of SetFrac. -/
theorem frac_stores {w : World} {b : Nat} {a d : Int} {xp xq : Option Addr} {kp cp kq cq : Nat} (hs1 : Slot w b 0) (hs2 : Slot w b 2) (hp : NatAt w (.slice xp kp cp) a.natAbs) (hq : NatAt w (.slice xq kq cq) d.natAbs) :
    RatAt ((((w.setCell ⟨b, 0, none⟩ (.bool (decide (a < 0)))).setCell ⟨b, 1, none⟩ (.slice xp kp cp)).setCell ⟨b, 2, none⟩ (.bool (decide (d < 0)))).setCell ⟨b, 3, none⟩ (.slice xq kq cq)) b a d ∧ UpdR b w ((((w.setCell ⟨b, 0, none⟩ (.bool (decide (a < 0)))).setCell ⟨b, 1, none⟩ (.slice xp kp cp)).setCell ⟨b, 2, none⟩ (.bool (decide (d < 0)))).setCell ⟨b, 3, none⟩ (.slice xq kq cq)) := by
  obtain ⟨⟨s1, s2⟩, ⟨s3, s4, s5, s6⟩, s7, s8⟩ := hs1
  obtain ⟨⟨t1, t2⟩, ⟨t3, t4, t5, t6⟩, t7, t8⟩ := hs2
  generalize hW : ((((w.setCell ⟨b, 0, none⟩ (.bool (decide (a < 0)))).setCell ⟨b, 1, none⟩ (.slice xp kp cp)).setCell ⟨b, 2, none⟩ (.bool (decide (d < 0)))).setCell ⟨b, 3, none⟩ (.slice xq kq cq)) = W
  have c0 : W.cell? ⟨b, 0, none⟩ = some (.bool (decide (a < 0))) := by
    rw [← hW, World.cell?_setCell_other _ _ _ _ (addr_ne (by omega)), World.cell?_setCell_other _ _ _ _ (addr_ne (by omega)), World.cell?_setCell_other _ _ _ _ (addr_ne (by omega))]
    exact World.cell?_setCell_same _ _ _ s2
  have c1 : W.cell? ⟨b, 1, none⟩ = some (.slice xp kp cp) := by
    rw [← hW, World.cell?_setCell_other _ _ _ _ (addr_ne (by omega)), World.cell?_setCell_other _ _ _ _ (addr_ne (by omega))]
    refine World.cell?_setCell_same _ _ _ (u := .slice s3 s4 s5) ?_
    rw [World.cell?_setCell_other _ _ _ _ (addr_ne (by omega))]; exact s6
  have c2 : W.cell? ⟨b, 2, none⟩ = some (.bool (decide (d < 0))) := by
    rw [← hW, World.cell?_setCell_other _ _ _ _ (addr_ne (by omega))]
    refine World.cell?_setCell_same _ _ _ (u := .bool t1) ?_
    rw [World.cell?_setCell_other _ _ _ _ (addr_ne (by omega)), World.cell?_setCell_other _ _ _ _ (addr_ne (by omega))]; exact t2
  have c3 : W.cell? ⟨b, 3, none⟩ = some (.slice xq kq cq) := by
    rw [← hW]
    refine World.cell?_setCell_same _ _ _ (u := .slice t3 t4 t5) ?_
    rw [World.cell?_setCell_other _ _ _ _ (addr_ne (by omega)), World.cell?_setCell_other _ _ _ _ (addr_ne (by omega)), World.cell?_setCell_other _ _ _ _ (addr_ne (by omega))]; exact t6
  have hu : UpdR b w W := by
    rw [← hW]
    refine ⟨rfl, rfl, rfl, by simp [World.setCell], ?_, ?_⟩
    · intro k hk hne
      rw [Below.heap_setCell _ _ _ _ (by simpa using hne), Below.heap_setCell _ _ _ _ (by simpa using hne), Below.heap_setCell _ _ _ _ (by simpa using hne), Below.heap_setCell _ _ _ _ (by simpa using hne)]
    · intro b' o' u hc
      rw [World.cell?_setCell_other, World.cell?_setCell_other, World.cell?_setCell_other, World.cell?_setCell_other]
      · exact hc
      · intro h; injection h with e1 e2; subst e1 e2; rw [s2] at hc; cases hc
      · intro h; injection h with e1 e2; subst e1 e2; rw [s6] at hc; cases hc
      · intro h; injection h with e1 e2; subst e1 e2; rw [t2] at hc; cases hc
      · intro h; injection h with e1 e2; subst e1 e2; rw [t6] at hc; cases hc
  refine ⟨⟨⟨c0, _, c1, hp.updR hu⟩, ⟨c2, _, c3, hq.updR hu⟩, ⟨⟨_, c0⟩, ⟨_, _, _, c1⟩, ?_, ?_⟩, ⟨⟨_, c2⟩, ⟨_, _, _, c3⟩, ?_, ?_⟩⟩, hu⟩
  · rw [← hW]; simpa using s7
  · rw [← hW]; simpa using s8
  · rw [← hW]; simpa using t7
  · rw [← hW]; simpa using t8

set_option maxHeartbeats 4000000 in
set_option maxRecDepth 100000 in
theorem setFrac_big (b xb xo yb yo : Nat) (a d : Int) (w : World) (hs1 : Slot w b 0) (hs2 : Slot w b 2) (hx : IntAt w xb xo a) (hy : IntAt w yb yo d) (hd : 1 ≤ d) (hA : a.natAbs < 4294967296 ^ 50) (hD : d.natAbs < 4294967296 ^ 50) :
    Calls Tryz.prog 73 #[.pointer (some ⟨b, 0, none⟩), .pointer (some ⟨xb, xo, none⟩), .pointer (some ⟨yb, yo, none⟩)] w fun e w' => e = .returned (.pointer (some ⟨b, 0, none⟩)) ∧ RatAt w' b (a / (gcdOf a d : Int)) (d / (gcdOf a d : Int)) ∧ UpdR b w w' := by
  have HS : Hid (Slot w b 0 ∧ Slot w b 2) := ⟨hs1, hs2⟩
  have HX : Hid (IntAt w xb xo a) := hx
  have HY : Hid (IntAt w yb yo d) := hy
  have HD : Hid (1 ≤ d ∧ a.natAbs < 4294967296 ^ 50 ∧ d.natAbs < 4294967296 ^ 50) := ⟨hd, hA, hD⟩
  obtain ⟨y1, vy, y2, y3⟩ := hy
  obtain ⟨x0, k, c, rfl, hk, hk0⟩ := y3.form
  have e0 : ((k : Int) == 0) = false := by simp; omega
  clear hs1 hs2 hx y3 hk0 hd hA hD
  go_enter Tryz.func73, Tryz.ntmps73
  go_wp2_with fail
  refine (set_any w.heap.size 0 xb xo a _ (slot_new w) (HX.out.below ((Below.refl _ _).alloc (Nat.le_refl _) _))).mono ?_
  rintro e w1 ⟨rfl, hi1, hs1, hu1⟩
  have hb1 : Below w.heap.size w w1 := ((Below.refl _ _).alloc (Nat.le_refl _) _).trans (hu1.below (Nat.le_refl _) (by simp))
  have HI1 : Hid (IntAt w1 w.heap.size 0 a) := hi1
  have HB1 : Hid (Below w.heap.size w w1) := hb1
  clear hi1 hs1 hu1 hb1
  go_wp2_with fail
  refine (set_any w1.heap.size 0 yb yo d _ (slot_new w1) ((HY.out.below HB1.out).below ((Below.refl _ _).alloc (Nat.le_refl _) _))).mono ?_
  rintro e w2 ⟨rfl, hi2, hs2, hu2⟩
  have hb2 : Below w1.heap.size w1 w2 := ((Below.refl _ _).alloc (Nat.le_refl _) _).trans (hu2.below (Nat.le_refl _) (by simp))
  have HI2 : Hid (IntAt w2 w1.heap.size 0 d) := hi2
  have HI1' : Hid (IntAt w2 w.heap.size 0 a) := HI1.out.below hb2
  have HB2 : Hid (Below w.heap.size w w2) := HB1.out.trans (hb2.mono HB1.out.size)
  clear hi2 hs2 hu2 hb2
  obtain ⟨c1, vp, c2, c3⟩ := HI1'.out
  obtain ⟨xp, kp, cp, rfl, _, _⟩ := c3.form
  obtain ⟨c4, vq, c5, c6⟩ := HI2.out
  obtain ⟨xq, kq, cq, rfl, _, _⟩ := c6.form
  obtain ⟨⟨z0, z1⟩, ⟨z2, z3, z4, z5⟩, z6, z7⟩ := HS.out.1.below HB2.out
  obtain ⟨⟨t0, t1⟩, ⟨t2, t3, t4, t5⟩, t6, t7⟩ := HS.out.2.below HB2.out
  have HC : Hid (NatAt w2 (.slice xp kp cp) a.natAbs ∧ NatAt w2 (.slice xq kq cq) d.natAbs) := ⟨c3, c6⟩
  clear c3 c6 y1 y2
  have hne : b ≠ w1.heap.size := by
    obtain ⟨⟨q0, q1⟩, _⟩ := HS.out.1
    have := lt_of_cell q1
    have := HB1.out.size
    simp at *
    omega
  have g1 : ((w2.setCell ⟨b, 0, none⟩ (.bool (decide (a < 0)))).setCell ⟨b, 1, none⟩ (.slice xp kp cp)).cell? ⟨w1.heap.size, 0, none⟩ = some (.bool (decide (d < 0))) := by
    rw [World.cell?_setCell_other _ _ _ _ (addr_ne (by omega)), World.cell?_setCell_other _ _ _ _ (addr_ne (by omega))]; exact c4
  have g2 : ((w2.setCell ⟨b, 0, none⟩ (.bool (decide (a < 0)))).setCell ⟨b, 1, none⟩ (.slice xp kp cp)).cell? ⟨w1.heap.size, 1, none⟩ = some (.slice xq kq cq) := by
    rw [World.cell?_setCell_other _ _ _ _ (addr_ne (by omega)), World.cell?_setCell_other _ _ _ _ (addr_ne (by omega))]; exact c5
  go_wp2_with fail
  obtain ⟨f1, f2⟩ := frac_stores (HS.out.1.below HB2.out) (HS.out.2.below HB2.out) HC.out.1 HC.out.2
  refine (norm_any b a d _ f1 HD.out.1 HD.out.2.1 HD.out.2.2).mono ?_
  rintro e w3 ⟨rfl, h1, h2⟩
  have HH : Hid (RatAt w3 b (a / (gcdOf a d : Int)) (d / (gcdOf a d : Int)) ∧ UpdR b w w3) := ⟨h1, (UpdR.of_below HB2.out).trans (f2.trans h2)⟩
  clear h1 h2 f1 f2
  go_wp2
  go_ret
  exact ⟨rfl, HH.out.1, HH.out.2⟩
theorem setFrac_any (b xb xo yb yo : Nat) (a d : Int) (w : World) (hs1 : Slot w b 0) (hs2 : Slot w b 2) (hx : IntAt w xb xo a) (hy : IntAt w yb yo d) (hd : 1 ≤ d) (hA : a.natAbs < 18446744073709551616) (hD : d.natAbs < 18446744073709551616) :
    Calls Tryz.prog 73 #[.pointer (some ⟨b, 0, none⟩), .pointer (some ⟨xb, xo, none⟩), .pointer (some ⟨yb, yo, none⟩)] w fun e w' => e = .returned (.pointer (some ⟨b, 0, none⟩)) ∧ RatAt w' b (a / (gcdOf a d : Int)) (d / (gcdOf a d : Int)) ∧ UpdR b w w' := setFrac_big b xb xo yb yo a d w hs1 hs2 hx hy hd (lt_50 hA) (lt_50 hD)
end Go.Proofs.YtnppmigncjakeaaGreatDoor
