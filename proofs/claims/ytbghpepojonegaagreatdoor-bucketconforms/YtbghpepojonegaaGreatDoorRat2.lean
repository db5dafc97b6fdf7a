/-
  millracebig's Rat: norm of a fraction whose lower part is at least 1, at numbers below 2^64: both parts divided by their greatest common divisor; what stays.
-/
import Derived.Test.YtbghpepojonegaaGreatDoorRat1
namespace Go.Proofs.YtbghpepojonegaaGreatDoor
open Go.RowKit Go.Deep

set_option maxHeartbeats 4000000 in
set_option maxRecDepth 100000 in
theorem norm_one (b : Nat) (a : Int) (w : World) (h : RatAt w b a 1) (ha : a ≠ 0) :
    Calls Tryz.prog 93 #[.pointer (some ⟨b, 0, none⟩)] w fun e w' => e = .returned (.pointer (some ⟨b, 0, none⟩)) ∧ RatAt w' b a 1 ∧ UpdR b w w' := by
  have H : Hid (RatAt w b a 1) := h
  obtain ⟨⟨a1, va, a2, a3⟩, ⟨b1, vb, b2, b3⟩, _, _⟩ := h
  obtain ⟨xa, ka, ca, rfl, ha1, ha2⟩ := a3.form
  obtain ⟨xb, kb, cb, rfl, hb1, hb2⟩ := b3.form
  have e3 : ((ka : Int) == 0) = false := by simp at ha2 ⊢; omega
  rcases b3.one with ⟨rfl, bb, bo, rfl, c1, c2, c3⟩ | ⟨_, hne⟩
  · clear ha2 hb2 a3 b3
    go_enter Tryz.func93, Tryz.ntmps93
    go_wp2
    go_ret
    exact ⟨rfl, H.out, .of_below (Below.refl _ _)⟩
  · exact absurd rfl hne

/-- Two parts divided by their greatest common divisor. -/
def gcdOf (a d : Int) : Nat := Nat.gcd a.natAbs d.natAbs

/-- The two stores of norm. -/
theorem norm_stores {w : World} {b : Nat} {a d p q : Int} {vp vq : Value} (h : RatAt w b a d) (hp : NatAt w vp p.natAbs) (hq : NatAt w vq q.natAbs) (hsa : a < 0 ↔ p < 0) (hsd : d < 0 ↔ q < 0) :
    RatAt ((w.setCell ⟨b, 1, none⟩ vp).setCell ⟨b, 3, none⟩ vq) b p q ∧ UpdR b w ((w.setCell ⟨b, 1, none⟩ vp).setCell ⟨b, 3, none⟩ vq) := by
  obtain ⟨xp, kp, cp, rfl, _, _⟩ := hp.form
  obtain ⟨xq, kq, cq, rfl, _, _⟩ := hq.form
  obtain ⟨⟨a1, va, a2, a3⟩, ⟨b1, vb, b2, b3⟩, ⟨⟨s1, s2⟩, ⟨s3, s4, s5, s6⟩, s7, s8⟩, ⟨⟨t1, t2⟩, ⟨t3, t4, t5, t6⟩, t7, t8⟩⟩ := h
  have c0 : ((w.setCell ⟨b, 1, none⟩ (.slice xp kp cp)).setCell ⟨b, 3, none⟩ (.slice xq kq cq)).cell? ⟨b, 0, none⟩ = some (.bool (decide (a < 0))) := by
    rw [World.cell?_setCell_other _ _ _ _ (by intro h; injection h with e1 e2; omega), World.cell?_setCell_other _ _ _ _ (by intro h; injection h with e1 e2; omega)]; exact a1
  have c1 : ((w.setCell ⟨b, 1, none⟩ (.slice xp kp cp)).setCell ⟨b, 3, none⟩ (.slice xq kq cq)).cell? ⟨b, 1, none⟩ = some (.slice xp kp cp) := by
    rw [World.cell?_setCell_other _ _ _ _ (by intro h; injection h with e1 e2; omega)]; exact World.cell?_setCell_same _ _ _ a2
  have c2 : ((w.setCell ⟨b, 1, none⟩ (.slice xp kp cp)).setCell ⟨b, 3, none⟩ (.slice xq kq cq)).cell? ⟨b, 2, none⟩ = some (.bool (decide (d < 0))) := by
    rw [World.cell?_setCell_other _ _ _ _ (by intro h; injection h with e1 e2; omega), World.cell?_setCell_other _ _ _ _ (by intro h; injection h with e1 e2; omega)]; exact b1
  have c3 : ((w.setCell ⟨b, 1, none⟩ (.slice xp kp cp)).setCell ⟨b, 3, none⟩ (.slice xq kq cq)).cell? ⟨b, 3, none⟩ = some (.slice xq kq cq) := by
    refine World.cell?_setCell_same _ _ _ (u := vb) ?_
    rw [World.cell?_setCell_other _ _ _ _ (by intro h; injection h with e1 e2; omega)]; exact b2
  have hu : UpdR b w ((w.setCell ⟨b, 1, none⟩ (.slice xp kp cp)).setCell ⟨b, 3, none⟩ (.slice xq kq cq)) := by
    refine ⟨rfl, rfl, rfl, by simp [World.setCell], ?_, ?_⟩
    · intro k hk hne
      rw [Below.heap_setCell _ _ _ _ (by simpa using hne), Below.heap_setCell _ _ _ _ (by simpa using hne)]
    · intro b' o' u hc
      rw [World.cell?_setCell_other, World.cell?_setCell_other]
      · exact hc
      · intro h; injection h with e1 e2; subst e1 e2; rw [a2] at hc; rw [s6] at a2; rw [← a2] at hc; cases hc
      · intro h; injection h with e1 e2; subst e1 e2; rw [b2] at hc; rw [t6] at b2; rw [← b2] at hc; cases hc
  refine ⟨⟨⟨?_, _, c1, hp.updR hu⟩, ⟨?_, _, c3, hq.updR hu⟩, ⟨⟨_, c0⟩, ⟨_, _, _, c1⟩, by simpa using s7, by simpa using s8⟩, ⟨⟨_, c2⟩, ⟨_, _, _, c3⟩, by simpa using t7, by simpa using t8⟩⟩, hu⟩
  · rw [c0]; simp [hsa]
  · rw [c2]; simp [hsd]
end Go.Proofs.YtbghpepojonegaaGreatDoor
