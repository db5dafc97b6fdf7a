/-
  millracebig's Rat: norm of a fraction whose lower part is at least 1, at numbers below 2^64: both parts divided by their greatest common divisor; what stays.
  millracebig's Rat: norm of a fraction whose lower part is at least 1, at numbers below 2^64: both parts divided by their greatest common divisor; what stays.
-/
import Derived.Test.YtnppmigncjakeaaGreatDoorGh
namespace Go.Proofs.YtnppmigncjakeaaGreatDoor
open Go.RowKit Go.Deep

/-- All is as it was but for the fraction in this block, and for new blocks. -/
structure UpdR (zb : Nat) (w w' : World) : Prop where
  os : w'.os = w.os
  tape : w'.tape = w.tape
  output : w'.output = w.output
  size : w.heap.size ≤ w'.heap.size
  block : ∀ k, k < w.heap.size → k ≠ zb → w'.heap[k]? = w.heap[k]?
  words : ∀ b o (u : Int), w.cell? ⟨b, o, none⟩ = some (.int .u32 u) → w'.cell? ⟨b, o, none⟩ = some (.int .u32 u)

theorem UpdR.of_below {zb : Nat} {w w' : World} (h : Below w.heap.size w w') : UpdR zb w w' :=
  ⟨h.os, h.tape, h.output, h.size, fun k hk _ => h.block k hk, fun b o u hu => by rw [h.cell (lt_of_cell hu)]; exact hu⟩
theorem UpdR.of_upd {zb zo : Nat} {w w' : World} (hs : Slot w zb zo) (h : Upd zb zo w w') : UpdR zb w w' := by
  refine ⟨h.os, h.tape, h.output, h.size, h.block, fun b o u hw => ?_⟩
  obtain ⟨⟨c, h1⟩, ⟨x, m, k, h2⟩, _⟩ := hs
  rw [h.cell b o (lt_of_cell hw) ?_]
  · exact hw
  · rintro ⟨rfl, rfl | rfl⟩
    · rw [h1] at hw; cases hw
    · rw [h2] at hw; cases hw
theorem UpdR.trans {zb : Nat} {a b c : World} (h : UpdR zb a b) (k : UpdR zb b c) : UpdR zb a c :=
  ⟨k.os.trans h.os, k.tape.trans h.tape, k.output.trans h.output, Nat.le_trans h.size k.size, fun i hi hn => (k.block i (Nat.lt_of_lt_of_le hi h.size) hn).trans (h.block i hi hn), fun b o u hu => k.words b o u (h.words b o u hu)⟩
theorem UpdR.below {B zb : Nat} {w w' : World} (h : UpdR zb w w') (hB : B ≤ zb) (hw : B ≤ w.heap.size) : Below B w w' :=
  ⟨h.os, h.tape, h.output, h.size, fun k hk => h.block k (by omega) (by omega)⟩
theorem UpdR.cell {zb : Nat} {w w' : World} (h : UpdR zb w w') {b o : Nat} (hb : b < w.heap.size) (hne : b ≠ zb) : w'.cell? ⟨b, o, none⟩ = w.cell? ⟨b, o, none⟩ := by
  unfold World.cell?
  rw [h.block b hb hne]
theorem UpdR.frozen {zb : Nat} {w w' : World} (h : UpdR zb w w') {b o : Nat} (hb : b < w.heap.size) (hne : b ≠ zb) : w'.frozen? ⟨b, o, none⟩ = w.frozen? ⟨b, o, none⟩ := by
  unfold World.frozen?
  rw [h.block b hb hne]
theorem NatAt.updR {zb : Nat} {w w' : World} {v : Value} {n : Nat} (h : NatAt w v n) (hu : UpdR zb w w') : NatAt w' v n := h.cells hu.words
theorem IntAt.updR {zb b o : Nat} {w w' : World} {z : Int} (h : IntAt w b o z) (hu : UpdR zb w w') (hne : b ≠ zb) : IntAt w' b o z := by
  obtain ⟨h1, v, h2, h3⟩ := h
  exact ⟨by rw [hu.cell (lt_of_cell h1) hne]; exact h1, v, by rw [hu.cell (lt_of_cell h2) hne]; exact h2, h3.updR hu⟩
theorem Slot.updR {zb b o : Nat} {w w' : World} (h : Slot w b o) (hu : UpdR zb w w') (hne : b ≠ zb) : Slot w' b o := by
  obtain ⟨⟨c, h1⟩, ⟨x, n, k, h2⟩, h3, h4⟩ := h
  exact ⟨⟨c, by rw [hu.cell (lt_of_cell h1) hne]; exact h1⟩, ⟨x, n, k, by rw [hu.cell (lt_of_cell h2) hne]; exact h2⟩, by rw [hu.frozen (lt_of_cell h1) hne]; exact h3, by rw [hu.frozen (lt_of_cell h2) hne]; exact h4⟩

/-- A fraction lies in this block, and may be written. -/
structure RatAt (w : World) (b : Nat) (p q : Int) : Prop where
  num : IntAt w b 0 p
  den : IntAt w b 2 q
  slot1 : Slot w b 0
  slot2 : Slot w b 2
theorem RatAt.below {w w' : World} {b : Nat} {p q : Int} (h : RatAt w b p q) (hb : Below w.heap.size w w') : RatAt w' b p q := ⟨h.num.below hb, h.den.below hb, h.slot1.below hb, h.slot2.below hb⟩
theorem RatAt.updR {w w' : World} {b zb : Nat} {p q : Int} (h : RatAt w b p q) (hb : UpdR zb w w') (hne : b ≠ zb) : RatAt w' b p q := ⟨h.num.updR hb hne, h.den.updR hb hne, h.slot1.updR hb hne, h.slot2.updR hb hne⟩

/-- A number's words: one word, or not one. -/
theorem NatAt.one {w : World} {x : Option Addr} {k c n : Nat} (h : NatAt w (.slice x k c) n) :
    (k = 1 ∧ ∃ b off, x = some ⟨b, off, none⟩ ∧ w.cell? ⟨b, off, none⟩ = some (.int .u32 (n : Int)) ∧ 1 ≤ c ∧ c ≤ maxLen) ∨ (k ≠ 1 ∧ n ≠ 1) := by
  obtain ⟨ws, ⟨x', cap, e1, h1, h2, h3⟩, cn, hv, _⟩ := h
  injection e1 with e1 e2 e3
  subst e1 e2 e3
  match ws, cn, hv, h1, h3 with
  | [], cn, hv, h1, h3 => right; simp [val] at hv ⊢; omega
  | [u], cn, hv, h1, h3 =>
    left
    refine ⟨rfl, ?_⟩
    rcases h3 with h4 | ⟨b, off, rfl, h4⟩
    · cases h4
    · refine ⟨b, off, rfl, ?_, by simpa using h1, h2⟩
      have := h4 0 u rfl
      simp [val] at hv
      rw [← hv]
      exact this
  | u :: v :: r, cn, hv, h1, h3 =>
    right
    refine ⟨by simp, ?_⟩
    have : val (v :: r) ≠ 0 := by
      intro h0
      have := canon_zero (ws := v :: r) ⟨fun y hy => cn.1 y (List.mem_cons_of_mem _ hy), by have := cn.2; simpa using this⟩ h0
      cases this
    simp only [val] at hv this ⊢
    omega

theorem div_sign {a : Int} {g : Nat} (hg : 0 < g) (hd : g ∣ a.natAbs) : (a / (g : Int)).natAbs = a.natAbs / g ∧ (a < 0 ↔ a / (g : Int) < 0) := by
  obtain ⟨k, hk⟩ := hd
  rcases Int.natAbs_eq a with h | h
  · rw [hk] at h
    rw [h]
    have : ((g * k : Nat) : Int) / (g : Int) = (k : Int) := by rw [Int.natCast_mul, Int.mul_ediv_cancel_left _ (by omega)]
    rw [this]
    refine ⟨by rw [Int.natAbs_natCast, Int.natAbs_natCast, Nat.mul_div_cancel_left _ hg], ?_⟩
    constructor <;> intro h5 <;> omega
  · rw [hk] at h
    have : a / (g : Int) = -(k : Int) := by
      rw [h, Int.natCast_mul, ← Int.mul_neg, Int.mul_ediv_cancel_left _ (by omega)]
    rw [this, hk, Nat.mul_div_cancel_left _ hg]
    refine ⟨by simp, ?_⟩
    rw [h, Int.natCast_mul]
    constructor
    · intro h5
      have : (k : Int) ≠ 0 := by rintro h6; rw [h6] at h5; simp at h5
      omega
    · intro h5
      have h6 : (0 : Int) < (g : Int) * (k : Int) := Int.mul_pos (by omega) (by omega)
      omega

set_option maxHeartbeats 4000000 in
set_option maxRecDepth 100000 in
theorem norm_zero (b : Nat) (d : Int) (w : World) (h : RatAt w b 0 d) (hd : 1 ≤ d) :
    Calls Tryz.prog 93 #[.pointer (some ⟨b, 0, none⟩)] w fun e w' => e = .returned (.pointer (some ⟨b, 0, none⟩)) ∧ RatAt w' b 0 1 ∧ UpdR b w w' := by
  have H : Hid (RatAt w b 0 d) := h
  obtain ⟨⟨a1, va, a2, a3⟩, ⟨b1, vb, b2, b3⟩, _, _⟩ := h
  obtain ⟨xa, ka, ca, rfl, ha1, ha2⟩ := a3.form
  obtain ⟨xb, kb, cb, rfl, hb1, hb2⟩ := b3.form
  have e1 : ((kb : Int) == 0) = false := by simp; omega
  have e2 : decide (d < 0) = false := by simp; omega
  have e3 : ((ka : Int) == 0) = true := by simp at ha2 ⊢; omega
  rw [e2] at b1
  clear ha2 hb2 hd a3 b3
  go_enter Tryz.func93, Tryz.ntmps93
  go_wp2_with fail
  refine (setInt64_any b 2 1 (by omega) _ H.out.slot2).mono ?_
  rintro e w1 ⟨rfl, hi, hs, hu⟩
  have HH : Hid (RatAt w1 b 0 1 ∧ UpdR b w w1) := ⟨⟨H.out.num.upd H.out.slot2 hu (by omega), hi, H.out.slot1.upd hu (by omega), hs⟩, .of_upd H.out.slot2 hu⟩
  clear hi hs hu
  go_wp2
  go_ret
  exact ⟨rfl, HH.out.1, HH.out.2⟩
end Go.Proofs.YtnppmigncjakeaaGreatDoor
namespace Go.Proofs.YtnppmigncjakeaaGreatDoor
open Go.RowKit Go.Deep

set_option maxHeartbeats 4000000 in
set_option maxRecDepth 100000 in
theorem norm_one (b : Nat) (a : Int) (w : World) (h : RatAt w b a 1) (ha : a ≠ 0) :
    Calls Tryz.prog 93 #[.pointer (some ⟨b, 0, none⟩)] w fun e w' => e = .returned (.pointer (some ⟨b, 0, none⟩)) ∧ RatAt w' b a 1 ∧ UpdR b w w' := by
  have H : Hid (RatAt w b a 1) := h
  obtain ⟨⟨a1, va, a2, a3⟩, ⟨b1, vb, b2, b3⟩, _, _⟩ := h
  obtain ⟨xa, ka, ca, rfl, ha1, ha2⟩ := a3.form
  obtain ⟨xb, kb, cb, rfl, hb1, hb2⟩ := b3.form
  have e3 : ((ka : Int) == 0) = false := by simp at ha2 ⊢; omega
  rcases b3.one with ⟨rfl, bb, bo, rfl, c1, c2, c3⟩ | ⟨_, hne⟩
  · clear ha2 hb2 a3 b3
    go_enter Tryz.func93, Tryz.ntmps93
    go_wp2
    go_ret
    exact ⟨rfl, H.out, .of_below (Below.refl _ _)⟩
  · exact absurd rfl hne

/-- Two parts divided by their greatest common divisor. -/
def gcdOf (a d : Int) : Nat := Nat.gcd a.natAbs d.natAbs

/-- The two stores of norm. -/
theorem norm_stores {w : World} {b : Nat} {a d p q : Int} {vp vq : Value} (h : RatAt w b a d) (hp : NatAt w vp p.natAbs) (hq : NatAt w vq q.natAbs) (hsa : a < 0 ↔ p < 0) (hsd : d < 0 ↔ q < 0) :
    RatAt ((w.setCell ⟨b, 1, none⟩ vp).setCell ⟨b, 3, none⟩ vq) b p q ∧ UpdR b w ((w.setCell ⟨b, 1, none⟩ vp).setCell ⟨b, 3, none⟩ vq) := by
  obtain ⟨xp, kp, cp, rfl, _, _⟩ := hp.form
  obtain ⟨xq, kq, cq, rfl, _, _⟩ := hq.form
  obtain ⟨⟨a1, va, a2, a3⟩, ⟨b1, vb, b2, b3⟩, ⟨⟨s1, s2⟩, ⟨s3, s4, s5, s6⟩, s7, s8⟩, ⟨⟨t1, t2⟩, ⟨t3, t4, t5, t6⟩, t7, t8⟩⟩ := h
  have c0 : ((w.setCell ⟨b, 1, none⟩ (.slice xp kp cp)).setCell ⟨b, 3, none⟩ (.slice xq kq cq)).cell? ⟨b, 0, none⟩ = some (.bool (decide (a < 0))) := by
    rw [World.cell?_setCell_other _ _ _ _ (by intro h; injection h with e1 e2; omega), World.cell?_setCell_other _ _ _ _ (by intro h; injection h with e1 e2; omega)]; exact a1
  have c1 : ((w.setCell ⟨b, 1, none⟩ (.slice xp kp cp)).setCell ⟨b, 3, none⟩ (.slice xq kq cq)).cell? ⟨b, 1, none⟩ = some (.slice xp kp cp) := by
    rw [World.cell?_setCell_other _ _ _ _ (by intro h; injection h with e1 e2; omega)]; exact World.cell?_setCell_same _ _ _ a2
  have c2 : ((w.setCell ⟨b, 1, none⟩ (.slice xp kp cp)).setCell ⟨b, 3, none⟩ (.slice xq kq cq)).cell? ⟨b, 2, none⟩ = some (.bool (decide (d < 0))) := by
    rw [World.cell?_setCell_other _ _ _ _ (by intro h; injection h with e1 e2; omega), World.cell?_setCell_other _ _ _ _ (by intro h; injection h with e1 e2; omega)]; exact b1
  have c3 : ((w.setCell ⟨b, 1, none⟩ (.slice xp kp cp)).setCell ⟨b, 3, none⟩ (.slice xq kq cq)).cell? ⟨b, 3, none⟩ = some (.slice xq kq cq) := by
    refine World.cell?_setCell_same _ _ _ (u := vb) ?_
    rw [World.cell?_setCell_other _ _ _ _ (by intro h; injection h with e1 e2; omega)]; exact b2
  have hu : UpdR b w ((w.setCell ⟨b, 1, none⟩ (.slice xp kp cp)).setCell ⟨b, 3, none⟩ (.slice xq kq cq)) := by
    refine ⟨rfl, rfl, rfl, by simp [World.setCell], ?_, ?_⟩
    · intro k hk hne
      rw [Below.heap_setCell _ _ _ _ (by simpa using hne), Below.heap_setCell _ _ _ _ (by simpa using hne)]
    · intro b' o' u hc
      rw [World.cell?_setCell_other, World.cell?_setCell_other]
      · exact hc
      · intro h; injection h with e1 e2; subst e1 e2; rw [a2] at hc; rw [s6] at a2; rw [← a2] at hc; cases hc
      · intro h; injection h with e1 e2; subst e1 e2; rw [b2] at hc; rw [t6] at b2; rw [← b2] at hc; cases hc
  refine ⟨⟨⟨?_, _, c1, hp.updR hu⟩, ⟨?_, _, c3, hq.updR hu⟩, ⟨⟨_, c0⟩, ⟨_, _, _, c1⟩, by simpa using s7, by simpa using s8⟩, ⟨⟨_, c2⟩, ⟨_, _, _, c3⟩, by simpa using t7, by simpa using t8⟩⟩, hu⟩
  · rw [c0]; simp [hsa]
  · rw [c2]; simp [hsd]
end Go.Proofs.YtnppmigncjakeaaGreatDoor
