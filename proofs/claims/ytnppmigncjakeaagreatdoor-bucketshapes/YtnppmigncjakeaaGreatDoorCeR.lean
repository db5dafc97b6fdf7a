/-
  millraceref.Cells: which packets conform by when they should come, in exact fractions: what the program's own numbers tell. Conditions: a bucket that may be, packets that may be.
-/
import Derived.Test.YtnppmigncjakeaaGreatDoorRatR
import Derived.Test.YtnppmigncjakeaaGreatDoorBkCe
import Derived.Test.YtnppmigncjakeaaGreatDoorPrw
namespace Go.Proofs.YtnppmigncjakeaaGreatDoor
open Go.RowKit Go.Deep

set_option maxHeartbeats 1000000 in
theorem cTick_any (xb yb : Nat) (n t : Int) (w : World) (hx : FracR w xb 1 1) (hy : FracR w yb n t) (hn : 1 ≤ n ∧ n ≤ 1000000) (ht : 1 ≤ t ∧ t ≤ 1000000) :
    Calls Tryz.prog 56 #[.pointer (some ⟨xb, 0, none⟩), .pointer (some ⟨yb, 0, none⟩)] w fun e w' => ∃ b, e = .returned (.pointer (some ⟨b, 0, none⟩)) ∧ FracR w' b t n ∧ Below w.heap.size w w' := by
  obtain ⟨p, q, hx, hq, ex, px, qx⟩ := hx.parts
  obtain ⟨r, s, hy, hs, ey, ry, sy⟩ := hy.parts
  have hr : 1 ≤ r := by
    by_cases h : 0 < r
    · omega
    · exfalso
      have h1 : r * t ≤ 0 := Int.mul_nonpos_of_nonpos_of_nonneg (by omega) (by omega)
      have h2 : 0 < n * s := Int.mul_pos (by omega) (by omega)
      omega
  have hq1 : q = 1 := by omega
  have hp1 : p = 1 := by rw [hq1] at ex; omega
  subst hq1 hp1
  have hb0 := alloc_below w #[.bool false, .slice none 0 0, .bool false, .slice none 0 0] 104
  have HB : Hid (Below w.heap.size w (w.alloc (.cells #[.bool false, .slice none 0 0, .bool false, .slice none 0 0] 104))) := hb0
  have HX : Hid (RatAt (w.alloc (.cells #[.bool false, .slice none 0 0, .bool false, .slice none 0 0] 104)) xb 1 1 ∧ RatAt (w.alloc (.cells #[.bool false, .slice none 0 0, .bool false, .slice none 0 0] 104)) yb r s) := ⟨hx.below hb0, hy.below hb0⟩
  have HL : Hid (1 ≤ r ∧ 1 ≤ s ∧ s.natAbs < 18446744073709551616 ∧ (1 * s).natAbs < 18446744073709551616 ∧ (1 * r).natAbs < 18446744073709551616) := ⟨hr, hs, by omega, by omega, by omega⟩
  have HF : Hid (∀ w' b, RatAt w' b (1 * s / (gcdOf (1 * s) (1 * r) : Int)) (1 * r / (gcdOf (1 * s) (1 * r) : Int)) → FracR w' b t n) := fun w' b h => FracR.of (by omega) h hn.1 (by rw [Int.one_mul, Int.one_mul, Int.mul_comm s n, Int.mul_comm t r]; exact ey.symm)
  clear hx ex px qx hy hs ey ry sy hb0 hr hn ht
  go_enter Tryz.func56, Tryz.ntmps56
  go_wp2_with fail
  refine (rquo_any w.heap.size xb yb 1 1 r s _ (slot_rat w).1 (slot_rat w).2 HX.out.1 HX.out.2 (by decide) HL.out.1 HL.out.2.1 HL.out.2.2.1 HL.out.2.2.2.1 HL.out.2.2.2.2).mono ?_
  rintro e w1 ⟨rfl, h1, u1⟩
  have H1 : Hid (FracR w1 w.heap.size t n ∧ Below w.heap.size w w1) := ⟨HF.out _ _ h1, HB.out.trans (u1.below (Nat.le_refl _) HB.out.size)⟩
  clear h1 u1
  go_wp2
  go_ret
  exact ⟨_, rfl, H1.out.1, H1.out.2⟩
theorem lim_of {x : Int} (h0 : -1000000000000000000000000000000 ≤ x) (h1 : x ≤ 1000000000000000000000000000000) : x.natAbs ≤ 1000000000000000000000000000000 := by omega
theorem cMul_any (xb yb : Nat) (l t n : Int) (w : World) (hx : FracR w xb l 1) (hy : FracR w yb t n) (hl : 0 ≤ l ∧ l ≤ 1000000) (hn : 1 ≤ n ∧ n ≤ 1000000) (ht : 1 ≤ t ∧ t ≤ 1000000) :
    Calls Tryz.prog 37 #[.pointer (some ⟨xb, 0, none⟩), .pointer (some ⟨yb, 0, none⟩)] w fun e w' => ∃ b, e = .returned (.pointer (some ⟨b, 0, none⟩)) ∧ FracR w' b (l * t) n ∧ Below w.heap.size w w' := by
  refine (rMul_any xb yb l 1 t n w hx hy (lim_of (by omega) (by omega)) (by decide) (lim_of (by omega) (by omega)) (lim_of (by omega) (by omega))).mono ?_
  rintro e w' ⟨b, rfl, h1, h2⟩
  exact ⟨b, rfl, by rw [Int.one_mul] at h1; exact h1, h2⟩
theorem cAdd_any (xb yb : Nat) (X Y n : Int) (w : World) (hx : FracR w xb X n) (hy : FracR w yb Y n) (hX : 0 ≤ X ∧ X ≤ 1000000000000000000) (hY : 0 ≤ Y ∧ Y ≤ 1000000000000000000) (hn : 1 ≤ n ∧ n ≤ 1000000) :
    Calls Tryz.prog 36 #[.pointer (some ⟨xb, 0, none⟩), .pointer (some ⟨yb, 0, none⟩)] w fun e w' => ∃ b, e = .returned (.pointer (some ⟨b, 0, none⟩)) ∧ FracR w' b (X + Y) n ∧ Below w.heap.size w w' := by
  refine (rAdd_any xb yb X n Y n w hx hy (lim_of (by omega) (by omega)) (lim_of (by omega) (by omega)) (lim_of (by omega) (by omega)) (lim_of (by omega) (by omega))).mono ?_
  rintro e w' ⟨b, rfl, h1, h2⟩
  exact ⟨b, rfl, h1.same hn.1 (by rw [← Int.add_mul, Int.mul_assoc]), h2⟩
theorem FracR.whole {w : World} {b : Nat} {a n : Int} (h : FracR w b a 1) (hn : 1 ≤ n) : FracR w b (a * n) n := h.same hn (by rw [Int.mul_one])
theorem cCmp_any (xb yb : Nat) (X Y n : Int) (w : World) (hx : FracR w xb X n) (hy : FracR w yb Y n) (hX : 0 ≤ X ∧ X ≤ 1000000000000000000) (hY : 0 ≤ Y ∧ Y ≤ 1000000000000000000) (hn : 1 ≤ n ∧ n ≤ 1000000) :
    Calls Tryz.prog 39 #[.pointer (some ⟨xb, 0, none⟩), .pointer (some ⟨yb, 0, none⟩)] w fun e w' => e = .returned (.int .i64 (cmpZ X Y)) ∧ Below w.heap.size w w' := by
  have := rCmp_any xb yb X n Y n w hx hy (lim_of (by omega) (by omega)) (lim_of (by omega) (by omega)) (lim_of (by omega) (by omega)) (lim_of (by omega) (by omega))
  rw [cmpZ_mul (by omega)] at this
  exact this
/-- Truths lie in a slice of the call's own. -/
def isB (u : Value) : Prop := ∃ c, u = .bool c
def Bls (w : World) (v : Value) (l : List Bool) : Prop := Prw isB w 4 v (l.map Value.bool)
theorem isB_slice (x : Option Addr) (n c : Nat) : ¬ isB (.slice x n c) := by rintro ⟨c, h⟩; simp at h
theorem isB_u32 (u : Int) : ¬ isB (.int .u32 u) := by rintro ⟨c, h⟩; simp at h
theorem cmpZ_le (X Y : Int) : decide (cmpZ X Y ≤ 0) = !decide (Y < X) := by
  unfold cmpZ
  by_cases h1 : X < Y
  · rw [if_pos h1]
    have : ¬ Y < X := by omega
    simp [this]
  · rw [if_neg h1]
    by_cases h2 : X = Y
    · rw [if_pos h2]
      have : ¬ Y < X := by omega
      simp [this]
    · rw [if_neg h2]
      have : Y < X := by omega
      simp [this]
theorem infoBool1 : (Tryz.prog.info? 4).map (fun i => (i.zero, i.size, i.bytes)) = some (some (.bool false), 1, 1) := by kernel_rfl
/-- What was told of the first k packets. -/
def cokL (n t R : Int) (xs : List It) (k : Nat) : List Bool := (List.range k).map (cok n t R xs)
theorem cokL_succ (n t R : Int) (xs : List It) (k : Nat) : cokL n t R xs (k + 1) = cokL n t R xs k ++ [cok n t R xs k] := by simp [cokL, List.range_succ]
theorem cokL_length (n t R : Int) (xs : List It) (k : Nat) : (cokL n t R xs k).length = k := by simp [cokL]
end Go.Proofs.YtnppmigncjakeaaGreatDoor
