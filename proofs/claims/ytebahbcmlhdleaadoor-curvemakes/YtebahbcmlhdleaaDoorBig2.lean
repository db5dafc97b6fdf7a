/-
  millracebig: give, SetInt64, NewInt, Set, Neg of a whole number: what lies behind the call where it was made, and that all else stays. Conditions: as in Big1.
-/
import Derived.Test.YtebahbcmlhdleaaDoorBig1
namespace Go.Proofs.YtebahbcmlhdleaaDoor
open Go.RowKit

theorem NatAt.form {w : World} {v : Value} {n : Nat} (h : NatAt w v n) : ∃ x m c, v = .slice x m c ∧ m ≤ 1000000 ∧ (m = 0 ↔ n = 0) := by
  obtain ⟨ws, ⟨x, cap, rfl, _, _, _⟩, hc, hv, hl⟩ := h
  refine ⟨x, _, cap, rfl, hl, ?_⟩
  constructor
  · intro h0
    have : ws = [] := List.length_eq_zero_iff.1 h0
    subst this
    exact hv.symm
  · intro h0
    rw [canon_zero hc (by omega)]; rfl

/-- The two stores of give, and what they leave. -/
theorem give_upd {w : World} {b o : Nat} (hs : Slot w b o) (x : Option Addr) (m c : Nat) (q : Bool) : Upd b o w ((w.setCell ⟨b, o + 1, none⟩ (.slice x m c)).setCell ⟨b, o, none⟩ (.bool q)) := by
  obtain ⟨⟨_, h1⟩, ⟨_, _, _, h2⟩, _⟩ := hs
  refine ⟨rfl, rfl, rfl, by simp [World.setCell], ?_, ?_, ?_⟩
  · intro k hk hne
    rw [Below.heap_setCell _ _ _ _ (by simpa using hne), Below.heap_setCell _ _ _ _ (by simpa using hne)]
  · intro b' o' hb' hne
    rw [World.cell?_setCell_other, World.cell?_setCell_other]
    · intro h; apply hne; injection h with e1 e2; exact ⟨e1.symm, Or.inr e2.symm⟩
    · intro h; apply hne; injection h with e1 e2; exact ⟨e1.symm, Or.inl e2.symm⟩
  · intro b' o' _
    simp

set_option maxHeartbeats 1000000 in
theorem give_any (b o : Nat) (q : Bool) {v : Value} {n : Nat} (w : World) (hs : Slot w b o) (hn : NatAt w v n) :
    Calls Tryd.prog 68 #[.pointer (some ⟨b, o, none⟩), .bool q, v] w fun e w' => e = .returned (.pointer (some ⟨b, o, none⟩)) ∧ IntAt w' b o (if q then -(n : Int) else n) ∧ Slot w' b o ∧ Upd b o w w' := by
  obtain ⟨x, m, c, rfl, hm, hm0⟩ := hn.form
  have HN : Hid (NatAt w (.slice x m c) n) := hn
  have HS : Hid (Slot w b o) := hs
  obtain ⟨⟨q0, h1⟩, ⟨x0, n0, k0, h2⟩, h3, h4⟩ := hs
  have HM : Hid (m = 0 ↔ n = 0) := hm0
  clear hn hm0
  have hU := give_upd HS.out x m c (q && decide (0 < m))
  have HU : Hid (Upd b o w ((w.setCell ⟨b, o + 1, none⟩ (.slice x m c)).setCell ⟨b, o, none⟩ (.bool (q && decide (0 < m))))) := hU
  clear hU
  have hc : ∀ q', ((w.setCell ⟨b, o + 1, none⟩ (.slice x m c)).setCell ⟨b, o, none⟩ (.bool q')).cell? ⟨b, o, none⟩ = some (.bool q') ∧ ((w.setCell ⟨b, o + 1, none⟩ (.slice x m c)).setCell ⟨b, o, none⟩ (.bool q')).cell? ⟨b, o + 1, none⟩ = some (.slice x m c) := by
    intro q'
    constructor
    · exact World.cell?_setCell_same _ _ _ ((World.cell?_setCell_other w ⟨b, o + 1, none⟩ ⟨b, o, none⟩ (.slice x m c) (by intro h; injection h with e1 e2; omega)).trans h1)
    · exact (World.cell?_setCell_other (w.setCell ⟨b, o + 1, none⟩ (.slice x m c)) ⟨b, o, none⟩ ⟨b, o + 1, none⟩ (.bool q') (by intro h; injection h with e1 e2; omega)).trans (World.cell?_setCell_same _ _ _ h2)
  have HC : Hid (∀ q', ((w.setCell ⟨b, o + 1, none⟩ (.slice x m c)).setCell ⟨b, o, none⟩ (.bool q')).cell? ⟨b, o, none⟩ = some (.bool q') ∧ ((w.setCell ⟨b, o + 1, none⟩ (.slice x m c)).setCell ⟨b, o, none⟩ (.bool q')).cell? ⟨b, o + 1, none⟩ = some (.slice x m c)) := hc
  clear hc
  have HI : Hid (∀ (q' : Bool) (z : Int), decide (z < 0) = q' → z.natAbs = n → Upd b o w ((w.setCell ⟨b, o + 1, none⟩ (.slice x m c)).setCell ⟨b, o, none⟩ (.bool q')) → IntAt ((w.setCell ⟨b, o + 1, none⟩ (.slice x m c)).setCell ⟨b, o, none⟩ (.bool q')) b o z ∧ Slot ((w.setCell ⟨b, o + 1, none⟩ (.slice x m c)).setCell ⟨b, o, none⟩ (.bool q')) b o) := by
    intro q' z hz hn hU
    refine ⟨⟨by rw [(HC.out q').1, hz], _, (HC.out q').2, by rw [hn]; exact HN.out.upd HS.out hU⟩, ⟨⟨q', (HC.out q').1⟩, ⟨_, _, _, (HC.out q').2⟩, ?_, ?_⟩⟩
    · simpa using h3
    · simpa using h4
  cases q
  · go_enter Tryd.func68, Tryd.ntmps68
    go_wp2
    go_ret
    obtain ⟨k1, k2⟩ := HI.out false (n : Int) (by simp) (by simp) HU.out
    exact ⟨rfl, k1, k2, HU.out⟩
  · go_enter Tryd.func68, Tryd.ntmps68
    go_wp2
    go_ret
    obtain ⟨k1, k2⟩ := HI.out (decide (0 < m)) (-(n : Int)) (by have := HM.out; by_cases h : m = 0 <;> simp <;> omega) (by simp) HU.out
    exact ⟨rfl, k1, k2, HU.out⟩

set_option maxHeartbeats 1000000 in
theorem setInt64_any (b o : Nat) (z : Int) (hz : -9223372036854775808 ≤ z ∧ z ≤ 9223372036854775807) (w : World) (hs : Slot w b o) :
    Calls Tryd.prog 72 #[.pointer (some ⟨b, o, none⟩), .int .i64 z] w fun e w' => e = .returned (.pointer (some ⟨b, o, none⟩)) ∧ IntAt w' b o z ∧ Slot w' b o ∧ Upd b o w w' := by
  obtain ⟨hz1, hz2⟩ := hz
  have HS : Hid (Slot w b o) := hs
  clear hs
  by_cases hn : z < 0
  · obtain ⟨y, hy⟩ : ∃ y : Nat, z = -(y : Int) := ⟨z.natAbs, by omega⟩
    subst hy
    have hd : decide (-(y : Int) < 0) = true := by simp; omega
    have hu : IntKind.u64.wrap (-IntKind.u64.wrap (-(y : Int))) = (y : Int) := by rw [IntKind.wrap_u64, IntKind.wrap_u64]; omega
    go_enter Tryd.func72, Tryd.ntmps72
    go_wp2_with fail
    refine (words_any y (by omega) _).mono ?_
    rintro e w1 ⟨v, rfl, hv, hb⟩
    have HV : Hid (NatAt w1 v y) := hv
    obtain ⟨x, m, c, rfl, _, _⟩ := hv.form
    have HS1 : Hid (Slot w1 b o) := HS.out.below hb
    clear hv
    go_wp2_with fail
    refine (give_any b o true _ HS1.out HV.out).mono ?_
    rintro e w2 ⟨rfl, hi, hs, hu⟩
    have HI : Hid (IntAt w2 b o (-(y : Int))) := by
      have h : IntAt w2 b o (-(y : Int)) := by simpa using hi
      exact h
    clear hi
    go_wp2
    go_ret
    exact ⟨rfl, HI.out, hs, (Upd.of_below hb).trans hu⟩
  · obtain ⟨y, rfl⟩ : ∃ y : Nat, z = (y : Int) := ⟨z.toNat, by omega⟩
    have hd : decide ((y : Int) < 0) = false := by simp
    have hu : IntKind.u64.wrap (y : Int) = (y : Int) := by rw [IntKind.wrap_u64]; omega
    go_enter Tryd.func72, Tryd.ntmps72
    go_wp2_with fail
    refine (words_any y (by omega) _).mono ?_
    rintro e w1 ⟨v, rfl, hv, hb⟩
    have HV : Hid (NatAt w1 v y) := hv
    obtain ⟨x, m, c, rfl, _, _⟩ := hv.form
    have HS1 : Hid (Slot w1 b o) := HS.out.below hb
    clear hv
    go_wp2_with fail
    refine (give_any b o false _ HS1.out HV.out).mono ?_
    rintro e w2 ⟨rfl, hi, hs, hu⟩
    have HI : Hid (IntAt w2 b o (y : Int)) := by
      have h : IntAt w2 b o (y : Int) := by simpa using hi
      exact h
    clear hi
    go_wp2
    go_ret
    exact ⟨rfl, HI.out, hs, (Upd.of_below hb).trans hu⟩

/-- A new variable of that type. -/
theorem slot_new (w : World) : Slot (w.alloc (.cells #[.bool false, .slice none 0 0] 75)) w.heap.size 0 := ⟨⟨false, by simp⟩, ⟨none, 0, 0, by simp⟩, by simp, by simp⟩

set_option maxHeartbeats 1000000 in
theorem newInt_any (z : Int) (hz : -9223372036854775808 ≤ z ∧ z ≤ 9223372036854775807) (w : World) :
    Calls Tryd.prog 58 #[.int .i64 z] w fun e w' => ∃ b, e = .returned (.pointer (some ⟨b, 0, none⟩)) ∧ w.heap.size ≤ b ∧ IntAt w' b 0 z ∧ Slot w' b 0 ∧ Below w.heap.size w w' := by
  have HS : Hid (Slot (w.alloc (.cells #[.bool false, .slice none 0 0] 75)) w.heap.size 0) := slot_new w
  go_enter Tryd.func58, Tryd.ntmps58
  go_wp2_with fail
  refine (setInt64_any w.heap.size 0 z hz _ HS.out).mono ?_
  rintro e w1 ⟨rfl, hi, hs, hu⟩
  have HI : Hid (IntAt w1 w.heap.size 0 z ∧ Slot w1 w.heap.size 0) := ⟨hi, hs⟩
  clear hi hs
  go_wp2
  go_ret
  exact ⟨_, rfl, Nat.le_refl _, HI.out.1, HI.out.2, ((Below.refl _ _).alloc (Nat.le_refl _) _).trans (hu.below (Nat.le_refl _) (by simp))⟩
end Go.Proofs.YtebahbcmlhdleaaDoor
