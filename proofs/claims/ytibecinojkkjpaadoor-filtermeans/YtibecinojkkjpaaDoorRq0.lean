/-
  Bits as mathematics: a number has all bits of another one. Conditions: none.
-/
import Derived.Test.YtibecinojkkjpaaDoorFl1
import Derived.Laws.BitsAllLaws
namespace Go.Proofs.YtibecinojkkjpaaDoor
open Go.RowKit

def vB (v : Int) : Nat := (BitVec.ofInt 64 v).toNat
theorem band_nat (v : Int) (m : Nat) (hm : m < 9223372036854775808) : bits .and .i64 v (m : Int) = ((vB v &&& m : Nat) : Int) := by
  have e : (BitVec.ofInt 64 (m : Int)).toNat = m := ofInt_u64 m (by omega)
  have h : (vB v &&& m) ≤ m := Nat.and_le_right
  show IntKind.i64.wrap (((BitVec.ofInt 64 v &&& BitVec.ofInt 64 (m : Int)).toNat : Nat) : Int) = _
  rw [BitVec.toNat_and, e]
  have h2 : (BitVec.ofInt 64 v).toNat &&& m = vB v &&& m := rfl
  rw [h2]
  generalize vB v &&& m = q at *
  simp [IntKind.wrap, IntKind.bits, IntKind.signed]
  omega
theorem vb_bit (V j : Nat) : (V &&& 2 ^ j = 0) ↔ ¬ V / 2 ^ j % 2 = 1 := by
  rw [nat_bit]
  have : 0 < 2 ^ j := Nat.two_pow_pos j
  rcases (by omega : V / 2 ^ j % 2 = 0 ∨ V / 2 ^ j % 2 = 1) with h | h <;> rw [h] <;> simp <;> omega
theorem has_all (V n : Nat) : (V &&& n = n) ↔ ∀ j, 2 ^ j ≤ n → n / 2 ^ j % 2 = 1 → V / 2 ^ j % 2 = 1 := by
  constructor
  · intro h j _ hj
    have h1 : (V &&& n).testBit j = true := by rw [h, Nat.testBit_eq_decide_div_mod_eq]; simpa using hj
    rw [Nat.testBit_and] at h1
    have h2 := (Bool.and_eq_true _ _ ▸ h1 : _ ∧ _).1
    rw [Nat.testBit_eq_decide_div_mod_eq] at h2; simpa using h2
  · intro h
    apply Nat.eq_of_testBit_eq
    intro j
    rw [Nat.testBit_and]
    cases hb : n.testBit j
    · simp
    · rw [Nat.testBit_eq_decide_div_mod_eq] at hb ⊢
      have hb' : n / 2 ^ j % 2 = 1 := by simpa using hb
      have hle : 2 ^ j ≤ n := by
        apply Classical.byContradiction; intro hlt
        rw [Nat.div_eq_of_lt (by omega)] at hb'; omega
      simp [h j hle hb']
/-- All bits of n that are asked for up to the j-th. -/
def HasTo (v : Int) (n : Nat) (j : Nat) : Prop := ∀ i, i < j → n / 2 ^ i % 2 = 1 → vB v / 2 ^ i % 2 = 1
theorem has_end {v : Int} {n j : Nat} (hn : n ≤ 1000000000) (h : HasTo v n j) (hj : n < 2 ^ j) : (bandI v n == (n : Int)) = true := by
  have e : vB v &&& n = n := (has_all _ _).2 fun i hi hb => h i (by
    apply Classical.byContradiction; intro hlt
    have := Nat.pow_le_pow_right (n := 2) (by decide) (show j ≤ i by omega)
    omega) hb
  unfold bandI
  rw [band_nat v n (by omega), e]; simp
theorem has_not {v : Int} {n j : Nat} (hn : n ≤ 1000000000) (hj : 2 ^ j ≤ n) (h1 : n / 2 ^ j % 2 = 1) (h2 : bits .and .i64 v ((2 ^ j : Nat) : Int) = 0) : (bandI v n == (n : Int)) = false := by
  rw [band_nat v _ (by omega)] at h2
  have h3 : vB v &&& 2 ^ j = 0 := by omega
  have h4 := (vb_bit _ _).1 h3
  unfold bandI
  rw [band_nat v n (by omega)]
  cases hb : (((vB v &&& n : Nat) : Int) == (n : Int)) with
  | false => rfl
  | true =>
    have e : vB v &&& n = n := by have := eq_of_beq hb; omega
    exact absurd ((has_all _ _).1 e j hj h1) h4
theorem has_step {v : Int} {n j : Nat} (hn : 2 ^ j ≤ 1000000000) (h : HasTo v n j) (h1 : n / 2 ^ j % 2 = 1 → ¬ bits .and .i64 v ((2 ^ j : Nat) : Int) = 0) : HasTo v n (j + 1) := by
  intro i hi hb
  rcases (by omega : i < j ∨ i = j) with h2 | rfl
  · exact h i h2 hb
  · have h3 := h1 hb
    rw [band_nat v _ (by omega)] at h3
    apply Classical.byContradiction
    intro h4
    exact h3 (by rw [(vb_bit _ _).2 h4]; rfl)
theorem pow_le30 {j n : Nat} (h : 2 ^ j ≤ n) (hn : n ≤ 1000000000) : j ≤ 29 := by
  apply Classical.byContradiction; intro hlt
  have := Nat.pow_le_pow_right (n := 2) (by decide) (show 30 ≤ j by omega)
  omega
end Go.Proofs.YtibecinojkkjpaaDoor
