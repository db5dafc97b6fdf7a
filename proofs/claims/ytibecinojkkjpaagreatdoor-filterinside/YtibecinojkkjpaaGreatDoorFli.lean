/-
  What is written is read again: the signs of a filter's text, and what they tell. Conditions: none.
-/
import Derived.Test.YtibecinojkkjpaaGreatDoorFl2
namespace Go.Proofs.YtibecinojkkjpaaGreatDoor
open Go.RowKit

/-! ### numbers -/
theorem decDigits_mem (u : Nat) : ∀ b ∈ Lib.decDigits u, 48 ≤ b.toNat ∧ b.toNat ≤ 57 := by
  induction u using Nat.strongRecOn with
  | _ u ih =>
    intro b hb
    rw [Lib.decDigits] at hb
    split at hb
    · simp at hb; subst hb; simp; omega
    · rcases List.mem_append.1 hb with h | h
      · exact ih (u / 10) (by omega) b h
      · simp at h; subst h; simp; omega
theorem decDigits_ne (u : Nat) : Lib.decDigits u ≠ [] := by
  rw [Lib.decDigits]
  split
  · simp
  · simp
theorem parse_digits (u : Nat) : u ≤ 1000000000 → ∀ r, Lib.parseUintM 18446744073709551615 0 (Lib.decDigits u ++ r) = Lib.parseUintM 18446744073709551615 u r := by
  induction u using Nat.strongRecOn with
  | _ u ih =>
    intro hu r
    rw [Lib.decDigits]
    split
    · rename_i h
      have e : (UInt8.ofNat (48 + u)).toNat = 48 + u := by simp; omega
      show Lib.parseUintM _ 0 (UInt8.ofNat (48 + u) :: r) = _
      rw [Lib.parseUintM, e, if_pos (by omega), if_neg (by omega), if_neg (by omega)]
      congr 1; omega
    · rename_i h
      have e : (UInt8.ofNat (48 + u % 10)).toNat = 48 + u % 10 := by simp; omega
      rw [List.append_assoc, ih (u / 10) (by omega) (by omega)]
      show Lib.parseUintM _ (u / 10) (UInt8.ofNat (48 + u % 10) :: r) = _
      rw [Lib.parseUintM, e, if_pos (by omega), if_neg (by omega), if_neg (by omega)]
      congr 1; omega
theorem itoa_digits {n : Int} (h0 : 0 ≤ n) : Lib.itoa n = Lib.decDigits n.toNat := by unfold Lib.itoa; rw [if_neg (by omega)]
theorem numL_itoa {n : Int} (h0 : 0 ≤ n) (h1 : n ≤ 1000000000) : numL (Lib.itoa n) = some n := by
  have hp : Lib.parseIntB 64 (Lib.itoa n) = .ok n := by
    rw [itoa_digits h0]
    have hd := decDigits_mem n.toNat
    have hpd := parse_digits n.toNat (by omega) []
    rw [List.append_nil] at hpd
    cases hl : Lib.decDigits n.toNat with
    | nil => exact absurd hl (decDigits_ne _)
    | cons c r =>
      rw [hl] at hd hpd
      have hc := hd c (by simp)
      have hpu : Lib.parseUintB 64 (c :: r) = .ok n.toNat := by
        unfold Lib.parseUintB
        rw [if_neg (by simp), show (2 : Nat) ^ 64 - 1 = 18446744073709551615 from rfl, hpd]
        rfl
      unfold Lib.parseIntB
      simp only [show ¬ (c.toNat = 43 ∨ c.toNat = 45) from by omega, if_false, hpu]
      rw [if_neg (by omega), if_neg (by omega), if_neg (by omega)]
      congr 1; omega
  unfold numL
  rw [hp]
  simp
theorem numF_itoa {n : Int} (h0 : 0 ≤ n) (h1 : n ≤ 1000000000) : numF (Lib.itoa n) = some n := by
  unfold numF
  rw [numL_itoa h0 h1]
  simp only []
  rw [if_pos ⟨h0, h1⟩]
theorem itoa_mem {n : Int} (h0 : 0 ≤ n) : ∀ b ∈ Lib.itoa n, 48 ≤ b.toNat ∧ b.toNat ≤ 57 := by rw [itoa_digits h0]; exact decDigits_mem _
theorem itoa_ne {n : Int} (h0 : 0 ≤ n) : Lib.itoa n ≠ [] := by rw [itoa_digits h0]; exact decDigits_ne _
/-! ### from where to where -/
theorem index_dots_no : ∀ l : List UInt8, (∀ b ∈ l, b ≠ 46) → Lib.index l [46, 46] = -1
  | [], _ => by simp [Lib.index]
  | b :: l, h => by
    have hb := h b (by simp)
    have ih := index_dots_no l fun c hc => h c (by simp [hc])
    have hn : [46, 46].isPrefixOf (b :: l) = false := by simp [List.isPrefixOf]; intro e; exact absurd e.symm hb
    rw [Lib.index, hn, ih]; simp
theorem index_dots : ∀ (l r : List UInt8), (∀ b ∈ l, b ≠ 46) → Lib.index (l ++ 46 :: 46 :: r) [46, 46] = l.length
  | [], r, _ => by simp [Lib.index, List.isPrefixOf]
  | b :: l, r, h => by
    have hb := h b (by simp)
    have ih := index_dots l r fun c hc => h c (by simp [hc])
    have hn : [46, 46].isPrefixOf (b :: (l ++ 46 :: 46 :: r)) = false := by simp [List.isPrefixOf]; intro e; exact absurd e.symm hb
    show Lib.index (b :: (l ++ 46 :: 46 :: r)) _ = _
    rw [Lib.index, hn, ih]
    simp
theorem digit_dot {b : UInt8} (h : 48 ≤ b.toNat ∧ b.toNat ≤ 57) : b ≠ 46 := fun e => by subst e; simp at h
theorem cut_one {n : Int} (h0 : 0 ≤ n) : Lib.cut (Lib.itoa n) [46, 46] = (Lib.itoa n, [], false) := by
  unfold Lib.cut
  rw [index_dots_no _ fun b hb => digit_dot (itoa_mem h0 b hb), if_neg (by decide)]
theorem cut_two {n m : Int} (h0 : 0 ≤ n) : Lib.cut (Lib.itoa n ++ ([46, 46] ++ Lib.itoa m)) [46, 46] = (Lib.itoa n, Lib.itoa m, true) := by
  have hi : Lib.index (Lib.itoa n ++ ([46, 46] ++ Lib.itoa m)) [46, 46] = (Lib.itoa n).length := index_dots _ _ fun b hb => digit_dot (itoa_mem h0 b hb)
  unfold Lib.cut
  rw [hi, if_pos (by omega)]
  simp
def numW (lo hi : Int) : List UInt8 := Lib.itoa lo ++ (if lo < hi then [46, 46] ++ Lib.itoa hi else [])
theorem testF_numW (f : Nat) {lo hi : Int} (h0 : 0 ≤ lo) (h1 : lo ≤ hi) (h2 : hi ≤ 1000000000) : testF f (numW lo hi) = .ok ⟨1, f, lo, hi, []⟩ := by
  unfold numW
  by_cases h : lo < hi
  · rw [if_pos h]
    have e := cut_two (n := lo) (m := hi) h0
    have ea : cutA (Lib.itoa lo ++ ([46, 46] ++ Lib.itoa hi)) = Lib.itoa lo := by unfold cutA; rw [e]
    have eb : cutB (Lib.itoa lo ++ ([46, 46] ++ Lib.itoa hi)) = Lib.itoa hi := by unfold cutB; rw [e]; simp
    unfold testF
    rw [ea, eb, numF_itoa h0 (by omega), numF_itoa (by omega) h2]
    simp only []
    rw [if_neg (by omega)]
  · rw [if_neg h, List.append_nil]
    obtain rfl : lo = hi := by omega
    have e := cut_one (n := lo) h0
    have ea : cutA (Lib.itoa lo) = Lib.itoa lo := by unfold cutA; rw [e]
    have eb : cutB (Lib.itoa lo) = Lib.itoa lo := by unfold cutB; rw [e]; simp
    unfold testF
    rw [ea, eb, numF_itoa h0 h2]
    simp
/-! ### signs -/
def spB (b : UInt8) : Bool := [32, 40, 41].contains b
def plainW (l : List UInt8) : Prop := ∀ b ∈ l, spB b = false
def stopR (r : List UInt8) : Prop := r = [] ∨ ∃ b r', r = b :: r' ∧ spB b = true
theorem index_word : ∀ (l r : List UInt8), plainW l → stopR r → Lib.indexAny (l ++ r) [32, 40, 41] = (if r = [] then (-1 : Int) else (l.length : Int))
  | [], r, _, hr => by
    rcases hr with rfl | ⟨b, r', rfl, hb⟩
    · simp [Lib.indexAny]
    · have : [32, 40, 41].contains b = true := hb
      simp only [List.nil_append, Lib.indexAny, this, if_true]
      simp
  | b :: l, r, hl, hr => by
    have hb : [32, 40, 41].contains b = false := hl b (by simp)
    have ih := index_word l r (fun c hc => hl c (by simp [hc])) hr
    show Lib.indexAny (b :: (l ++ r)) _ = _
    rw [Lib.indexAny, hb, ih]
    by_cases h : r = []
    · simp [h]
    · simp [h]
theorem sg_word {l r : List UInt8} (hl : plainW l) (hn : l ≠ []) (hr : stopR r) (p : Nat) : signsL [32, 40, 41] (l ++ r) p = (l, p) :: signsL [32, 40, 41] r (p + l.length) := by
  have hlen : 1 ≤ l.length := by cases l with | nil => exact absurd rfl hn | cons => simp
  have e : lenL [32, 40, 41] (l ++ r) = l.length := by
    have hi := index_word l r hl hr
    unfold lenL
    rw [hi]
    by_cases h : r = []
    · simp [h]
    · rw [if_neg h, if_neg (by omega), if_neg (by omega)]; simp
  rw [signsL_cons (by simp [hn]), e]
  have e1 : (l ++ r).take l.length = l := by simp
  have e2 : (l ++ r).drop l.length = r := by simp
  rw [e1, e2, if_neg]
  · rfl
  · intro h
    have := hl 32 (by rw [h]; simp)
    simp [spB] at this
theorem sg_sp {b : UInt8} (r : List UInt8) (hb : spB b = true) (p : Nat) : signsL [32, 40, 41] (b :: r) p = (if b = 32 then [] else [([b], p)]) ++ signsL [32, 40, 41] r (p + 1) := by
  have e : lenL [32, 40, 41] (b :: r) = 1 := by
    have hi : Lib.indexAny (b :: r) [32, 40, 41] = 0 := by
      have : [32, 40, 41].contains b = true := hb
      rw [Lib.indexAny, this]; simp
    unfold lenL
    rw [hi]; simp
  rw [signsL_cons (by simp), e]
  simp
end Go.Proofs.YtibecinojkkjpaaGreatDoor
