/-
  What Text writes of packets that may be, read again, as mathematics. Conditions: none.
-/
import Derived.Test.YtcdcplocpdmjaaaDoorIp0
import Derived.Test.YtcdcplocpdmjaaaDoorText
namespace Go.Proofs.YtcdcplocpdmjaaaDoor
open Go.RowKit

/-! ### numbers -/
theorem decDigits_mem (u : Nat) : ∀ b ∈ Lib.decDigits u, 48 ≤ b.toNat ∧ b.toNat ≤ 57 := by
  induction u using Nat.strongRecOn with
  | _ u ih =>
    intro b hb
    rw [Lib.decDigits] at hb
    split at hb
    · simp at hb; subst hb; simp; omega
    · rcases List.mem_append.1 hb with h | h
      · exact ih (u / 10) (by omega) b h
      · simp at h; subst h; simp; omega
theorem decDigits_ne (u : Nat) : Lib.decDigits u ≠ [] := by
  rw [Lib.decDigits]
  split
  · simp
  · simp
theorem parse_digits (u : Nat) : u ≤ 1000000000 → ∀ r, Lib.parseUintM 18446744073709551615 0 (Lib.decDigits u ++ r) = Lib.parseUintM 18446744073709551615 u r := by
  induction u using Nat.strongRecOn with
  | _ u ih =>
    intro hu r
    rw [Lib.decDigits]
    split
    · rename_i h
      have e : (UInt8.ofNat (48 + u)).toNat = 48 + u := by simp; omega
      show Lib.parseUintM _ 0 (UInt8.ofNat (48 + u) :: r) = _
      rw [Lib.parseUintM, e, if_pos (by omega), if_neg (by omega), if_neg (by omega)]
      congr 1; omega
    · rename_i h
      have e : (UInt8.ofNat (48 + u % 10)).toNat = 48 + u % 10 := by simp; omega
      rw [List.append_assoc, ih (u / 10) (by omega) (by omega)]
      show Lib.parseUintM _ (u / 10) (UInt8.ofNat (48 + u % 10) :: r) = _
      rw [Lib.parseUintM, e, if_pos (by omega), if_neg (by omega), if_neg (by omega)]
      congr 1; omega
theorem itoa_digits {n : Int} (h0 : 0 ≤ n) : Lib.itoa n = Lib.decDigits n.toNat := by unfold Lib.itoa; rw [if_neg (by omega)]
theorem numL_itoa {n : Int} (h0 : 0 ≤ n) (h1 : n ≤ 1000000000) : numL (Lib.itoa n) = some n := by
  have hp : Lib.parseIntB 64 (Lib.itoa n) = .ok n := by
    rw [itoa_digits h0]
    have hd := decDigits_mem n.toNat
    have hpd := parse_digits n.toNat (by omega) []
    rw [List.append_nil] at hpd
    cases hl : Lib.decDigits n.toNat with
    | nil => exact absurd hl (decDigits_ne _)
    | cons c r =>
      rw [hl] at hd hpd
      have hc := hd c (by simp)
      have hpu : Lib.parseUintB 64 (c :: r) = .ok n.toNat := by
        unfold Lib.parseUintB
        rw [if_neg (by simp), show (2 : Nat) ^ 64 - 1 = 18446744073709551615 from rfl, hpd]
        rfl
      unfold Lib.parseIntB
      simp only [show ¬ (c.toNat = 43 ∨ c.toNat = 45) from by omega, if_false, hpu]
      rw [if_neg (by omega), if_neg (by omega), if_neg (by omega)]
      congr 1; omega
  unfold numL
  rw [hp]
  simp
theorem itoa_mem {n : Int} (h0 : 0 ≤ n) : ∀ b ∈ Lib.itoa n, 48 ≤ b.toNat ∧ b.toNat ≤ 57 := by rw [itoa_digits h0]; exact decDigits_mem _
theorem itoa_ne {n : Int} (h0 : 0 ≤ n) : Lib.itoa n ≠ [] := by rw [itoa_digits h0]; exact decDigits_ne _
theorem itoa_not {n : Int} (h0 : 0 ≤ n) {c : UInt8} (hc : c.toNat < 48) : ∀ b ∈ Lib.itoa n, b ≠ c := by
  intro b hb e
  have := (itoa_mem h0 b hb).1
  subst e
  omega
/-! ### a line -/
/-- A packet's numbers are plain. -/
structure ItOk (x : It) : Prop where
  a0 : 0 ≤ x.a
  a1 : x.a ≤ 1000000000
  l0 : 0 ≤ x.l
  l1 : x.l ≤ 1000000000
  f0 : 0 ≤ x.f
  f1 : x.f ≤ 1000000000
  b0 : 0 ≤ x.b
  b1 : x.b ≤ 1000000000
  m0 : 0 ≤ x.m
  m1 : x.m ≤ 1000000000
theorem ItOk.wf {x : It} (h : ItOk x) : x.wf := by
  obtain ⟨a0, a1, l0, l1, f0, f1, b0, b1, m0, m1⟩ := h
  refine ⟨⟨?_, ?_⟩, ⟨?_, ?_⟩, ⟨?_, ?_⟩, ⟨?_, ?_⟩, ⟨?_, ?_⟩⟩
  all_goals omega
theorem line_eq (x : It) : lineTo x 5 = Lib.itoa x.a ++ 32 :: (Lib.itoa x.l ++ 32 :: (Lib.itoa x.f ++ 32 :: (Lib.itoa x.b ++ 32 :: Lib.itoa x.m))) := by
  simp [lineTo, It.num]
theorem line_cut {x : It} (h : ItOk x) : cutL 32 (lineTo x 5) = [Lib.itoa x.a, Lib.itoa x.l, Lib.itoa x.f, Lib.itoa x.b, Lib.itoa x.m] := by
  have k : (32 : UInt8).toNat < 48 := by decide
  rw [line_eq, cutL_some (itoa_not h.a0 k), cutL_some (itoa_not h.l0 k), cutL_some (itoa_not h.f0 k), cutL_some (itoa_not h.b0 k), cutL_none (itoa_not h.m0 k)]
theorem line_row {x : It} (h : ItOk x) : rowL (lineTo x 5) = some x := by
  unfold rowL
  rw [line_cut h]
  simp only [List.map_cons, List.map_nil, numL_itoa h.a0 h.a1, numL_itoa h.l0 h.l1, numL_itoa h.f0 h.f1, numL_itoa h.b0 h.b1, numL_itoa h.m0 h.m1]
  rfl
theorem line_ne (x : It) : lineTo x 5 ≠ [] := by
  rw [line_eq]
  intro e
  have := congrArg List.length e
  simp at this
theorem line_not {x : It} (h : ItOk x) : ∀ b ∈ lineTo x 5, b ≠ 10 := by
  have k : (10 : UInt8).toNat < 48 := by decide
  rw [line_eq]
  intro b hb
  simp only [List.mem_append, List.mem_cons] at hb
  rcases hb with hb | rfl | hb | rfl | hb | rfl | hb | rfl | hb
  · exact itoa_not h.a0 k b hb
  · decide
  · exact itoa_not h.l0 k b hb
  · decide
  · exact itoa_not h.f0 k b hb
  · decide
  · exact itoa_not h.b0 k b hb
  · decide
  · exact itoa_not h.m0 k b hb
theorem text_cut : ∀ xs : List It, (∀ x ∈ xs, ItOk x) → cutL 10 (textOf xs) = xs.map (fun x => lineTo x 5) ++ [[]]
  | [], _ => rfl
  | x :: xs, h => by
    have e : textOf (x :: xs) = lineTo x 5 ++ 10 :: textOf xs := by simp [textOf, It.line]
    rw [e, cutL_some (line_not (h x (by simp))), text_cut xs fun y hy => h y (by simp [hy])]
    rfl
/-! ### a text -/
theorem listE_zero {xs : List It} (h : (listE xs).1 = 0) : xs.length ≤ 100 ∧ ∀ j, j < xs.length → faultAt xs j = 0 := by
  by_cases hl : 100 < xs.length
  · rw [listE_long hl] at h; simp at h
  · refine ⟨by omega, ?_⟩
    cases hb : firstBad xs with
    | none =>
      unfold firstBad at hb
      simp at hb
      exact hb
    | some i =>
      have : listE xs = (faultAt xs i, (i : Int)) := by simp [listE, hl, hb]
      rw [this] at h
      unfold firstBad at hb
      rw [List.find?_range_eq_some] at hb
      have := hb.1
      simp at this h
      exact absurd h this
theorem fault_pre {xs ys : List It} {j : Nat} (h : j < xs.length) : faultAt (xs ++ ys) j = faultAt xs j := by
  unfold faultAt
  rw [List.getElem?_append_left h, List.getElem?_append_left (by omega : j - 1 < xs.length)]
theorem listE_pre {xs ys : List It} (h : (listE (xs ++ ys)).1 = 0) : (listE xs).1 = 0 := by
  obtain ⟨h1, h2⟩ := listE_zero h
  rw [List.length_append] at h1 h2
  rw [listE_fine (by omega) fun j hj => by rw [← h2 j (by omega)]; exact (fault_pre hj).symm]
theorem read_lines : ∀ (xs : List It) (acc : List It) (p : Nat), (∀ x ∈ xs, ItOk x) → (listE (acc ++ xs)).1 = 0 → readL acc (plc p (xs.map (fun x => lineTo x 5) ++ [[]])) = .ok (acc ++ xs)
  | [], acc, p, _, _ => by simp [plc, readL]
  | x :: xs, acc, p, h, he => by
    have hx := h x (by simp)
    have e1 : acc ++ x :: xs = (acc ++ [x]) ++ xs := by simp
    rw [e1] at he ⊢
    rw [List.map_cons, List.cons_append, plc, if_neg (line_ne x), List.singleton_append, readL, line_row hx]
    simp only []
    rw [if_pos (listE_pre he)]
    exact read_lines xs _ _ (fun y hy => h y (by simp [hy])) he
theorem parse_text {xs : List It} (h : ∀ x ∈ xs, ItOk x) (he : (listE xs).1 = 0) : parseI (textOf xs) = .ok xs := by
  unfold parseI linesL
  rw [text_cut xs h]
  exact read_lines xs [] 0 h he
theorem items_ok {xs : List It} (he : (listE xs).1 = 0) : ∀ x ∈ xs, ItOk x := by
  intro x hx
  obtain ⟨j, hj⟩ := List.mem_iff_getElem?.1 hx
  have hl := (List.getElem?_eq_some_iff.1 hj).1
  have hf := (listE_zero he).2 j hl
  cases hk : x.ok with
  | false => rw [fault_range hj hk] at hf; cases hf
  | true =>
    simp only [It.ok, Bool.and_eq_true, wth, decide_eq_true_eq] at hk
    refine ⟨?_, ?_, ?_, ?_, ?_, ?_, ?_, ?_, ?_, ?_⟩
    all_goals omega
end Go.Proofs.YtcdcplocpdmjaaaDoor
