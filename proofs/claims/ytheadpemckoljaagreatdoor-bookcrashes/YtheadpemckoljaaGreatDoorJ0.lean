/-
  A book's journal, as mathematics: names, lines, checks, what is read of bytes. Conditions: none.
-/
import Derived.Test.YtheadpemckoljaaGreatDoorNm
import Derived.Lib.SplitLaws
import Derived.Lib.Split
import Derived.Lib.IndexBytes
import Derived.Lib.IndexLaws
namespace Go.Proofs.YtheadpemckoljaaGreatDoor
open Go.RowKit

/-! ### a text that is cut -/
/-- A text, cut at a byte. -/
def cutL (c : UInt8) : List UInt8 → List (List UInt8)
  | [] => [[]]
  | x :: l => if x = c then [] :: cutL c l else match cutL c l with | p :: ps => (x :: p) :: ps | [] => [[x]]
theorem cutL_none {c : UInt8} : ∀ {l : List UInt8}, (∀ x ∈ l, x ≠ c) → cutL c l = [l]
  | [], _ => rfl
  | x :: l, h => by
    rw [cutL, if_neg (h x (by simp)), cutL_none fun y hy => h y (by simp [hy])]
theorem cutL_some {c : UInt8} {r : List UInt8} : ∀ {p : List UInt8}, (∀ x ∈ p, x ≠ c) → cutL c (p ++ c :: r) = p :: cutL c r
  | [], _ => by rw [List.nil_append, cutL, if_pos rfl]
  | x :: p, h => by
    rw [List.cons_append, cutL, if_neg (h x (by simp)), cutL_some fun y hy => h y (by simp [hy])]
theorem mem_get {l : List UInt8} {x : UInt8} (h : x ∈ l) : ∃ k : Nat, l[k]? = some x := List.mem_iff_getElem?.1 h
theorem at_none {l : List UInt8} {c : UInt8} (h : Lib.indexByte l c = -1) : ∀ x ∈ l, x ≠ c := by
  intro x hx e
  obtain ⟨k, hk⟩ := mem_get hx
  exact Lib.indexByte_none h k (by rw [hk, e])
theorem at_some {l : List UInt8} {c : UInt8} {o : Nat} (h : Lib.indexByte l c = o) : (∀ x ∈ l.take o, x ≠ c) ∧ l = l.take o ++ c :: l.drop (o + 1) ∧ o < l.length := by
  obtain ⟨h1, h2⟩ := Lib.indexByte_some h
  have hlt := (List.getElem?_eq_some_iff.1 h1).1
  refine ⟨fun x hx e => ?_, ?_, hlt⟩
  · obtain ⟨k, hk⟩ := mem_get hx
    have hk1 := (List.getElem?_eq_some_iff.1 hk).1
    rw [List.length_take] at hk1
    rw [List.getElem?_take_of_lt (by omega)] at hk
    exact h2 k (by omega) (by rw [hk, e])
  · have e : l[o] = c := (List.getElem?_eq_some_iff.1 h1).2
    rw [← e, List.getElem_cons_drop]
    exact (List.take_append_drop o l).symm
theorem index_ge (l : List UInt8) (c : UInt8) : Lib.indexByte l c = -1 ∨ ∃ o : Nat, Lib.indexByte l c = o := by
  have := Lib.indexByte_ge l c
  by_cases h : Lib.indexByte l c = -1
  · exact Or.inl h
  · exact Or.inr ⟨(Lib.indexByte l c).toNat, by omega⟩
theorem splitK_cut (c : UInt8) : ∀ (k : Nat) (l : List UInt8), l.count c = k → Lib.splitK [c] 0 k l = cutL c l
  | 0, l, h => by
    rw [Lib.splitK, cutL_none]
    intro x hx e
    subst e
    have := List.count_pos_iff.2 hx
    omega
  | k + 1, l, h => by
    rw [Lib.splitK, Lib.index_one]
    rcases index_ge l c with h1 | ⟨o, h1⟩
    · rw [h1]
      have := at_none h1
      have h2 : l.count c = 0 := List.count_eq_zero.2 fun hm => this c hm rfl
      omega
    · obtain ⟨h2, h3, h4⟩ := at_some h1
      rw [h1, if_neg (by simp)]
      have hc : (l.drop (o + 1)).count c = k := by
        have e : l.count c = (l.take o ++ c :: l.drop (o + 1)).count c := congrArg _ h3
        rw [List.count_append, List.count_cons_self, h] at e
        have h5 : (l.take o).count c = 0 := List.count_eq_zero.2 fun hm => h2 c hm rfl
        omega
      have e2 : cutL c l = l.take o :: cutL c (l.drop (o + 1)) := by
        have := cutL_some (r := l.drop (o + 1)) h2
        rw [← h3] at this
        exact this
      rw [e2, ← splitK_cut c k _ hc]
      simp
theorem split_cut (l : List UInt8) (c : UInt8) : Lib.splitK [c] 0 (Lib.count l [c]) l = cutL c l := splitK_cut c _ l (Lib.count_one c l).symm
/-- Cut at one byte, at the first k of them. -/
theorem splitK_some {c : UInt8} {p r : List UInt8} (h : ∀ x ∈ p, x ≠ c) (k : Nat) : Lib.splitK [c] 0 (k + 1) (p ++ c :: r) = p :: Lib.splitK [c] 0 k r := by
  rw [Lib.splitK, Lib.index_one]
  rcases index_ge (p ++ c :: r) c with h1 | ⟨o, h1⟩
  · exact absurd rfl (at_none h1 c (by simp))
  · obtain ⟨h2, h3, h4⟩ := at_some h1
    have ho : o = p.length := by
      rcases Nat.lt_trichotomy o p.length with hl | hl | hl
      · have h5 := (Lib.indexByte_some h1).1
        rw [List.getElem?_append_left hl] at h5
        exact absurd rfl (h c (List.mem_of_getElem? h5))
      · exact hl
      · refine absurd rfl (h2 c (List.mem_of_getElem? (i := p.length) ?_))
        rw [List.getElem?_take_of_lt hl, List.getElem?_append_right (Nat.le_refl _)]
        simp
    rw [h1, if_neg (by simp)]
    simp [ho]
theorem splitK_none {c : UInt8} {l : List UInt8} (h : ∀ x ∈ l, x ≠ c) (k : Nat) : Lib.splitK [c] 0 k l = [l] := by
  cases k with
  | zero => rfl
  | succ k =>
    rw [Lib.splitK, Lib.index_one]
    rcases index_ge l c with h1 | ⟨o, h1⟩
    · rw [h1]; rfl
    · obtain ⟨_, h3, _⟩ := at_some h1
      refine absurd rfl (h c ?_)
      rw [h3]
      simp
/-- A text is free of a byte, or has a first one. -/
theorem first_of (c : UInt8) (l : List UInt8) : (∀ x ∈ l, x ≠ c) ∨ ∃ p r, l = p ++ c :: r ∧ ∀ x ∈ p, x ≠ c := by
  rcases index_ge l c with h1 | ⟨o, h1⟩
  · exact Or.inl (at_none h1)
  · obtain ⟨h2, h3, _⟩ := at_some h1
    exact Or.inr ⟨_, _, h3, h2⟩
theorem takeW_none {c : UInt8} {l : List UInt8} (h : ∀ x ∈ l, x ≠ c) : l.takeWhile (· != c) = l := by
  induction l with
  | nil => rfl
  | cons x l ih =>
    have : (x != c) = true := by simpa using h x (by simp)
    rw [List.takeWhile_cons, this, if_pos rfl, ih fun y hy => h y (by simp [hy])]
theorem takeW_some {c : UInt8} {p r : List UInt8} (h : ∀ x ∈ p, x ≠ c) : (p ++ c :: r).takeWhile (· != c) = p := by
  induction p with
  | nil => simp
  | cons x p ih =>
    have : (x != c) = true := by simpa using h x (by simp)
    rw [List.cons_append, List.takeWhile_cons, this, if_pos rfl, ih fun y hy => h y (by simp [hy])]
/-- Two ways to part a text at the first such byte are one. -/
theorem part_one {c : UInt8} {p q r s : List UInt8} (hp : ∀ x ∈ p, x ≠ c) (hq : ∀ x ∈ q, x ≠ c) (h : p ++ c :: r = q ++ c :: s) : p = q ∧ r = s := by
  have h1 : (p ++ c :: r).takeWhile (· != c) = (q ++ c :: s).takeWhile (· != c) := by rw [h]
  rw [takeW_some hp, takeW_some hq] at h1
  subst h1
  exact ⟨rfl, by simpa using h⟩

/-! ### numbers -/
theorem decDigits_mem (u : Nat) : ∀ b ∈ Lib.decDigits u, 48 ≤ b.toNat ∧ b.toNat ≤ 57 := by
  induction u using Nat.strongRecOn with
  | _ u ih =>
    intro b hb
    rw [Lib.decDigits] at hb
    split at hb
    · simp at hb; subst hb; simp; omega
    · rcases List.mem_append.1 hb with h | h
      · exact ih (u / 10) (by omega) b h
      · simp at h; subst h; simp; omega
theorem decDigits_ne (u : Nat) : Lib.decDigits u ≠ [] := by
  rw [Lib.decDigits]
  split
  · simp
  · simp
theorem parse_digits (u : Nat) : u ≤ 1000000000 → ∀ r, Lib.parseUintM 18446744073709551615 0 (Lib.decDigits u ++ r) = Lib.parseUintM 18446744073709551615 u r := by
  induction u using Nat.strongRecOn with
  | _ u ih =>
    intro hu r
    rw [Lib.decDigits]
    split
    · rename_i h
      have e : (UInt8.ofNat (48 + u)).toNat = 48 + u := by simp; omega
      show Lib.parseUintM _ 0 (UInt8.ofNat (48 + u) :: r) = _
      rw [Lib.parseUintM, e, if_pos (by omega), if_neg (by omega), if_neg (by omega)]
      congr 1; omega
    · rename_i h
      have e : (UInt8.ofNat (48 + u % 10)).toNat = 48 + u % 10 := by simp; omega
      rw [List.append_assoc, ih (u / 10) (by omega) (by omega)]
      show Lib.parseUintM _ (u / 10) (UInt8.ofNat (48 + u % 10) :: r) = _
      rw [Lib.parseUintM, e, if_pos (by omega), if_neg (by omega), if_neg (by omega)]
      congr 1; omega
theorem itoa_digits {n : Int} (h0 : 0 ≤ n) : Lib.itoa n = Lib.decDigits n.toNat := by unfold Lib.itoa; rw [if_neg (by omega)]
theorem numL_itoa {n : Int} (h0 : 0 ≤ n) (h1 : n ≤ 1000000000) : numL (Lib.itoa n) = some n := by
  have hp : Lib.parseIntB 64 (Lib.itoa n) = .ok n := by
    rw [itoa_digits h0]
    have hd := decDigits_mem n.toNat
    have hpd := parse_digits n.toNat (by omega) []
    rw [List.append_nil] at hpd
    cases hl : Lib.decDigits n.toNat with
    | nil => exact absurd hl (decDigits_ne _)
    | cons c r =>
      rw [hl] at hd hpd
      have hc := hd c (by simp)
      have hpu : Lib.parseUintB 64 (c :: r) = .ok n.toNat := by
        unfold Lib.parseUintB
        rw [if_neg (by simp), show (2 : Nat) ^ 64 - 1 = 18446744073709551615 from rfl, hpd]
        rfl
      unfold Lib.parseIntB
      simp only [show ¬ (c.toNat = 43 ∨ c.toNat = 45) from by omega, if_false, hpu]
      rw [if_neg (by omega), if_neg (by omega), if_neg (by omega)]
      congr 1; omega
  unfold numL
  rw [hp]
  simp
theorem numL_some {l : List UInt8} {n : Int} (h : numL l = some n) : Lib.itoa n = l := by
  unfold numL at h
  split at h
  · split at h
    · simp at h; subst h; assumption
    · cases h
  · cases h
theorem itoa_mem {n : Int} (h0 : 0 ≤ n) : ∀ b ∈ Lib.itoa n, 48 ≤ b.toNat ∧ b.toNat ≤ 57 := by rw [itoa_digits h0]; exact decDigits_mem _
theorem itoa_not {n : Int} (h0 : 0 ≤ n) {c : UInt8} (hc : c.toNat < 48) : ∀ b ∈ Lib.itoa n, b ≠ c := by
  intro b hb e
  have := (itoa_mem h0 b hb).1
  subst e
  omega
theorem itoa_inj {m n : Int} (hm : 0 ≤ m) (hm1 : m ≤ 1000000000) (hn : 0 ≤ n) (hn1 : n ≤ 1000000000) (h : Lib.itoa m = Lib.itoa n) : m = n := by
  have h1 := numL_itoa hm hm1
  rw [h, numL_itoa hn hn1] at h1
  exact (Option.some.inj h1).symm

/-! ### names and lines -/
def nameB (c : UInt8) : Bool := (decide (97 ≤ c.toNat) && decide (c.toNat ≤ 122)) || (decide (48 ≤ c.toNat) && decide (c.toNat ≤ 57)) || c.toNat == 45
def nameOk (s : List UInt8) : Bool := decide (1 ≤ s.length) && decide (s.length ≤ 12) && s.all nameB
theorem nameB_not {c : UInt8} (h : nameB c = true) : c ≠ 32 ∧ c ≠ 10 := by
  constructor
  all_goals
    rintro rfl
    revert h
    decide
theorem nameOk_not {s : List UInt8} (h : nameOk s = true) : ∀ c ∈ s, c ≠ 32 ∧ c ≠ 10 := by
  simp only [nameOk, Bool.and_eq_true, List.all_eq_true] at h
  exact fun c hc => nameB_not (h.2 c hc)
theorem nameOk_len {s : List UInt8} (h : nameOk s = true) : 1 ≤ s.length ∧ s.length ≤ 12 := by
  simp only [nameOk, Bool.and_eq_true, decide_eq_true_eq] at h
  exact h.1
/-- A line's check. -/
def chk (l : List UInt8) : Nat := l.foldl (fun c b => (c * 37 + b.toNat) % 9901) 11
theorem chk_lt (l : List UInt8) : chk l < 9901 := by
  unfold chk
  rcases List.eq_nil_or_concat l with rfl | ⟨r, b, rfl⟩
  · decide
  · rw [List.concat_eq_append, List.foldl_append]
    exact Nat.mod_lt _ (by decide)
theorem chk_snoc (l : List UInt8) (b : UInt8) : chk (l ++ [b]) = (chk l * 37 + b.toNat) % 9901 := by
  unfold chk
  rw [List.foldl_append]
  rfl
/-- An entry of the journal: a name, a number. -/
abbrev Ent := List UInt8 × Int
def saidL (k : Nat) (e : Ent) : List UInt8 := Lib.itoa k ++ 32 :: (e.1 ++ 32 :: Lib.itoa e.2)
def lineL (k : Nat) (e : Ent) : List UInt8 := saidL k e ++ 32 :: (Lib.itoa (chk (saidL k e)) ++ [10])
/-- An entry that may be. -/
def EntOk (e : Ent) : Prop := nameOk e.1 = true ∧ 1 ≤ e.2 ∧ e.2 ≤ 1000000
def addE (k : Nat) (e : Ent) : Int := if nameOk e.1 = false then 5 else if ¬ (1 ≤ e.2 ∧ e.2 ≤ 1000000) then 2 else if 500 ≤ k then 4 else 0
theorem addE_zero {k : Nat} {e : Ent} (h : addE k e = 0) : EntOk e ∧ k < 500 := by
  unfold addE at h
  split at h
  · cases h
  · rename_i h1
    split at h
    · cases h
    · rename_i h2
      split at h
      · cases h
      · refine ⟨⟨by simpa using h1, ?_⟩, by omega⟩
        exact Decidable.not_not.1 h2
theorem addE_ok {k : Nat} {e : Ent} (h : EntOk e) (hk : k < 500) : addE k e = 0 := by
  unfold addE
  rw [if_neg (by rw [h.1]; simp), if_neg (by simp; exact h.2), if_neg (by omega)]
def jourF : Nat → List Ent → List UInt8
  | _, [] => []
  | k, e :: r => lineL k e ++ jourF (k + 1) r
def jour (l : List Ent) : List UInt8 := jourF 0 l
theorem jourF_app (l r : List Ent) : ∀ k, jourF k (l ++ r) = jourF k l ++ jourF (k + l.length) r := by
  induction l with
  | nil => intro k; simp [jourF]
  | cons e l ih =>
    intro k
    rw [List.cons_append, jourF, jourF, ih, List.append_assoc, List.length_cons]
    congr 3
    omega
theorem jour_app (l r : List Ent) : jour (l ++ r) = jour l ++ jourF l.length r := by
  unfold jour
  rw [jourF_app, Nat.zero_add]
theorem jour_snoc (l : List Ent) (e : Ent) : jour (l ++ [e]) = jour l ++ lineL l.length e := by
  rw [jour_app]
  simp [jourF]
theorem lineL_parts (k : Nat) (e : Ent) : lineL k e = Lib.itoa k ++ 32 :: (e.1 ++ 32 :: (Lib.itoa e.2 ++ 32 :: (Lib.itoa (chk (saidL k e)) ++ [10]))) := by
  unfold lineL saidL
  simp
/-- A line ahead of its feed. -/
def bodyL (k : Nat) (e : Ent) : List UInt8 := Lib.itoa k ++ 32 :: (e.1 ++ 32 :: (Lib.itoa e.2 ++ 32 :: Lib.itoa (chk (saidL k e))))
theorem lineL_body (k : Nat) (e : Ent) : lineL k e = bodyL k e ++ [10] := by
  rw [lineL_parts]
  unfold bodyL
  simp
theorem b32 : (32 : UInt8).toNat < 48 := by decide
theorem b10 : (10 : UInt8).toNat < 48 := by decide
theorem body_not {k : Nat} {e : Ent} (h : EntOk e) : ∀ x ∈ bodyL k e, x ≠ 10 := by
  unfold bodyL
  intro b hb
  have h2 := h.2
  simp only [List.mem_append, List.mem_cons] at hb
  rcases hb with hb | rfl | hb | rfl | hb | rfl | hb
  · exact itoa_not (by omega) b10 b hb
  · decide
  · exact (nameOk_not h.1 b hb).2
  · decide
  · exact itoa_not (by omega) b10 b hb
  · decide
  · exact itoa_not (by omega) b10 b hb
theorem body_cut {k : Nat} {e : Ent} (h : EntOk e) : cutL 32 (bodyL k e) = [Lib.itoa k, e.1, Lib.itoa e.2, Lib.itoa (chk (saidL k e))] := by
  have h2 := h.2
  unfold bodyL
  rw [cutL_some (itoa_not (by omega) b32), cutL_some (fun x hx => (nameOk_not h.1 x hx).1), cutL_some (itoa_not (by omega) b32), cutL_none (itoa_not (by omega) b32)]
theorem body_splitK {k : Nat} {e : Ent} (h : EntOk e) : Lib.splitK [32] 0 3 (bodyL k e) = [Lib.itoa k, e.1, Lib.itoa e.2, Lib.itoa (chk (saidL k e))] := by
  have h2 := h.2
  unfold bodyL
  rw [splitK_some (itoa_not (by omega) b32), splitK_some (fun x hx => (nameOk_not h.1 x hx).1), splitK_some (itoa_not (by omega) b32)]
  rfl
/-! ### what is read of bytes -/
/-- The line with which data begins: four words, as the program cuts them. -/
def folL (k : Nat) (d : List UInt8) : Option Ent :=
  match Lib.splitK [32] 0 3 (d.takeWhile (· != 10)) with
  | [_, w1, w2, _] => match numL w2 with
    | some n => if (lineL k (w1, n)).isPrefixOf d = true ∧ addE k (w1, n) = 0 then some (w1, n) else none
    | none => none
  | _ => none
/-- The same, as the document's text has it. -/
def rfolL (k : Nat) (d : List UInt8) : Option Ent :=
  if Lib.indexByte d 10 = -1 then none else
  match cutL 32 (d.take (Lib.indexByte d 10).toNat) with
  | [_, w1, w2, _] => match numL w2 with
    | some n => if lineL k (w1, n) = d.take ((Lib.indexByte d 10).toNat + 1) ∧ addE k (w1, n) = 0 then some (w1, n) else none
    | none => none
  | _ => none
theorem folL_some {k : Nat} {d : List UInt8} {e : Ent} (h : folL k d = some e) : EntOk e ∧ k < 500 ∧ ∃ r, d = lineL k e ++ r := by
  unfold folL at h
  split at h
  · split at h
    · split at h
      · rename_i hc
        obtain rfl := Option.some.inj h
        obtain ⟨h1, h2⟩ := addE_zero hc.2
        obtain ⟨r, hr⟩ := List.isPrefixOf_iff_prefix.1 hc.1
        exact ⟨h1, h2, r, hr.symm⟩
      · cases h
    · cases h
  · cases h
theorem folL_line {k : Nat} {e : Ent} (h : EntOk e) (hk : k < 500) (r : List UInt8) : folL k (lineL k e ++ r) = some e := by
  have h2 := h.2
  have e0 : lineL k e ++ r = bodyL k e ++ 10 :: r := by rw [lineL_body]; simp
  unfold folL
  rw [e0, takeW_some (body_not h), body_splitK h, ← e0]
  simp only []
  rw [numL_itoa (by omega) (by omega)]
  simp only []
  rw [if_pos ⟨List.isPrefixOf_iff_prefix.2 ⟨r, rfl⟩, addE_ok h hk⟩]
theorem rfolL_some {k : Nat} {d : List UInt8} {e : Ent} (h : rfolL k d = some e) : EntOk e ∧ k < 500 ∧ ∃ r, d = lineL k e ++ r := by
  unfold rfolL at h
  split at h
  · cases h
  · split at h
    · split at h
      · split at h
        · rename_i hc
          obtain rfl := Option.some.inj h
          obtain ⟨h1, h2⟩ := addE_zero hc.2
          exact ⟨h1, h2, _, by rw [hc.1]; exact (List.take_append_drop _ _).symm⟩
        · cases h
      · cases h
    · cases h
theorem index_first {c : UInt8} {p r : List UInt8} (h : ∀ x ∈ p, x ≠ c) : Lib.indexByte (p ++ c :: r) c = p.length := by
  rcases index_ge (p ++ c :: r) c with h1 | ⟨o, h1⟩
  · exact absurd rfl (at_none h1 c (by simp))
  · obtain ⟨h2, h3, h4⟩ := at_some h1
    have := (part_one h h2 h3).1
    have h5 := congrArg List.length this
    rw [List.length_take] at h5
    rw [h1]
    congr 1
    omega
theorem rfolL_line {k : Nat} {e : Ent} (h : EntOk e) (hk : k < 500) (r : List UInt8) : rfolL k (lineL k e ++ r) = some e := by
  have h2 := h.2
  have e0 : lineL k e ++ r = bodyL k e ++ 10 :: r := by rw [lineL_body]; simp
  have e1 : (bodyL k e ++ 10 :: r).take (bodyL k e).length = bodyL k e := by simp
  have e2 : (bodyL k e ++ 10 :: r).take ((bodyL k e).length + 1) = lineL k e := by
    rw [lineL_body, show bodyL k e ++ 10 :: r = (bodyL k e ++ [10]) ++ r by simp]
    exact List.take_left' (by simp)
  unfold rfolL
  rw [e0, index_first (body_not h), if_neg (by omega), Int.toNat_natCast, e1, body_cut h]
  simp only []
  rw [numL_itoa (by omega) (by omega)]
  simp only []
  rw [if_pos ⟨e2.symm, addE_ok h hk⟩]
theorem fol_same (k : Nat) (d : List UInt8) : folL k d = rfolL k d := by
  cases h : folL k d with
  | some e =>
    obtain ⟨h1, h2, r, rfl⟩ := folL_some h
    exact (rfolL_line h1 h2 r).symm
  | none =>
    cases h3 : rfolL k d with
    | none => rfl
    | some e =>
      obtain ⟨h1, h2, r, rfl⟩ := rfolL_some h3
      rw [folL_line h1 h2 r] at h
      cases h
/-- The lines with which data begins, behind those ahead. -/
def openF : Nat → List Ent → List UInt8 → List Ent
  | 0, l, _ => l
  | f + 1, l, d => match folL l.length (d.drop (jour l).length) with
    | some e => openF f (l ++ [e]) d
    | none => l
def openL (d : List UInt8) : List Ent := openF 501 [] d
/-- What was read so far. -/
structure OpnS (d : List UInt8) (l : List Ent) : Prop where
  pre : ∃ r, d = jour l ++ r
  ok : ∀ e ∈ l, EntOk e
  few : l.length ≤ 500
theorem OpnS.nil (d : List UInt8) : OpnS d [] := ⟨⟨d, rfl⟩, by simp, by simp⟩
theorem OpnS.step {d : List UInt8} {l : List Ent} {e : Ent} (h : OpnS d l) (hf : folL l.length (d.drop (jour l).length) = some e) : OpnS d (l ++ [e]) := by
  obtain ⟨h1, h2, r, hr⟩ := folL_some hf
  obtain ⟨s, hs⟩ := h.pre
  refine ⟨⟨r, ?_⟩, ?_, by simp; omega⟩
  · rw [jour_snoc, List.append_assoc, ← hr, hs]
    simp
  · intro x hx
    rcases List.mem_append.1 hx with hx | hx
    · exact h.ok x hx
    · obtain rfl := List.mem_singleton.1 hx
      exact h1
theorem OpnS.len {d : List UInt8} {l : List Ent} (h : OpnS d l) : (jour l).length ≤ d.length := by
  obtain ⟨r, hr⟩ := h.pre
  rw [hr]; simp
end Go.Proofs.YtheadpemckoljaaGreatDoor
