/-
  Packets as texts, as mathematics: a text's lines and their places, a line's numbers, what is read of them. Conditions: none.
-/
import Derived.Test.YtcdcplocpdmjaaaDoorNm
import Derived.Test.YtcdcplocpdmjaaaDoorList
import Derived.Lib.SplitLaws
import Derived.Lib.IndexBytes
import Derived.Lib.IndexLaws
namespace Go.Proofs.YtcdcplocpdmjaaaDoor
open Go.RowKit

/-- A text, cut at a byte. -/
def cutL (c : UInt8) : List UInt8 → List (List UInt8)
  | [] => [[]]
  | x :: l => if x = c then [] :: cutL c l else match cutL c l with | p :: ps => (x :: p) :: ps | [] => [[x]]
theorem cutL_none {c : UInt8} : ∀ {l : List UInt8}, (∀ x ∈ l, x ≠ c) → cutL c l = [l]
  | [], _ => rfl
  | x :: l, h => by
    rw [cutL, if_neg (h x (by simp)), cutL_none fun y hy => h y (by simp [hy])]
theorem cutL_some {c : UInt8} {r : List UInt8} : ∀ {p : List UInt8}, (∀ x ∈ p, x ≠ c) → cutL c (p ++ c :: r) = p :: cutL c r
  | [], _ => by rw [List.nil_append, cutL, if_pos rfl]
  | x :: p, h => by
    rw [List.cons_append, cutL, if_neg (h x (by simp)), cutL_some fun y hy => h y (by simp [hy])]
theorem mem_get {l : List UInt8} {x : UInt8} (h : x ∈ l) : ∃ k : Nat, l[k]? = some x := List.mem_iff_getElem?.1 h
theorem at_none {l : List UInt8} {c : UInt8} (h : Lib.indexByte l c = -1) : ∀ x ∈ l, x ≠ c := by
  intro x hx e
  obtain ⟨k, hk⟩ := mem_get hx
  exact Lib.indexByte_none h k (by rw [hk, e])
theorem at_some {l : List UInt8} {c : UInt8} {o : Nat} (h : Lib.indexByte l c = o) : (∀ x ∈ l.take o, x ≠ c) ∧ l = l.take o ++ c :: l.drop (o + 1) ∧ o < l.length := by
  obtain ⟨h1, h2⟩ := Lib.indexByte_some h
  have hlt := (List.getElem?_eq_some_iff.1 h1).1
  refine ⟨fun x hx e => ?_, ?_, hlt⟩
  · obtain ⟨k, hk⟩ := mem_get hx
    have hk1 := (List.getElem?_eq_some_iff.1 hk).1
    rw [List.length_take] at hk1
    rw [List.getElem?_take_of_lt (by omega)] at hk
    exact h2 k (by omega) (by rw [hk, e])
  · have e : l[o] = c := (List.getElem?_eq_some_iff.1 h1).2
    rw [← e, List.getElem_cons_drop]
    exact (List.take_append_drop o l).symm
theorem index_ge (l : List UInt8) (c : UInt8) : Lib.indexByte l c = -1 ∨ ∃ o : Nat, Lib.indexByte l c = o := by
  have := Lib.indexByte_ge l c
  by_cases h : Lib.indexByte l c = -1
  · exact Or.inl h
  · exact Or.inr ⟨(Lib.indexByte l c).toNat, by omega⟩
theorem splitK_cut (c : UInt8) : ∀ (k : Nat) (l : List UInt8), l.count c = k → Lib.splitK [c] 0 k l = cutL c l
  | 0, l, h => by
    rw [Lib.splitK, cutL_none]
    intro x hx e
    subst e
    have := List.count_pos_iff.2 hx
    omega
  | k + 1, l, h => by
    rw [Lib.splitK, Lib.index_one]
    rcases index_ge l c with h1 | ⟨o, h1⟩
    · rw [h1]
      have := at_none h1
      have h2 : l.count c = 0 := List.count_eq_zero.2 fun hm => this c hm rfl
      omega
    · obtain ⟨h2, h3, h4⟩ := at_some h1
      rw [h1, if_neg (by simp)]
      have hc : (l.drop (o + 1)).count c = k := by
        have e : l.count c = (l.take o ++ c :: l.drop (o + 1)).count c := congrArg _ h3
        rw [List.count_append, List.count_cons_self, h] at e
        have h5 : (l.take o).count c = 0 := List.count_eq_zero.2 fun hm => h2 c hm rfl
        omega
      have e2 : cutL c l = l.take o :: cutL c (l.drop (o + 1)) := by
        have := cutL_some (r := l.drop (o + 1)) h2
        rw [← h3] at this
        exact this
      rw [e2, ← splitK_cut c k _ hc]
      simp
theorem split_cut (l : List UInt8) (c : UInt8) : Lib.splitK [c] 0 (Lib.count l [c]) l = cutL c l := splitK_cut c _ l (Lib.count_one c l).symm
theorem cutL_len (c : UInt8) : ∀ (l : List UInt8), ∀ x ∈ cutL c l, x.length ≤ l.length
  | [] => by simp [cutL]
  | y :: l => by
    have ih := cutL_len c l
    rw [cutL]
    split
    · intro x hx
      rcases List.mem_cons.1 hx with rfl | hx
      · simp
      · have := ih x hx; simp; omega
    · split
      · rename_i p ps hp
        rw [hp] at ih
        intro x hx
        rcases List.mem_cons.1 hx with rfl | hx
        · have := ih p (by simp); simp; omega
        · have := ih x (by simp [hx]); simp; omega
      · intro x hx
        obtain rfl := List.mem_singleton.1 hx
        simp
theorem cutL_many (c : UInt8) : ∀ (l : List UInt8), (cutL c l).length ≤ l.length + 1 ∧ 1 ≤ (cutL c l).length
  | [] => by simp [cutL]
  | y :: l => by
    have ih := cutL_many c l
    rw [cutL]
    split
    · simp; omega
    · split
      · rename_i p ps hp
        rw [hp] at ih
        simp at ih ⊢
        omega
      · simp
/-- The pieces that are not empty, each with its place. -/
def plc (p : Nat) : List (List UInt8) → List (Nat × List UInt8)
  | [] => []
  | x :: xs => (if x = [] then [] else [(p, x)]) ++ plc (p + x.length + 1) xs
def linesL (t : List UInt8) : List (Nat × List UInt8) := plc 0 (cutL 10 t)
/-- The packet that a line is. -/
def fiveL : List (Option Int) → Option It
  | [some a, some l, some f, some b, some m] => some ⟨a, l, f, b, m⟩
  | _ => none
def rowL (x : List UInt8) : Option It := fiveL ((cutL 32 x).map numL)
/-- What is read of lines, behind packets that are right. -/
def readL : List It → List (Nat × List UInt8) → Except (Int × Nat) (List It)
  | l, [] => .ok l
  | l, (p, x) :: r => match rowL x with
    | none => .error (3, p)
    | some y => if (listE (l ++ [y])).1 = 0 then readL (l ++ [y]) r else .error ((listE (l ++ [y])).1, p)
def parseI (t : List UInt8) : Except (Int × Nat) (List It) := readL [] (linesL t)
/-- So far all was right: these packets. -/
def gotL : List (Nat × List UInt8) → Option (List It)
  | pre => match readL [] pre with | .ok l => some l | .error _ => none
theorem readL_app : ∀ (pre r : List (Nat × List UInt8)) (l l' : List It), readL l pre = .ok l' → readL l (pre ++ r) = readL l' r
  | [], r, l, l', h => by simp only [readL, Except.ok.injEq] at h; subst h; rfl
  | (p, x) :: pre, r, l, l', h => by
    rw [readL] at h
    rw [List.cons_append, readL]
    split at h
    · cases h
    · rename_i y hy
      split at h
      · rename_i h0
        rw [if_pos h0]
        exact readL_app pre r _ _ h
      · cases h
theorem readL_err : ∀ (pre r : List (Nat × List UInt8)) (l : List It) (e : Int × Nat), readL l pre = .error e → readL l (pre ++ r) = .error e
  | [], r, l, e, h => by cases h
  | (p, x) :: pre, r, l, e, h => by
    rw [readL] at h
    rw [List.cons_append, readL]
    split at h
    · exact h
    · rename_i y hy
      split at h
      · rename_i h0
        rw [if_pos h0]
        exact readL_err pre r _ _ h
      · rename_i h0
        rw [if_neg h0]
        exact h
theorem readL_len : ∀ (pre : List (Nat × List UInt8)) (l l' : List It), readL l pre = .ok l' → l'.length = l.length + pre.length
  | [], l, l', h => by simp only [readL, Except.ok.injEq] at h; subst h; simp
  | (p, x) :: pre, l, l', h => by
    rw [readL] at h
    split at h
    · cases h
    · split at h
      · have := readL_len pre _ _ h
        simp at this ⊢
        omega
      · cases h
end Go.Proofs.YtcdcplocpdmjaaaDoor
