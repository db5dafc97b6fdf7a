/-
  millracebig: QuoRem, Uint64, Int64 of whole numbers: what lies behind the call, and what stays. Conditions: numbers below 2^64, a divisor that isn't 0.
-/
import Derived.Test.YtlcifhmnjmnofaaDoorGe
namespace Go.Proofs.YtlcifhmnjmnofaaDoor
open Go.RowKit Go.Deep

theorem quo_sign (x y : Int) : (if (!(decide (x < 0) == decide (y < 0))) = true then -((x.natAbs / y.natAbs : Nat) : Int) else ((x.natAbs / y.natAbs : Nat) : Int)) = x.tdiv y := by
  rw [Int.ofNat_tdiv]
  have e : ∀ c : Bool, c = (!(decide (x < 0) == decide (y < 0))) → (if c = true then -((x.natAbs : Int).tdiv (y.natAbs : Int)) else (x.natAbs : Int).tdiv (y.natAbs : Int)) = x.tdiv y := ?_
  · exact e _ rfl
  intro c hc
  by_cases hx : x < 0 <;> by_cases hy : y < 0 <;> simp [hx, hy] at hc <;> subst hc
  · rw [if_neg (by simp), show ((x.natAbs : Nat) : Int) = -x by omega, show ((y.natAbs : Nat) : Int) = -y by omega, Int.neg_tdiv, Int.tdiv_neg, Int.neg_neg]
  · rw [if_pos rfl, show ((x.natAbs : Nat) : Int) = -x by omega, show ((y.natAbs : Nat) : Int) = y by omega, Int.neg_tdiv, Int.neg_neg]
  · rw [if_pos rfl, show ((x.natAbs : Nat) : Int) = x by omega, show ((y.natAbs : Nat) : Int) = -y by omega, Int.tdiv_neg, Int.neg_neg]
  · rw [if_neg (by simp), show ((x.natAbs : Nat) : Int) = x by omega, show ((y.natAbs : Nat) : Int) = y by omega]
theorem rem_sign (x y : Int) : (if decide (x < 0) = true then -((x.natAbs % y.natAbs : Nat) : Int) else ((x.natAbs % y.natAbs : Nat) : Int)) = x.tmod y := by
  rw [Int.ofNat_tmod]
  have e : ∀ z : Int, z.tmod (y.natAbs : Int) = z.tmod y := fun z => by
    rcases Int.natAbs_eq y with h | h
    · rw [← h]
    · rw [show ((y.natAbs : Nat) : Int) = -y by omega, Int.tmod_neg]
  rw [e]
  by_cases hx : x < 0
  · rw [if_pos (by simpa using hx), show ((x.natAbs : Nat) : Int) = -x by omega, Int.neg_tmod, Int.neg_neg]
  · rw [if_neg (by simpa using hx), show ((x.natAbs : Nat) : Int) = x by omega]

/-- Two cells. -/
def PairAt (xb xo yb yo : Nat) (p q : Value) (w : World) : Prop := w.cell? ⟨xb, xo, none⟩ = some p ∧ w.cell? ⟨yb, yo, none⟩ = some q
theorem PairAt.below {xb xo yb yo : Nat} {p q : Value} {w w' : World} (h : PairAt xb xo yb yo p q w) (hb : Below w.heap.size w w') : PairAt xb xo yb yo p q w' :=
  ⟨(hb.cell (lt_of_cell h.1)).trans h.1, (hb.cell (lt_of_cell h.2)).trans h.2⟩

end Go.Proofs.YtlcifhmnjmnofaaDoor
