/-
  Slices of ints and ints, read off arguments, each of 64 bits. Nothing is claimed here by itself.
-/
import Derived.Test.YtkmbnklfaaopaaaDoorLwRow
import Derived.WalkKit
import Derived.ProofKit
import Derived.OpenShut
import Derived.Deep.Strs
namespace Go.Proofs.YtkmbnklfaaopaaaDoor
open Go.ChangeShapes Go.WideShapes Go.ChangeAt Go.RowKit

theorem add_plain (b off n : Nat) : (⟨b, off, none⟩ : Addr).add n = ⟨b, off + n, none⟩ := by
  by_cases h : n = 0
  · subst h; simp [Addr.add]
  · simp [Addr.add, h]
/-- An int of 64 bits. -/
def Wf64 (x : Int) : Prop := -9223372036854775808 ≤ x ∧ x ≤ 9223372036854775807
theorem wf64 {x : Int} (h : (Lit.int .i64 x).wf = true) : Wf64 x := by
  have e : (Lit.int .i64 x).wf = (decide (IntKind.i64.min ≤ x) && decide (x ≤ IntKind.i64.max)) := rfl
  rw [e, Bool.and_eq_true, decide_eq_true_eq, decide_eq_true_eq] at h
  have e1 : IntKind.i64.min = -9223372036854775808 := by decide
  have e2 : IntKind.i64.max = 9223372036854775807 := by decide
  rw [e1, e2] at h
  exact h
set_option maxRecDepth 100000 in
/-- An int. -/
theorem open_int {H : Type} {enc : TypeId × Value → H} {W : World} {b0 base : Nat} {spare : Nat → Bool} {held : Bool} {v : Value} {d : DataW H} {p : List MemPlace} {r : Reach}
    (hv : Value.okWide Tryd.prog W r b0 3 v) (h : DataW.Trod enc Tryd.prog W base spare held 3 v d p) : ∃ x : Int, v = .int .i64 x ∧ Wf64 x := by
  obtain ⟨fuel, hf⟩ := h
  obtain ⟨x, e0, hw, _⟩ := DataW.trod_int Tryd.underlying3 hf
  obtain ⟨y, rfl⟩ := okWide_int Tryd.underlying3 hv
  simp [Value.cells] at e0
  subst e0
  exact ⟨_, rfl, wf64 (by assumption)⟩
set_option maxRecDepth 100000 in
/-- A slice of ints. -/
theorem open_intsW {H : Type} {enc : TypeId × Value → H} {W : World} {b0 base : Nat} {spare : Nat → Bool} {held : Bool} {v : Value} {d : DataW H} {p : List MemPlace} {r : Reach}
    (hv : Value.okWide Tryd.prog W r b0 22 v) (h : DataW.Trod enc Tryd.prog W base spare held 22 v d p) :
    ∃ (x : Option Addr) (n cap : Nat) (a : Nat → Int), v = .slice x n cap ∧ Row W x n a ∧ n ≤ maxLen ∧ ∀ i, i < n → Wf64 (a i) := by
  obtain ⟨a0, len, cap, rfl⟩ := okWide_slice Tryd.underlying22 hv
  obtain ⟨fuel, hf⟩ := h
  rcases Go.Deep.open_slice Tryd.underlying22 hf with ⟨hcs, _⟩ | ⟨a, len', cap', m, n, D, Pl, hcs, _, hl, hm, hmm, _, hel⟩
  · simp [Value.cells] at hcs
    obtain ⟨rfl, rfl, rfl⟩ := hcs
    exact ⟨none, 0, 0, fun _ => 0, rfl, Or.inl rfl, by simp, fun i hi => by omega⟩
  · simp [Value.cells] at hcs
    obtain ⟨rfl, rfl, rfl⟩ := hcs
    by_cases h0 : len = 0
    · subst h0; exact ⟨_, 0, _, fun _ => 0, rfl, Or.inl rfl, by simp, fun i hi => by omega⟩
    have hlm : len ≤ m := by rw [hmm]; split <;> omega
    obtain ⟨b, off, spot⟩ := a
    have hspot : spot = none := by
      obtain ⟨cs', hc, ht⟩ := hel 0 (by omega)
      rw [cellsInt] at hc
      obtain ⟨x, rfl, _⟩ := DataW.trod_int Tryd.underlying3 ht
      obtain ⟨_, _, hcell⟩ := World.cells?_some hc
      have := hcell 0 (by omega)
      simp only [Nat.zero_mul, Go.Deep.add_add, Nat.add_zero, List.getElem?_cons_zero] at this
      simpa [Addr.add] using World.cell?_spot this
    subst hspot
    have hx : ∀ i, ∃ x : Int, i < len → W.cell? ⟨b, off + i, none⟩ = some (.int .i64 x) ∧ Wf64 x := by
      intro i
      by_cases hi : i < len
      · obtain ⟨cs', hc, ht⟩ := hel i (by omega)
        rw [cellsInt] at hc
        obtain ⟨x, rfl, hw, _⟩ := DataW.trod_int Tryd.underlying3 ht
        obtain ⟨_, _, hcell⟩ := World.cells?_some hc
        have := hcell 0 (by omega)
        rw [add_plain, add_plain] at this
        simp only [Nat.mul_one, Nat.add_zero, List.getElem?_cons_zero] at this
        exact ⟨x, fun _ => ⟨this, wf64 (by assumption)⟩⟩
      · exact ⟨0, fun h => absurd h hi⟩
    exact ⟨_, len, cap, fun i => Classical.choose (hx i), rfl, Or.inr ⟨b, off, rfl, fun i h => (Classical.choose_spec (hx i) h).1⟩, by omega, fun i h => (Classical.choose_spec (hx i) h).2⟩
end Go.Proofs.YtkmbnklfaaopaaaDoor
