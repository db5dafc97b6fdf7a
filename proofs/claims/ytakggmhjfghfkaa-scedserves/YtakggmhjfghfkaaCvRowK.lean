/-
  What the rows' proofs share: a slice of ints read off an argument. Nothing is claimed here by itself.
-/
import Derived.Test.YtakggmhjfghfkaaRows
import Derived.Test.YtakggmhjfghfkaaCvRow
import Derived.WalkKit
import Derived.ProofKit
import Derived.OpenShut
import Derived.Carry
import Derived.Deep.Slices
import Derived.Lib.SmallJoins
namespace Go.Proofs.Ytakggmhjfghfkaa
open Go.ChangeShapes Go.WideShapes Go.ChangeAt Go.RowKit

theorem own : ownKnob Try.prog.godebug = none := by kernel_rfl
theorem laidOut : laidOutB Try.prog = true := by kernel_rfl
theorem cellsInt : Try.prog.cellsOf 3 = 1 := by kernel_rfl

set_option maxRecDepth 100000 in
/-- A slice of ints, read off an argument. -/
theorem open_ints {H : Type} {enc : TypeId × Value → H} {W : World} {b0 base : Nat} {spare : Nat → Bool} {held : Bool} {v : Value} {d : DataW H} {p : List MemPlace} {r : Reach}
    (hv : Value.okWide Try.prog W r b0 23 v) (h : DataW.Trod enc Try.prog W base spare held 23 v d p) :
    ∃ (x : Option Addr) (n cap : Nat) (f : Nat → Int), v = .slice x n cap ∧ Row W x n f ∧ n ≤ cap ∧ cap ≤ maxLen := by
  obtain ⟨a0, len, cap, rfl⟩ := okWide_slice Try.underlying23 hv
  obtain ⟨fuel, hf⟩ := h
  rcases Go.Deep.open_slice1 Try.underlying23 cellsInt hf with ⟨hcs, _⟩ | ⟨a, len', cap', m, n, V, D, Pl, hcs, _, hl, hm, hmm, _, hel⟩
  · simp [Value.cells] at hcs
    obtain ⟨rfl, rfl, rfl⟩ := hcs
    exact ⟨none, 0, 0, fun _ => 0, rfl, Or.inl rfl, Nat.le_refl _, Nat.zero_le _⟩
  · simp [Value.cells] at hcs
    obtain ⟨rfl, rfl, rfl⟩ := hcs
    by_cases h0 : len = 0
    · subst h0; exact ⟨_, 0, cap, fun _ => 0, rfl, Or.inl rfl, hl, hm⟩
    have hlm : len ≤ m := by rw [hmm]; split <;> omega
    obtain ⟨b, off, spot⟩ := a
    have hspot : spot = none := by
      have hc := (hel 0 (by omega)).1
      simpa [Addr.add] using World.cell?_spot hc
    subst hspot
    have hi : ∀ i, ∃ u : Int, i < len → W.cell? ⟨b, off + i, none⟩ = some (.int .i64 u) := by
      intro i
      by_cases hi : i < len
      · obtain ⟨hc, ht⟩ := hel i (by omega)
        obtain ⟨u, e0, _, _⟩ := DataW.trod_int Try.underlying3 ht
        simp only [List.cons.injEq, and_true] at e0
        refine ⟨u, fun _ => ?_⟩
        rw [← e0, ← hc]
        by_cases hz : i = 0
        · subst hz; simp [Addr.add]
        · simp [Addr.add, hz]
      · exact ⟨0, fun h => absurd h hi⟩
    exact ⟨_, len, cap, fun i => Classical.choose (hi i), rfl, Or.inr ⟨b, off, rfl, fun i h => Classical.choose_spec (hi i) h⟩, hl, hm⟩
end Go.Proofs.Ytakggmhjfghfkaa
