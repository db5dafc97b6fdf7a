/-
  What the rows' proofs share: a slice of moves read off an argument. Nothing is claimed here by itself.
-/
import Derived.Test.YtgiommaelipmhaaRows
import Derived.Test.YtgiommaelipmhaaQm
import Derived.WalkKit
import Derived.ProofKit
import Derived.OpenShut
import Derived.Carry
import Derived.RowKit
import Derived.ChangeSame
import Derived.Deep.Slices
import Derived.Deep.Strs
import Derived.Lib.SmallJoins
namespace Go.Proofs.Ytgiommaelipmhaa
open Go.ChangeShapes Go.WideShapes Go.ChangeAt Go.RowKit

theorem own : ownKnob Try.prog.godebug = none := by kernel_rfl
theorem laidOut : laidOutB Try.prog = true := by kernel_rfl
theorem cellsInt : Try.prog.cellsOf 3 = 1 := by kernel_rfl
theorem cellsMove : Try.prog.cellsOf 27 = 2 := by kernel_rfl
theorem list2 {α : Type} {l : List α} (h : l.length = 2) : ∃ a b, l = [a, b] := by
  match l, h with
  | [a, b], _ => exact ⟨a, b, rfl⟩
set_option maxRecDepth 100000 in
/-- Two cells that read as a move. -/
theorem open_move {H : Type} {enc : TypeId × Value → H} {W : World} {base fuel : Nat} {spare : Nat → Bool} {held : Bool} {cs : List Value} {y : DataW H × List MemPlace}
    (h : DataW.trod enc Try.prog W base spare held fuel 27 cs = some y) : ∃ x : Mv, cs = x.cs := by
  obtain ⟨y0, y1, n, _, hl, k0, k1⟩ := Go.ChangeShapes.trod_struct2 Try.underlying27 h
  rw [cellsMove] at hl
  obtain ⟨c0, c1, rfl⟩ := list2 hl
  simp only [cellsInt, List.drop_zero, List.drop_succ_cons, List.take_succ_cons, List.take_zero] at k0 k1
  obtain ⟨wh, e0, _, _⟩ := DataW.trod_int Try.underlying3 k0
  obtain ⟨lt, e1, _, _⟩ := DataW.trod_int Try.underlying3 k1
  simp only [List.cons.injEq, and_true] at e0 e1
  exact ⟨⟨wh, lt⟩, by rw [e0, e1]; rfl⟩
set_option maxRecDepth 100000 in
/-- A slice of steps, read off an argument. -/
theorem open_moves {H : Type} {enc : TypeId × Value → H} {W : World} {b0 base : Nat} {spare : Nat → Bool} {held : Bool} {v : Value} {d : DataW H} {p : List MemPlace} {r : Reach}
    (hv : Value.okWide Try.prog W r b0 22 v) (h : DataW.Trod enc Try.prog W base spare held 22 v d p) :
    ∃ (x : Option Addr) (cap : Nat) (xs : List Mv), v = .slice x xs.length cap ∧ LiesM W x (flt Mv.cs xs) ∧ xs.length ≤ maxLen := by
  obtain ⟨a0, len, cap, rfl⟩ := okWide_slice Try.underlying22 hv
  obtain ⟨fuel, hf⟩ := h
  rcases Go.Deep.open_slice Try.underlying22 hf with ⟨hcs, _⟩ | ⟨a, len', cap', m, n, D, Pl, hcs, _, hl, hm, hmm, _, hel⟩
  · simp [Value.cells] at hcs
    obtain ⟨rfl, rfl, rfl⟩ := hcs
    exact ⟨none, 0, [], rfl, Or.inl rfl, by simp⟩
  · simp [Value.cells] at hcs
    obtain ⟨rfl, rfl, rfl⟩ := hcs
    by_cases h0 : len = 0
    · subst h0; exact ⟨_, _, [], rfl, Or.inl rfl, by simp⟩
    have hlm : len ≤ m := by rw [hmm]; split <;> omega
    obtain ⟨b, off, spot⟩ := a
    have hspot : spot = none := by
      obtain ⟨cs', hc, ht⟩ := hel 0 (by omega)
      rw [cellsMove] at hc
      obtain ⟨x, rfl⟩ := open_move ht
      obtain ⟨_, _, hcell⟩ := World.cells?_some hc
      have := hcell 0 (by omega)
      simp only [Nat.zero_mul, Go.Deep.add_add, Nat.add_zero, Mv.cs, List.getElem?_cons_zero] at this
      simpa [Addr.add] using World.cell?_spot this
    subst hspot
    have hex : ∀ i : Fin len, ∃ x : Mv, ∀ j, j < 2 → W.cell? ⟨b, off + i.1 * 2 + j, none⟩ = x.cs[j]? := by
      intro i
      obtain ⟨cs', hc, ht⟩ := hel i.1 (by omega)
      rw [cellsMove] at hc
      obtain ⟨x, rfl⟩ := open_move ht
      obtain ⟨_, _, hcell⟩ := World.cells?_some hc
      refine ⟨x, fun j hj => ?_⟩
      have := hcell j hj
      rw [Addr.add_lit, Addr.add_lit] at this
      exact this
    let g : Fin len → Mv := fun i => Classical.choose (hex i)
    have hg : ∀ i : Fin len, ∀ j, j < 2 → W.cell? ⟨b, off + i.1 * 2 + j, none⟩ = (g i).cs[j]? := fun i => Classical.choose_spec (hex i)
    have hbl : b < W.heap.size := by
      have h1 : W.cell? ⟨b, off + 0 * 2 + 0, none⟩ = some (.int .i64 (g ⟨0, by omega⟩).what) := hg ⟨0, by omega⟩ 0 (by omega)
      exact World.block_lt_of_cell? _ _ h1
    refine ⟨some ⟨b, off, none⟩, cap, List.ofFn g, by simp, Or.inr ⟨b, off, rfl, hbl, ?_⟩, by simp; omega⟩
    intro j u hj
    have hjl := (List.getElem?_eq_some_iff.1 hj).1
    rw [flt_length Mv.cs 2 Mv.len2, List.length_ofFn] at hjl
    have hi : j / 2 < len := by omega
    have hr : j % 2 < 2 := Nat.mod_lt _ (by omega)
    have hx : (List.ofFn g)[j / 2]? = some (g ⟨j / 2, hi⟩) := by rw [List.getElem?_ofFn]; simp [hi]
    have hat := flt_at Mv.cs 2 Mv.len2 hx hr
    have hjj : j / 2 * 2 + j % 2 = j := by omega
    rw [hjj, hj] at hat
    have := hg ⟨j / 2, hi⟩ (j % 2) hr
    rw [← hat] at this
    rw [← this]
    congr 2
    show off + j = off + j / 2 * 2 + j % 2
    omega
end Go.Proofs.Ytgiommaelipmhaa
