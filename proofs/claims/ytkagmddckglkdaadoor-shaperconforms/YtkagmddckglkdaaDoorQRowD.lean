/-
  What the rows' proofs share: the variable errors.errorType as the walks take it, a slice of steps read off an argument. Nothing is claimed here by itself.
-/
import Derived.Test.YtkagmddckglkdaaDoorRows
import Derived.Test.YtkagmddckglkdaaDoorTie
import Derived.Test.YtkagmddckglkdaaDoorCards
import Derived.Test.YtkagmddckglkdaaDoorErrs
import Derived.Test.YtkagmddckglkdaaDoorTm
import Derived.OpenShut
import Derived.WalkKit
import Derived.ProofKit
import Derived.Deep.Strs
import Derived.ChangeSame
import Derived.ChangeVars
import Derived.JoinedOf
import Derived.RowKit
import Derived.RowKitTokens
import Derived.LaidLaws
import Derived.LaidHandle
import Derived.Carry
import Derived.Stop.Joined
import Derived.SevenTiedAt
import Derived.Deep.Slices
import Derived.Lib.SmallJoins
namespace Go.Proofs.YtkagmddckglkdaaDoor
open Go.ChangeShapes Go.WideShapes Go.ChangeAt Go.RowKit

theorem own : ownKnob Tryd.prog.godebug = none := by kernel_rfl
theorem laidOut : laidOutB Tryd.prog = true := by kernel_rfl
theorem et : Tryd.prog.globalNamed "errors.errorType" = some 0 := by kernel_rfl
theorem oneRow : ((List.range 195).filter fun t => Tryd.prog.rowNamed t [101, 114, 114, 111, 114]) = [29] := by kernel_rfl
theorem tsize : Tryd.prog.types.size = 195 := by kernel_rfl

/-- What a met handle gives a walk: the variable's one cell. -/
theorem laid_of_handles {W : World} {hs : List (String × DataW Unit)} (h : handlesMet Tryd.prog hs W) (hm : ("errors.errorType", Rows.laid_errors_errorType) ∈ hs) : Laid W := by
  obtain ⟨name, u, ty, e1, e2, e3, e4, e5⟩ := h _ hm
  have en : name = [101, 114, 114, 111, 114] := (Option.some.inj e1).symm
  subst en
  obtain rfl : 145 = u := Option.some.inj (Eq.trans (Eq.symm (by kernel_rfl)) e2)
  have hm : ty ∈ (List.range 195).filter fun t => Tryd.prog.rowNamed t [101, 114, 114, 111, 114] := List.mem_filter.2 ⟨List.mem_range.2 (by rw [← tsize]; exact e3), e4⟩
  rw [oneRow] at hm
  obtain rfl := List.mem_singleton.1 hm
  have hh : typeHandle Tryd.prog 29 = .pointer (some ⟨1, 29, none⟩) := by kernel_rfl
  rw [hh] at e5
  unfold Laid
  simpa using World.var?_cell et e5 0
theorem cellsInt : Tryd.prog.cellsOf 3 = 1 := by kernel_rfl
theorem cellsItem : Tryd.prog.cellsOf 43 = 5 := by kernel_rfl
theorem cellsStep : Tryd.prog.cellsOf 45 = 7 := by kernel_rfl
theorem list5 {α : Type} {l : List α} (h : l.length = 5) : ∃ a b c d e, l = [a, b, c, d, e] := by
  match l, h with
  | [a, b, c, d, e], _ => exact ⟨a, b, c, d, e, rfl⟩
theorem list7 {α : Type} {l : List α} (h : l.length = 7) : ∃ a b c d e f g, l = [a, b, c, d, e, f, g] := by
  match l, h with
  | [a, b, c, d, e, f, g], _ => exact ⟨a, b, c, d, e, f, g, rfl⟩
theorem trod5 {H : Type} {enc : TypeId × Value → H} {P : Program} {w : World} {base : Nat} {spare : Nat → Bool} {held : Bool} {t : TypeId} {f0 f1 f2 f3 f4 : Field} {fuel : Nat} {cs : List Value} {x : DataW H × List MemPlace} (ht : P.underlying t = some (.struct #[f0, f1, f2, f3, f4])) (h : DataW.trod enc P w base spare held fuel t cs = some x) :
    ∃ y0 y1 y2 y3 y4 n, cs.length = P.cellsOf t ∧ DataW.trod enc P w base spare held n f0.type ((cs.drop f0.offset).take (P.cellsOf f0.type)) = some y0 ∧ DataW.trod enc P w base spare held n f1.type ((cs.drop f1.offset).take (P.cellsOf f1.type)) = some y1 ∧
      DataW.trod enc P w base spare held n f2.type ((cs.drop f2.offset).take (P.cellsOf f2.type)) = some y2 ∧ DataW.trod enc P w base spare held n f3.type ((cs.drop f3.offset).take (P.cellsOf f3.type)) = some y3 ∧ DataW.trod enc P w base spare held n f4.type ((cs.drop f4.offset).take (P.cellsOf f4.type)) = some y4 := by
  obtain ⟨xs, n, _, rfl, hl, hlen, hf⟩ := DataW.trod_struct ht h
  obtain ⟨y0, y1, y2, y3, y4, rfl⟩ := list5 hlen
  exact ⟨y0, y1, y2, y3, y4, n, hl, by simpa using hf 0 f0 rfl, by simpa using hf 1 f1 rfl, by simpa using hf 2 f2 rfl, by simpa using hf 3 f3 rfl, by simpa using hf 4 f4 rfl⟩
set_option maxRecDepth 100000 in
/-- Seven cells that read as a step. -/
theorem open_step {H : Type} {enc : TypeId × Value → H} {W : World} {base fuel : Nat} {spare : Nat → Bool} {held : Bool} {cs : List Value} {y : DataW H × List MemPlace}
    (h : DataW.trod enc Tryd.prog W base spare held fuel 45 cs = some y) : ∃ x : Stp, cs = x.cs := by
  obtain ⟨y0, y1, y2, n, _, hl, k0, k1, k2⟩ := Go.Deep.trod_struct3 Tryd.underlying45 h
  rw [cellsStep] at hl
  obtain ⟨c0, c1, c2, c3, c4, c5, c6, rfl⟩ := list7 hl
  simp only [cellsInt, cellsItem, List.drop_zero, List.drop_succ_cons, List.take_succ_cons, List.take_zero] at k0 k1 k2
  obtain ⟨z0, z1, z2, z3, z4, m, _, j0, j1, j2, j3, j4⟩ := trod5 Tryd.underlying43 k2
  simp only [cellsInt, List.drop_zero, List.drop_succ_cons, List.take_succ_cons, List.take_zero] at j0 j1 j2 j3 j4
  obtain ⟨wh, e0, _, _⟩ := DataW.trod_int Tryd.underlying3 k0
  obtain ⟨lt, e1, _, _⟩ := DataW.trod_int Tryd.underlying3 k1
  obtain ⟨a, e2, _, _⟩ := DataW.trod_int Tryd.underlying3 j0
  obtain ⟨l, e3, _, _⟩ := DataW.trod_int Tryd.underlying3 j1
  obtain ⟨f, e4, _, _⟩ := DataW.trod_int Tryd.underlying3 j2
  obtain ⟨b, e5, _, _⟩ := DataW.trod_int Tryd.underlying3 j3
  obtain ⟨mk, e6, _, _⟩ := DataW.trod_int Tryd.underlying3 j4
  simp only [List.cons.injEq, and_true] at e0 e1 e2 e3 e4 e5 e6
  exact ⟨⟨wh, lt, a, l, f, b, mk⟩, by rw [e0, e1, e2, e3, e4, e5, e6]; rfl⟩
set_option maxRecDepth 100000 in
/-- A slice of steps, read off an argument. -/
theorem open_steps {H : Type} {enc : TypeId × Value → H} {W : World} {b0 base : Nat} {spare : Nat → Bool} {held : Bool} {v : Value} {d : DataW H} {p : List MemPlace} {r : Reach}
    (hv : Value.okWide Tryd.prog W r b0 26 v) (h : DataW.Trod enc Tryd.prog W base spare held 26 v d p) :
    ∃ (x : Option Addr) (cap : Nat) (xs : List Stp), v = .slice x xs.length cap ∧ Lies W x (flt Stp.cs xs) ∧ xs.length ≤ maxLen := by
  obtain ⟨a0, len, cap, rfl⟩ := okWide_slice Tryd.underlying26 hv
  obtain ⟨fuel, hf⟩ := h
  rcases Go.Deep.open_slice Tryd.underlying26 hf with ⟨hcs, _⟩ | ⟨a, len', cap', m, n, D, Pl, hcs, _, hl, hm, hmm, _, hel⟩
  · simp [Value.cells] at hcs
    obtain ⟨rfl, rfl, rfl⟩ := hcs
    exact ⟨none, 0, [], rfl, Or.inl rfl, by simp⟩
  · simp [Value.cells] at hcs
    obtain ⟨rfl, rfl, rfl⟩ := hcs
    by_cases h0 : len = 0
    · subst h0; exact ⟨_, _, [], rfl, Or.inl rfl, by simp⟩
    have hlm : len ≤ m := by rw [hmm]; split <;> omega
    obtain ⟨b, off, spot⟩ := a
    have hspot : spot = none := by
      obtain ⟨cs', hc, ht⟩ := hel 0 (by omega)
      rw [cellsStep] at hc
      obtain ⟨x, rfl⟩ := open_step ht
      obtain ⟨_, _, hcell⟩ := World.cells?_some hc
      have := hcell 0 (by omega)
      simp only [Nat.zero_mul, Go.Deep.add_add, Nat.add_zero, Stp.cs, List.getElem?_cons_zero] at this
      simpa [Addr.add] using World.cell?_spot this
    subst hspot
    have hex : ∀ i : Fin len, ∃ x : Stp, ∀ j, j < 7 → W.cell? ⟨b, off + i.1 * 7 + j, none⟩ = x.cs[j]? := by
      intro i
      obtain ⟨cs', hc, ht⟩ := hel i.1 (by omega)
      rw [cellsStep] at hc
      obtain ⟨x, rfl⟩ := open_step ht
      obtain ⟨_, _, hcell⟩ := World.cells?_some hc
      refine ⟨x, fun j hj => ?_⟩
      have := hcell j hj
      rw [Addr.add_lit, Addr.add_lit] at this
      exact this
    let g : Fin len → Stp := fun i => Classical.choose (hex i)
    have hg : ∀ i : Fin len, ∀ j, j < 7 → W.cell? ⟨b, off + i.1 * 7 + j, none⟩ = (g i).cs[j]? := fun i => Classical.choose_spec (hex i)
    have hbl : b < W.heap.size := by
      have h1 : W.cell? ⟨b, off + 0 * 7 + 0, none⟩ = some (.int .i64 (g ⟨0, by omega⟩).what) := hg ⟨0, by omega⟩ 0 (by omega)
      exact World.block_lt_of_cell? _ _ h1
    refine ⟨some ⟨b, off, none⟩, cap, List.ofFn g, by simp, Or.inr ⟨b, off, rfl, hbl, ?_⟩, by simp; omega⟩
    intro j u hj
    have hjl := (List.getElem?_eq_some_iff.1 hj).1
    rw [flt_length Stp.cs 7 Stp.len, List.length_ofFn] at hjl
    have hi : j / 7 < len := by omega
    have hr : j % 7 < 7 := Nat.mod_lt _ (by omega)
    have hx : (List.ofFn g)[j / 7]? = some (g ⟨j / 7, hi⟩) := by rw [List.getElem?_ofFn]; simp [hi]
    have hat := flt_at Stp.cs 7 Stp.len hx hr
    have hjj : j / 7 * 7 + j % 7 = j := by omega
    rw [hjj, hj] at hat
    have := hg ⟨j / 7, hi⟩ (j % 7) hr
    rw [← hat] at this
    rw [← this]
    congr 2
    show off + j = off + j / 7 * 7 + j % 7
    omega
/-- A world that meets the condition: the settled one, the variable's cell laid. -/
def lay (w0 : World) : World :=
  { w0 with heap := w0.heap.modify 0 fun
      | .cells _ t frozen => .cells #[.iface 145 (.agg #[.pointer (some ⟨1, 29, none⟩)])] t frozen
      | o => o }
end Go.Proofs.YtkagmddckglkdaaDoor
