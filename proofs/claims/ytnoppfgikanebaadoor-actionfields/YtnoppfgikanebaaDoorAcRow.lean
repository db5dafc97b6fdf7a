/-
  What the rows' proofs of package action share: actions, buckets and a packet read off arguments; the variable errors.errorType as the walks take it. Nothing is claimed here by itself.
-/
import Derived.Test.YtnoppfgikanebaaDoorRows
import Derived.Test.YtnoppfgikanebaaDoorTie
import Derived.Test.YtnoppfgikanebaaDoorCards
import Derived.Test.YtnoppfgikanebaaDoorErrs
import Derived.Test.YtnoppfgikanebaaDoorAc3
import Derived.Deep.Strs
import Derived.ChangeSame
import Derived.ChangeVars
import Derived.JoinedOf
import Derived.RowKit
import Derived.RowKitTokens
import Derived.LaidLaws
import Derived.LaidHandle
import Derived.Carry
import Derived.Stop.Joined
import Derived.SevenTiedAt
import Derived.Deep.Slices
import Derived.Lib.SmallJoins
namespace Go.Proofs.YtnoppfgikanebaaDoor
open Go.ChangeShapes Go.WideShapes Go.RowKit

theorem own : ownKnob Tryd.prog.godebug = none := by kernel_rfl
theorem laidOut : laidOutB Tryd.prog = true := by kernel_rfl
theorem et : Tryd.prog.globalNamed "errors.errorType" = some 0 := by kernel_rfl
theorem oneRow : ((List.range 131).filter fun t => Tryd.prog.rowNamed t [101, 114, 114, 111, 114]) = [28] := by kernel_rfl
theorem tsize : Tryd.prog.types.size = 131 := by kernel_rfl

/-- What a met handle gives a walk: the variable's one cell. -/
theorem laid_of_handles {W : World} {hs : List (String × DataW Unit)} (h : handlesMet Tryd.prog hs W) (hm : ("errors.errorType", Rows.laid_errors_errorType) ∈ hs) : Laid W := by
  obtain ⟨name, u, ty, e1, e2, e3, e4, e5⟩ := h _ hm
  have en : name = [101, 114, 114, 111, 114] := (Option.some.inj e1).symm
  subst en
  obtain rfl : 88 = u := Option.some.inj (Eq.trans (Eq.symm (by kernel_rfl)) e2)
  have hm : ty ∈ (List.range 131).filter fun t => Tryd.prog.rowNamed t [101, 114, 114, 111, 114] := List.mem_filter.2 ⟨List.mem_range.2 (by rw [← tsize]; exact e3), e4⟩
  rw [oneRow] at hm
  obtain rfl := List.mem_singleton.1 hm
  have hh : typeHandle Tryd.prog 28 = .pointer (some ⟨1, 28, none⟩) := by kernel_rfl
  rw [hh] at e5
  unfold Laid
  simpa using World.var?_cell et e5 0
theorem cellsInt : Tryd.prog.cellsOf 3 = 1 := by kernel_rfl

theorem cellsItem : Tryd.prog.cellsOf 25 = 5 := by kernel_rfl
theorem cellsAc : Tryd.prog.cellsOf 38 = 3 := by kernel_rfl
theorem add_plain (b off n : Nat) : (⟨b, off, none⟩ : Addr).add n = ⟨b, off + n, none⟩ := by
  by_cases h : n = 0
  · subst h; simp [Addr.add]
  · simp [Addr.add, h]
theorem list5 {α : Type} {l : List α} (h : l.length = 5) : ∃ a b c d e, l = [a, b, c, d, e] := by
  match l, h with
  | [a, b, c, d, e], _ => exact ⟨a, b, c, d, e, rfl⟩
theorem trod5 {H : Type} {enc : TypeId × Value → H} {P : Program} {w : World} {base : Nat} {spare : Nat → Bool} {held : Bool} {t : TypeId} {f0 f1 f2 f3 f4 : Field} {fuel : Nat} {cs : List Value} {x : DataW H × List MemPlace} (ht : P.underlying t = some (.struct #[f0, f1, f2, f3, f4])) (h : DataW.trod enc P w base spare held fuel t cs = some x) :
    ∃ y0 y1 y2 y3 y4 n, cs.length = P.cellsOf t ∧ DataW.trod enc P w base spare held n f0.type ((cs.drop f0.offset).take (P.cellsOf f0.type)) = some y0 ∧ DataW.trod enc P w base spare held n f1.type ((cs.drop f1.offset).take (P.cellsOf f1.type)) = some y1 ∧
      DataW.trod enc P w base spare held n f2.type ((cs.drop f2.offset).take (P.cellsOf f2.type)) = some y2 ∧ DataW.trod enc P w base spare held n f3.type ((cs.drop f3.offset).take (P.cellsOf f3.type)) = some y3 ∧ DataW.trod enc P w base spare held n f4.type ((cs.drop f4.offset).take (P.cellsOf f4.type)) = some y4 := by
  obtain ⟨xs, n, _, rfl, hl, hlen, hf⟩ := DataW.trod_struct ht h
  obtain ⟨y0, y1, y2, y3, y4, rfl⟩ := list5 hlen
  exact ⟨y0, y1, y2, y3, y4, n, hl, by simpa using hf 0 f0 rfl, by simpa using hf 1 f1 rfl, by simpa using hf 2 f2 rfl, by simpa using hf 3 f3 rfl, by simpa using hf 4 f4 rfl⟩
set_option maxRecDepth 100000 in
/-- A packet, read off an argument. -/
theorem open_packet {H : Type} {enc : TypeId × Value → H} {W : World} {b0 base : Nat} {spare : Nat → Bool} {held : Bool} {v : Value} {d : DataW H} {p : List MemPlace} {r : Reach}
    (hv : Value.okWide Tryd.prog W r b0 25 v) (h : DataW.Trod enc Tryd.prog W base spare held 25 v d p) : ∃ x : It, v = .agg x.cells := by
  obtain ⟨cs, rfl, hsz⟩ := okWide_struct Tryd.underlying25 hv
  rw [cellsItem] at hsz
  obtain ⟨l⟩ := cs
  obtain ⟨c0, c1, c2, c3, c4, rfl⟩ := list5 hsz
  obtain ⟨fuel, hf⟩ := h
  obtain ⟨y0, y1, y2, y3, y4, n, _, k0, k1, k2, k3, k4⟩ := trod5 Tryd.underlying25 hf
  simp only [Value.cells, cellsInt, List.drop_zero, List.drop_succ_cons, List.take_succ_cons, List.take_zero] at k0 k1 k2 k3 k4
  obtain ⟨a, e0, _, _⟩ := DataW.trod_int Tryd.underlying3 k0
  obtain ⟨l, e1, _, _⟩ := DataW.trod_int Tryd.underlying3 k1
  obtain ⟨f, e2, _, _⟩ := DataW.trod_int Tryd.underlying3 k2
  obtain ⟨b, e3, _, _⟩ := DataW.trod_int Tryd.underlying3 k3
  obtain ⟨m, e4, _, _⟩ := DataW.trod_int Tryd.underlying3 k4
  simp only [List.cons.injEq, and_true] at e0 e1 e2 e3 e4
  exact ⟨⟨a, l, f, b, m⟩, by rw [e0, e1, e2, e3, e4]; rfl⟩
set_option maxRecDepth 100000 in
/-- Three cells that read as an action. -/
theorem open_act {H : Type} {enc : TypeId × Value → H} {W : World} {base fuel : Nat} {spare : Nat → Bool} {held : Bool} {cs : List Value} {y : DataW H × List MemPlace}
    (h : DataW.trod enc Tryd.prog W base spare held fuel 38 cs = some y) : ∃ x : Ac, cs = x.cells ∧ x.fit := by
  obtain ⟨y0, y1, y2, n, _, hl, k0, k1, k2⟩ := Go.Deep.trod_struct3 Tryd.underlying38 h
  rw [cellsAc] at hl
  match cs, hl with
  | [c0, c1, c2], _ =>
    simp only [cellsInt, List.drop_zero, List.drop_succ_cons, List.take_succ_cons, List.take_zero] at k0 k1 k2
    obtain ⟨a0, e0, _, w0⟩ := DataW.trod_int Tryd.underlying3 k0
    obtain ⟨a1, e1, _, _⟩ := DataW.trod_int Tryd.underlying3 k1
    obtain ⟨a2, e2, _, _⟩ := DataW.trod_int Tryd.underlying3 k2
    simp only [List.cons.injEq, and_true] at e0 e1 e2
    simp [Lit.wf, IntKind.min, IntKind.max, IntKind.bits, IntKind.signed] at w0
    exact ⟨⟨a0, a1, a2⟩, by rw [e0, e1, e2]; rfl, ⟨by simp only; omega, by simp only; omega⟩⟩

set_option maxRecDepth 100000 in
/-- open_acts, read off an argument. -/
theorem open_acts {H : Type} {enc : TypeId × Value → H} {W : World} {b0 base : Nat} {spare : Nat → Bool} {held : Bool} {v : Value} {d : DataW H} {p : List MemPlace} {r : Reach}
    (hv : Value.okWide Tryd.prog W r b0 22 v) (h : DataW.Trod enc Tryd.prog W base spare held 22 v d p) :
    ∃ (x : Option Addr) (cap : Nat) (L : List Ac), v = .slice x L.length cap ∧ ArgAt Ac.cells W x L ∧ (x = none → L = [] ∧ cap = 0) ∧ L.length ≤ maxLen ∧ ∀ x ∈ L, x.fit := by
  obtain ⟨a0, len, cap, rfl⟩ := okWide_slice Tryd.underlying22 hv
  obtain ⟨fuel, hf⟩ := h
  rcases Go.Deep.open_slice Tryd.underlying22 hf with ⟨hcs, _⟩ | ⟨a, len', cap', m, n, D, Pl, hcs, _, hl, hm, hmm, _, hel⟩
  · simp [Value.cells] at hcs
    obtain ⟨rfl, rfl, rfl⟩ := hcs
    exact ⟨none, 0, [], rfl, Or.inl rfl, fun _ => ⟨rfl, rfl⟩, by simp, by simp⟩
  · simp [Value.cells] at hcs
    obtain ⟨rfl, rfl, rfl⟩ := hcs
    by_cases h0 : len = 0
    · subst h0; exact ⟨_, _, [], rfl, Or.inl rfl, fun h => by simp at h, by simp, by simp⟩
    have hlm : len ≤ m := by rw [hmm]; split <;> omega
    obtain ⟨b, off, spot⟩ := a
    have hspot : spot = none := by
      obtain ⟨cs', hc, ht⟩ := hel 0 (by omega)
      rw [cellsAc] at hc
      obtain ⟨x, rfl, _⟩ := open_act ht
      obtain ⟨_, _, hcell⟩ := World.cells?_some hc
      have := hcell 0 (by omega)
      simp only [Ac.cells, Nat.zero_mul, Go.Deep.add_add, Nat.add_zero, List.getElem?_cons_zero] at this
      simpa [Addr.add] using World.cell?_spot this
    subst hspot
    have hex : ∀ i : Fin len, ∃ x : Ac, (∀ j, j < 3 → W.cell? ⟨b, off + i.1 * 3 + j, none⟩ = x.cells[j]?) ∧ x.fit := by
      intro ⟨i, hi⟩
      obtain ⟨cs', hc, ht⟩ := hel i (by omega)
      rw [cellsAc] at hc
      obtain ⟨x, rfl, hx⟩ := open_act ht
      obtain ⟨_, _, hcell⟩ := World.cells?_some hc
      refine ⟨x, fun j hj => ?_, hx⟩
      have := hcell j hj
      rw [add_plain, add_plain] at this
      exact this
    let g : Fin len → Ac := fun i => Classical.choose (hex i)
    have hg : ∀ i, _ := fun i => Classical.choose_spec (hex i)
    have hgi : ∀ (i : Nat) (x : Ac), (List.ofFn g)[i]? = some x → ∃ hi : i < len, x = g ⟨i, hi⟩ := by
      intro i x hix
      have hi : i < len := by
        have := (List.getElem?_eq_some_iff.1 hix).1
        simpa using this
      refine ⟨hi, ?_⟩
      rw [List.getElem?_ofFn] at hix
      simp [hi] at hix
      exact hix.symm
    have hb : b < W.heap.size := by
      have h1 := (hg ⟨0, by omega⟩).1 0 (by omega)
      exact World.block_lt_of_cell? W _ (u := _) (h1.trans rfl)
    refine ⟨some ⟨b, off, none⟩, cap, List.ofFn g, by simp, Or.inr ⟨b, off, rfl, hb, ?_⟩, fun h => by simp at h, by simp; omega, ?_⟩
    · intro j u hj
      have hlen : j < (List.ofFn g).length * 3 := by
        have := (List.getElem?_eq_some_iff.1 hj).1
        rwa [flt_length Ac.cells 3 Ac.cells_len] at this
      have hi : j / 3 < len := by rw [List.length_ofFn] at hlen; omega
      have hx : (List.ofFn g)[j / 3]? = some (g ⟨j / 3, hi⟩) := by rw [List.getElem?_ofFn]; simp [hi]
      have hd : j / 3 * 3 + j % 3 = j := by omega
      rw [← hd, flt_at Ac.cells 3 Ac.cells_len hx (by omega)] at hj
      have := (hg ⟨j / 3, hi⟩).1 (j % 3) (by omega)
      rw [Nat.add_assoc, hd] at this
      exact this.trans hj
    · intro x hx
      obtain ⟨i, hi⟩ := List.mem_iff_getElem?.1 hx
      obtain ⟨hi', rfl⟩ := hgi i x hi
      exact (hg ⟨i, hi'⟩).2
theorem cellsRate : Tryd.prog.cellsOf 50 = 2 := by kernel_rfl
theorem cellsBucket : Tryd.prog.cellsOf 52 = 3 := by kernel_rfl
set_option maxRecDepth 100000 in
/-- Three cells that read as a bucket. -/
theorem open_bk {H : Type} {enc : TypeId × Value → H} {W : World} {base fuel : Nat} {spare : Nat → Bool} {held : Bool} {cs : List Value} {y : DataW H × List MemPlace}
    (h : DataW.trod enc Tryd.prog W base spare held fuel 52 cs = some y) : ∃ x : Bk, cs = x.cells := by
  obtain ⟨y0, y1, n, _, hl, h0, h1⟩ := trod_struct2 Tryd.underlying52 h
  rw [cellsBucket] at hl
  match cs, hl with
  | [c0, c1, c2], _ =>
    simp only [cellsRate, cellsInt, List.drop_zero, List.drop_succ_cons, List.take_succ_cons, List.take_zero] at h0 h1
    obtain ⟨z0, z1, m, _, _, k0, k1⟩ := trod_struct2 Tryd.underlying50 h0
    simp only [cellsInt, List.drop_zero, List.drop_succ_cons, List.take_succ_cons, List.take_zero] at k0 k1
    obtain ⟨a0, e0, _, _⟩ := DataW.trod_int Tryd.underlying3 k0
    obtain ⟨a1, e1, _, _⟩ := DataW.trod_int Tryd.underlying3 k1
    obtain ⟨a2, e2, _, _⟩ := DataW.trod_int Tryd.underlying3 h1
    simp only [List.cons.injEq, and_true] at e0 e1 e2
    exact ⟨⟨a0, a1, a2⟩, by rw [e0, e1, e2]; rfl⟩

set_option maxRecDepth 100000 in
/-- open_bks, read off an argument. -/
theorem open_bks {H : Type} {enc : TypeId × Value → H} {W : World} {b0 base : Nat} {spare : Nat → Bool} {held : Bool} {v : Value} {d : DataW H} {p : List MemPlace} {r : Reach}
    (hv : Value.okWide Tryd.prog W r b0 23 v) (h : DataW.Trod enc Tryd.prog W base spare held 23 v d p) :
    ∃ (x : Option Addr) (cap : Nat) (L : List Bk), v = .slice x L.length cap ∧ ArgAt Bk.cells W x L ∧ (x = none → L = [] ∧ cap = 0) ∧ L.length ≤ maxLen := by
  obtain ⟨a0, len, cap, rfl⟩ := okWide_slice Tryd.underlying23 hv
  obtain ⟨fuel, hf⟩ := h
  rcases Go.Deep.open_slice Tryd.underlying23 hf with ⟨hcs, _⟩ | ⟨a, len', cap', m, n, D, Pl, hcs, _, hl, hm, hmm, _, hel⟩
  · simp [Value.cells] at hcs
    obtain ⟨rfl, rfl, rfl⟩ := hcs
    exact ⟨none, 0, [], rfl, Or.inl rfl, fun _ => ⟨rfl, rfl⟩, by simp⟩
  · simp [Value.cells] at hcs
    obtain ⟨rfl, rfl, rfl⟩ := hcs
    by_cases h0 : len = 0
    · subst h0; exact ⟨_, _, [], rfl, Or.inl rfl, fun h => by simp at h, by simp⟩
    have hlm : len ≤ m := by rw [hmm]; split <;> omega
    obtain ⟨b, off, spot⟩ := a
    have hspot : spot = none := by
      obtain ⟨cs', hc, ht⟩ := hel 0 (by omega)
      rw [cellsBucket] at hc
      obtain ⟨x, rfl⟩ := open_bk ht
      obtain ⟨_, _, hcell⟩ := World.cells?_some hc
      have := hcell 0 (by omega)
      simp only [Bk.cells, Nat.zero_mul, Go.Deep.add_add, Nat.add_zero, List.getElem?_cons_zero] at this
      simpa [Addr.add] using World.cell?_spot this
    subst hspot
    have hex : ∀ i : Fin len, ∃ x : Bk, (∀ j, j < 3 → W.cell? ⟨b, off + i.1 * 3 + j, none⟩ = x.cells[j]?) := by
      intro ⟨i, hi⟩
      obtain ⟨cs', hc, ht⟩ := hel i (by omega)
      rw [cellsBucket] at hc
      obtain ⟨x, rfl⟩ := open_bk ht
      obtain ⟨_, _, hcell⟩ := World.cells?_some hc
      refine ⟨x, fun j hj => ?_⟩
      have := hcell j hj
      rw [add_plain, add_plain] at this
      exact this
    let g : Fin len → Bk := fun i => Classical.choose (hex i)
    have hg : ∀ i, _ := fun i => Classical.choose_spec (hex i)
    have hgi : ∀ (i : Nat) (x : Bk), (List.ofFn g)[i]? = some x → ∃ hi : i < len, x = g ⟨i, hi⟩ := by
      intro i x hix
      have hi : i < len := by
        have := (List.getElem?_eq_some_iff.1 hix).1
        simpa using this
      refine ⟨hi, ?_⟩
      rw [List.getElem?_ofFn] at hix
      simp [hi] at hix
      exact hix.symm
    have hb : b < W.heap.size := by
      have h1 := (hg ⟨0, by omega⟩) 0 (by omega)
      exact World.block_lt_of_cell? W _ (u := _) (h1.trans rfl)
    refine ⟨some ⟨b, off, none⟩, cap, List.ofFn g, by simp, Or.inr ⟨b, off, rfl, hb, ?_⟩, fun h => by simp at h, by simp; omega⟩
    · intro j u hj
      have hlen : j < (List.ofFn g).length * 3 := by
        have := (List.getElem?_eq_some_iff.1 hj).1
        rwa [flt_length Bk.cells 3 Bk.cells_len] at this
      have hi : j / 3 < len := by rw [List.length_ofFn] at hlen; omega
      have hx : (List.ofFn g)[j / 3]? = some (g ⟨j / 3, hi⟩) := by rw [List.getElem?_ofFn]; simp [hi]
      have hd : j / 3 * 3 + j % 3 = j := by omega
      rw [← hd, flt_at Bk.cells 3 Bk.cells_len hx (by omega)] at hj
      have := (hg ⟨j / 3, hi⟩) (j % 3) (by omega)
      rw [Nat.add_assoc, hd] at this
      exact this.trans hj
/-- A world that meets the condition: the settled one, the variable's cell laid. -/
def lay (w0 : World) : World :=
  { w0 with heap := w0.heap.modify 0 fun
      | .cells _ t frozen => .cells #[.iface 88 (.agg #[.pointer (some ⟨1, 28, none⟩)])] t frozen
      | o => o }
end Go.Proofs.YtnoppfgikanebaaDoor
