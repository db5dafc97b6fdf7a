/-
  What the rows' proofs share: the variable errors.errorType as the walks take it, a bucket and a list of packets read off the arguments. Nothing is claimed here by itself.
-/
import Derived.Test.YtpgdocmpbeabpaaDoorRows
import Derived.Test.YtpgdocmpbeabpaaDoorTie
import Derived.Test.YtpgdocmpbeabpaaDoorCards
import Derived.Test.YtpgdocmpbeabpaaDoorU3
import Derived.ChangeSame
import Derived.ChangeVars
import Derived.JoinedOf
import Derived.RowKit
import Derived.RowKitTokens
import Derived.LaidLaws
import Derived.LaidHandle
import Derived.Carry
import Derived.Stop.Joined
import Derived.SevenTiedAt
import Derived.Lib.SmallJoins
namespace Go.Proofs.YtpgdocmpbeabpaaDoor
open Go.ChangeShapes Go.WideShapes Go.RowKit

theorem own : ownKnob Tryd.prog.godebug = none := by kernel_rfl
theorem laidOut : laidOutB Tryd.prog = true := by kernel_rfl
theorem et : Tryd.prog.globalNamed "errors.errorType" = some 0 := by kernel_rfl
theorem oneRow : ((List.range 181).filter fun t => Tryd.prog.rowNamed t [101, 114, 114, 111, 114]) = [26] := by kernel_rfl
theorem tsize : Tryd.prog.types.size = 181 := by kernel_rfl

/-- What a met handle gives a walk: the variable's one cell. -/
theorem laid_of_handles {W : World} {hs : List (String × DataW Unit)} (h : handlesMet Tryd.prog hs W) (hm : ("errors.errorType", Rows.laid_errors_errorType) ∈ hs) : Laid W := by
  obtain ⟨name, u, ty, e1, e2, e3, e4, e5⟩ := h _ hm
  have en : name = [101, 114, 114, 111, 114] := (Option.some.inj e1).symm
  subst en
  obtain rfl : 134 = u := Option.some.inj (Eq.trans (Eq.symm (by kernel_rfl)) e2)
  have hm : ty ∈ (List.range 181).filter fun t => Tryd.prog.rowNamed t [101, 114, 114, 111, 114] := List.mem_filter.2 ⟨List.mem_range.2 (by rw [← tsize]; exact e3), e4⟩
  rw [oneRow] at hm
  obtain rfl := List.mem_singleton.1 hm
  have hh : typeHandle Tryd.prog 26 = .pointer (some ⟨1, 26, none⟩) := by kernel_rfl
  rw [hh] at e5
  unfold Laid
  simpa using World.var?_cell et e5 0

theorem add_plain (b off n : Nat) : (⟨b, off, none⟩ : Addr).add n = ⟨b, off + n, none⟩ := by
  by_cases h : n = 0
  · subst h; simp [Addr.add]
  · simp [Addr.add, h]
theorem cellsItem : Tryd.prog.cellsOf 37 = 5 := by kernel_rfl
theorem cellsInt : Tryd.prog.cellsOf 3 = 1 := by kernel_rfl
theorem list5 {α : Type} {l : List α} (h : l.length = 5) : ∃ a b c d e, l = [a, b, c, d, e] := by
  match l, h with
  | [a, b, c, d, e], _ => exact ⟨a, b, c, d, e, rfl⟩

theorem trod5 {H : Type} {enc : TypeId × Value → H} {P : Program} {w : World} {base : Nat} {spare : Nat → Bool} {held : Bool} {t : TypeId} {f0 f1 f2 f3 f4 : Field} {fuel : Nat} {cs : List Value} {x : DataW H × List MemPlace} (ht : P.underlying t = some (.struct #[f0, f1, f2, f3, f4])) (h : DataW.trod enc P w base spare held fuel t cs = some x) :
    ∃ y0 y1 y2 y3 y4 n, cs.length = P.cellsOf t ∧ DataW.trod enc P w base spare held n f0.type ((cs.drop f0.offset).take (P.cellsOf f0.type)) = some y0 ∧ DataW.trod enc P w base spare held n f1.type ((cs.drop f1.offset).take (P.cellsOf f1.type)) = some y1 ∧
      DataW.trod enc P w base spare held n f2.type ((cs.drop f2.offset).take (P.cellsOf f2.type)) = some y2 ∧ DataW.trod enc P w base spare held n f3.type ((cs.drop f3.offset).take (P.cellsOf f3.type)) = some y3 ∧ DataW.trod enc P w base spare held n f4.type ((cs.drop f4.offset).take (P.cellsOf f4.type)) = some y4 := by
  obtain ⟨xs, n, _, rfl, hl, hlen, hf⟩ := DataW.trod_struct ht h
  obtain ⟨y0, y1, y2, y3, y4, rfl⟩ := list5 hlen
  exact ⟨y0, y1, y2, y3, y4, n, hl, by simpa using hf 0 f0 rfl, by simpa using hf 1 f1 rfl, by simpa using hf 2 f2 rfl, by simpa using hf 3 f3 rfl, by simpa using hf 4 f4 rfl⟩

set_option maxRecDepth 100000 in
/-- Five cells that read as a packet. -/
theorem open_item {H : Type} {enc : TypeId × Value → H} {W : World} {base fuel : Nat} {spare : Nat → Bool} {held : Bool} {cs : List Value} {y : DataW H × List MemPlace}
    (h : DataW.trod enc Tryd.prog W base spare held fuel 37 cs = some y) : ∃ x : It, cs = [.int .i64 x.a, .int .i64 x.l, .int .i64 x.f, .int .i64 x.b, .int .i64 x.m] := by
  obtain ⟨y0, y1, y2, y3, y4, n, hl, k0, k1, k2, k3, k4⟩ := trod5 Tryd.underlying37 h
  rw [cellsItem] at hl
  obtain ⟨c0, c1, c2, c3, c4, rfl⟩ := list5 hl
  simp only [cellsInt, List.drop_zero, List.drop_succ_cons, List.take_succ_cons, List.take_zero] at k0 k1 k2 k3 k4
  obtain ⟨a, e0, _, _⟩ := DataW.trod_int Tryd.underlying3 k0
  obtain ⟨l, e1, _, _⟩ := DataW.trod_int Tryd.underlying3 k1
  obtain ⟨f, e2, _, _⟩ := DataW.trod_int Tryd.underlying3 k2
  obtain ⟨b, e3, _, _⟩ := DataW.trod_int Tryd.underlying3 k3
  obtain ⟨m, e4, _, _⟩ := DataW.trod_int Tryd.underlying3 k4
  simp only [List.cons.injEq, and_true] at e0 e1 e2 e3 e4
  exact ⟨⟨a, l, f, b, m⟩, by rw [e0, e1, e2, e3, e4]⟩

set_option maxRecDepth 100000 in
/-- A slice of packets, read off an argument. -/
theorem open_items {H : Type} {enc : TypeId × Value → H} {W : World} {b0 base : Nat} {spare : Nat → Bool} {held : Bool} {v : Value} {d : DataW H} {p : List MemPlace} {r : Reach}
    (hv : Value.okWide Tryd.prog W r b0 35 v) (h : DataW.Trod enc Tryd.prog W base spare held 35 v d p) :
    ∃ (x : Option Addr) (cap : Nat) (xs : List It), v = .slice x xs.length cap ∧ ItemsAt W x xs ∧ xs.length ≤ maxLen := by
  obtain ⟨a0, len, cap, rfl⟩ := okWide_slice Tryd.underlying35 hv
  obtain ⟨fuel, hf⟩ := h
  rcases Go.Deep.open_slice Tryd.underlying35 hf with ⟨hcs, _⟩ | ⟨a, len', cap', m, n, D, Pl, hcs, _, hl, hm, hmm, _, hel⟩
  · simp [Value.cells] at hcs
    obtain ⟨rfl, rfl, rfl⟩ := hcs
    exact ⟨none, 0, [], rfl, Or.inl rfl, by simp⟩
  · simp [Value.cells] at hcs
    obtain ⟨rfl, rfl, rfl⟩ := hcs
    by_cases h0 : len = 0
    · subst h0; exact ⟨_, _, [], rfl, Or.inl rfl, by simp⟩
    have hlm : len ≤ m := by rw [hmm]; split <;> omega
    obtain ⟨b, off, spot⟩ := a
    have hspot : spot = none := by
      obtain ⟨cs', hc, ht⟩ := hel 0 (by omega)
      rw [cellsItem] at hc
      obtain ⟨x, rfl⟩ := open_item ht
      obtain ⟨_, _, hcell⟩ := World.cells?_some hc
      have := hcell 0 (by omega)
      simp only [Nat.zero_mul, Go.Deep.add_add, Nat.add_zero, List.getElem?_cons_zero] at this
      simpa [Addr.add] using World.cell?_spot this
    subst hspot
    have hx : ∀ i, i < len → ∃ x : It, W.cell? ⟨b, off + i * 5, none⟩ = some (.int .i64 x.a) ∧ W.cell? ⟨b, off + i * 5 + 1, none⟩ = some (.int .i64 x.l) ∧ W.cell? ⟨b, off + i * 5 + 2, none⟩ = some (.int .i64 x.f) ∧ W.cell? ⟨b, off + i * 5 + 3, none⟩ = some (.int .i64 x.b) ∧ W.cell? ⟨b, off + i * 5 + 4, none⟩ = some (.int .i64 x.m) := by
      intro i hi
      obtain ⟨cs', hc, ht⟩ := hel i (by omega)
      rw [cellsItem] at hc
      obtain ⟨x, rfl⟩ := open_item ht
      obtain ⟨_, _, hcell⟩ := World.cells?_some hc
      have k : ∀ j, j < 5 → W.cell? ⟨b, off + i * 5 + j, none⟩ = [Value.int .i64 x.a, .int .i64 x.l, .int .i64 x.f, .int .i64 x.b, .int .i64 x.m][j]? := by
        intro j hj
        have := hcell j hj
        rw [add_plain, add_plain] at this
        exact this
      exact ⟨x, k 0 (by omega), k 1 (by omega), k 2 (by omega), k 3 (by omega), k 4 (by omega)⟩
    have hex : ∀ i : Fin len, ∃ x : It, W.cell? ⟨b, off + i.1 * 5, none⟩ = some (.int .i64 x.a) ∧ W.cell? ⟨b, off + i.1 * 5 + 1, none⟩ = some (.int .i64 x.l) ∧ W.cell? ⟨b, off + i.1 * 5 + 2, none⟩ = some (.int .i64 x.f) ∧ W.cell? ⟨b, off + i.1 * 5 + 3, none⟩ = some (.int .i64 x.b) ∧ W.cell? ⟨b, off + i.1 * 5 + 4, none⟩ = some (.int .i64 x.m) := fun i => hx i.1 i.2
    let g : Fin len → It := fun i => Classical.choose (hex i)
    have hg : ∀ i, _ := fun i => Classical.choose_spec (hex i)
    refine ⟨some ⟨b, off, none⟩, cap, List.ofFn g, by simp, Or.inr ⟨b, off, rfl, ?_⟩, by simp; omega⟩
    intro i x hix
    have hi : i < len := by
      have := (List.getElem?_eq_some_iff.1 hix).1
      simpa using this
    have : x = g ⟨i, hi⟩ := by
      rw [List.getElem?_ofFn] at hix
      simp [hi] at hix
      exact hix.symm
    subst this
    exact hg ⟨i, hi⟩

/-- A nil slice has no room. -/
theorem nil_cap {H : Type} {enc : TypeId × Value → H} {W : World} {base : Nat} {spare : Nat → Bool} {held : Bool} {x : Option Addr} {n cap : Nat} {d : DataW H} {p : List MemPlace}
    (h : DataW.Trod enc Tryd.prog W base spare held 35 (.slice x n cap) d p) : x = none → cap = 0 := by
  rintro rfl
  obtain ⟨fuel, hf⟩ := h
  rcases Go.Deep.open_slice Tryd.underlying35 hf with ⟨hcs, _⟩ | ⟨a, len', cap', m, n, D, Pl, hcs, _⟩
  · simp [Value.cells] at hcs
    exact hcs.2
  · simp [Value.cells] at hcs
theorem cellsRate : Tryd.prog.cellsOf 44 = 2 := by kernel_rfl
theorem cellsBucket : Tryd.prog.cellsOf 46 = 3 := by kernel_rfl
set_option maxRecDepth 100000 in
/-- A bucket, read off an argument. -/
theorem open_bucket {H : Type} {enc : TypeId × Value → H} {W : World} {b0 base : Nat} {spare : Nat → Bool} {held : Bool} {v : Value} {d : DataW H} {p : List MemPlace} {r : Reach}
    (hv : Value.okWide Tryd.prog W r b0 46 v) (h : DataW.Trod enc Tryd.prog W base spare held 46 v d p) :
    ∃ n t R : Int, v = .agg #[.int .i64 n, .int .i64 t, .int .i64 R] := by
  obtain ⟨cs, rfl, hsz⟩ := okWide_struct Tryd.underlying46 hv
  rw [cellsBucket] at hsz
  obtain ⟨l⟩ := cs
  match l, hsz with
  | [c0, c1, c2], _ =>
    obtain ⟨fuel, hf⟩ := h
    obtain ⟨y0, y1, n, hx, _, h0, h1⟩ := trod_struct2 Tryd.underlying46 hf
    simp only [Value.cells, cellsRate, cellsInt, List.drop_zero, List.drop_succ_cons, List.take_succ_cons, List.take_zero] at h0 h1
    obtain ⟨z0, z1, m, _, _, k0, k1⟩ := trod_struct2 Tryd.underlying44 h0
    simp only [cellsInt, List.drop_zero, List.drop_succ_cons, List.take_succ_cons, List.take_zero] at k0 k1
    obtain ⟨a0, e0, _, _⟩ := DataW.trod_int Tryd.underlying3 k0
    obtain ⟨a1, e1, _, _⟩ := DataW.trod_int Tryd.underlying3 k1
    obtain ⟨a2, e2, _, _⟩ := DataW.trod_int Tryd.underlying3 h1
    simp only [List.cons.injEq, and_true] at e0 e1 e2
    exact ⟨a0, a1, a2, by rw [e0, e1, e2]⟩

/-- A world that meets the condition: the settled one, the variable's cell laid. -/
def lay (w0 : World) : World :=
  { w0 with heap := w0.heap.modify 0 fun
      | .cells _ t frozen => .cells #[.iface 134 (.agg #[.pointer (some ⟨1, 26, none⟩)])] t frozen
      | o => o }
end Go.Proofs.YtpgdocmpbeabpaaDoor
