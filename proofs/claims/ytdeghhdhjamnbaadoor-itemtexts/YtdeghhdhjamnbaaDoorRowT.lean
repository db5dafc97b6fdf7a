/-
  Packets read off an argument, their numbers of 64 bits; the table of powers of ten as the walks take it. Nothing is claimed here by itself.
-/
import Derived.Test.YtdeghhdhjamnbaaDoorRow
import Derived.Test.YtdeghhdhjamnbaaDoorRefText
import Derived.Lib.LaidTab
import Derived.Stop.LaidErr
namespace Go.Proofs.YtdeghhdhjamnbaaDoor
open Go.ChangeShapes Go.WideShapes Go.RowKit

theorem inI64_of_wf {n : Int} (h : (Lit.int .i64 n).wf = true) : inI64 n := by
  simp [Lit.wf, IntKind.min, IntKind.max, IntKind.bits, IntKind.signed] at h
  unfold inI64; omega

set_option maxRecDepth 100000 in
theorem open_item_wf {H : Type} {enc : TypeId × Value → H} {W : World} {base fuel : Nat} {spare : Nat → Bool} {held : Bool} {cs : List Value} {y : DataW H × List MemPlace}
    (h : DataW.trod enc Tryd.prog W base spare held fuel 28 cs = some y) : ∃ x : It, x.wf ∧ cs = [.int .i64 x.a, .int .i64 x.l, .int .i64 x.f, .int .i64 x.b, .int .i64 x.m] := by
  obtain ⟨y0, y1, y2, y3, y4, n, hl, k0, k1, k2, k3, k4⟩ := trod5 Tryd.underlying28 h
  rw [cellsItem] at hl
  obtain ⟨c0, c1, c2, c3, c4, rfl⟩ := list5 hl
  simp only [cellsInt, List.drop_zero, List.drop_succ_cons, List.take_succ_cons, List.take_zero] at k0 k1 k2 k3 k4
  obtain ⟨a, e0, _, w0⟩ := DataW.trod_int Tryd.underlying3 k0
  obtain ⟨l, e1, _, w1⟩ := DataW.trod_int Tryd.underlying3 k1
  obtain ⟨f, e2, _, w2⟩ := DataW.trod_int Tryd.underlying3 k2
  obtain ⟨b, e3, _, w3⟩ := DataW.trod_int Tryd.underlying3 k3
  obtain ⟨m, e4, _, w4⟩ := DataW.trod_int Tryd.underlying3 k4
  simp only [List.cons.injEq, and_true] at e0 e1 e2 e3 e4
  exact ⟨⟨a, l, f, b, m⟩, ⟨inI64_of_wf w0, inI64_of_wf w1, inI64_of_wf w2, inI64_of_wf w3, inI64_of_wf w4⟩, by rw [e0, e1, e2, e3, e4]⟩

set_option maxRecDepth 100000 in
/-- A slice of packets, read off an argument; each number is of 64 bits. -/
theorem open_items_wf {H : Type} {enc : TypeId × Value → H} {W : World} {b0 base : Nat} {spare : Nat → Bool} {held : Bool} {v : Value} {d : DataW H} {p : List MemPlace} {r : Reach}
    (hv : Value.okWide Tryd.prog W r b0 22 v) (h : DataW.Trod enc Tryd.prog W base spare held 22 v d p) :
    ∃ (x : Option Addr) (cap : Nat) (xs : List It), v = .slice x xs.length cap ∧ ItemsAt W x xs ∧ xs.length ≤ maxLen ∧ ∀ y ∈ xs, y.wf := by
  obtain ⟨a0, len, cap, rfl⟩ := okWide_slice Tryd.underlying22 hv
  obtain ⟨fuel, hf⟩ := h
  rcases Go.Deep.open_slice Tryd.underlying22 hf with ⟨hcs, _⟩ | ⟨a, len', cap', m, n, D, Pl, hcs, _, hl, hm, hmm, _, hel⟩
  · simp [Value.cells] at hcs
    obtain ⟨rfl, rfl, rfl⟩ := hcs
    exact ⟨none, 0, [], rfl, Or.inl rfl, by simp, by simp⟩
  · simp [Value.cells] at hcs
    obtain ⟨rfl, rfl, rfl⟩ := hcs
    by_cases h0 : len = 0
    · subst h0; exact ⟨_, _, [], rfl, Or.inl rfl, by simp, by simp⟩
    have hlm : len ≤ m := by rw [hmm]; split <;> omega
    obtain ⟨b, off, spot⟩ := a
    have hspot : spot = none := by
      obtain ⟨cs', hc, ht⟩ := hel 0 (by omega)
      rw [cellsItem] at hc
      obtain ⟨x, _, rfl⟩ := open_item_wf ht
      obtain ⟨_, _, hcell⟩ := World.cells?_some hc
      have := hcell 0 (by omega)
      simp only [Nat.zero_mul, Go.Deep.add_add, Nat.add_zero, List.getElem?_cons_zero] at this
      simpa [Addr.add] using World.cell?_spot this
    subst hspot
    have hex : ∀ i : Fin len, ∃ x : It, x.wf ∧ W.cell? ⟨b, off + i.1 * 5, none⟩ = some (.int .i64 x.a) ∧ W.cell? ⟨b, off + i.1 * 5 + 1, none⟩ = some (.int .i64 x.l) ∧ W.cell? ⟨b, off + i.1 * 5 + 2, none⟩ = some (.int .i64 x.f) ∧ W.cell? ⟨b, off + i.1 * 5 + 3, none⟩ = some (.int .i64 x.b) ∧ W.cell? ⟨b, off + i.1 * 5 + 4, none⟩ = some (.int .i64 x.m) := by
      intro i
      have hi := i.2
      obtain ⟨cs', hc, ht⟩ := hel i.1 (by omega)
      rw [cellsItem] at hc
      obtain ⟨x, hxw, rfl⟩ := open_item_wf ht
      obtain ⟨_, _, hcell⟩ := World.cells?_some hc
      have k : ∀ j, j < 5 → W.cell? ⟨b, off + i.1 * 5 + j, none⟩ = [Value.int .i64 x.a, .int .i64 x.l, .int .i64 x.f, .int .i64 x.b, .int .i64 x.m][j]? := by
        intro j hj
        have := hcell j hj
        rw [add_plain, add_plain] at this
        exact this
      exact ⟨x, hxw, k 0 (by omega), k 1 (by omega), k 2 (by omega), k 3 (by omega), k 4 (by omega)⟩
    let g : Fin len → It := fun i => Classical.choose (hex i)
    have hg : ∀ i, _ := fun i => Classical.choose_spec (hex i)
    refine ⟨some ⟨b, off, none⟩, cap, List.ofFn g, by simp, Or.inr ⟨b, off, rfl, ?_⟩, by simp; omega, ?_⟩
    · intro i x hix
      have hi : i < len := by
        have := (List.getElem?_eq_some_iff.1 hix).1
        simpa using this
      have : x = g ⟨i, hi⟩ := by
        rw [List.getElem?_ofFn] at hix
        simp [hi] at hix
        exact hix.symm
      subst this
      exact (hg ⟨i, hi⟩).2
    · intro y hy
      obtain ⟨i, rfl⟩ := List.mem_ofFn.1 hy
      exact (hg i).1

theorem powG : Tryd.prog.globalNamed "internal/strconv.uint64pow10" = some 5 := by kernel_rfl
theorem powT : (Tryd.prog.globals[5]?).map (·.type) = some 186 := by kernel_rfl
theorem cellsU64 : Tryd.prog.cellsOf 140 = 1 := by kernel_rfl
theorem cellsPow : Tryd.prog.cellsOf 186 = 20 := by kernel_rfl
theorem powData : Rows.laid_internal_strconv_uint64pow10 = (Lib.tabData .u64 Lib.pow10Tab : DataW Unit) := by kernel_rfl

/-- The powers of ten, out of a list that opens with them. -/
theorem tab_of_laid {W : World} {r : List (String × DataW Unit)} (h : laidMet Tryd.prog (("internal/strconv.uint64pow10", Rows.laid_internal_strconv_uint64pow10) :: r) W) : Tab W := by
  rw [powData] at h
  exact Lib.tabIs_of_head powG powT Tryd.underlying186 Tryd.underlying140 cellsU64 cellsPow h
end Go.Proofs.YtdeghhdhjamnbaaDoor
