/-
  What the rows' proofs share: the variable errors.errorType as the walks take it, a slice of steps read off an argument. Nothing is claimed here by itself.
  What the rows' proofs of package htb share: classes read off an argument. Nothing is claimed here by itself.
-/
import Derived.Test.YtpgdocmpbeabpaaDoorRows
import Derived.Test.YtpgdocmpbeabpaaDoorTie
import Derived.Test.YtpgdocmpbeabpaaDoorCards
import Derived.Test.YtpgdocmpbeabpaaDoorU2
import Derived.Test.YtpgdocmpbeabpaaDoorTm
import Derived.OpenShut
import Derived.WalkKit
import Derived.ProofKit
import Derived.Deep.Strs
import Derived.ChangeSame
import Derived.ChangeVars
import Derived.JoinedOf
import Derived.RowKit
import Derived.RowKitTokens
import Derived.LaidLaws
import Derived.LaidHandle
import Derived.Carry
import Derived.Stop.Joined
import Derived.SevenTiedAt
import Derived.Deep.Slices
import Derived.Lib.SmallJoins
import Derived.Test.YtpgdocmpbeabpaaDoorU14
namespace Go.Proofs.YtpgdocmpbeabpaaDoor
open Go.ChangeShapes Go.WideShapes Go.ChangeAt Go.RowKit

theorem own : ownKnob Tryd.prog.godebug = none := by kernel_rfl
theorem laidOut : laidOutB Tryd.prog = true := by kernel_rfl
theorem et : Tryd.prog.globalNamed "errors.errorType" = some 0 := by kernel_rfl
theorem oneRow : ((List.range 181).filter fun t => Tryd.prog.rowNamed t [101, 114, 114, 111, 114]) = [26] := by kernel_rfl
theorem tsize : Tryd.prog.types.size = 181 := by kernel_rfl

/-- What a met handle gives a walk: the variable's one cell. -/
theorem laid_of_handles {W : World} {hs : List (String × DataW Unit)} (h : handlesMet Tryd.prog hs W) (hm : ("errors.errorType", Rows.laid_errors_errorType) ∈ hs) : Laid W := by
  obtain ⟨name, u, ty, e1, e2, e3, e4, e5⟩ := h _ hm
  have en : name = [101, 114, 114, 111, 114] := (Option.some.inj e1).symm
  subst en
  obtain rfl : 134 = u := Option.some.inj (Eq.trans (Eq.symm (by kernel_rfl)) e2)
  have hm : ty ∈ (List.range 181).filter fun t => Tryd.prog.rowNamed t [101, 114, 114, 111, 114] := List.mem_filter.2 ⟨List.mem_range.2 (by rw [← tsize]; exact e3), e4⟩
  rw [oneRow] at hm
  obtain rfl := List.mem_singleton.1 hm
  have hh : typeHandle Tryd.prog 26 = .pointer (some ⟨1, 26, none⟩) := by kernel_rfl
  rw [hh] at e5
  unfold Laid
  simpa using World.var?_cell et e5 0
theorem cellsInt : Tryd.prog.cellsOf 3 = 1 := by kernel_rfl
theorem cellsItem : Tryd.prog.cellsOf 37 = 5 := by kernel_rfl
theorem cellsStep : Tryd.prog.cellsOf 39 = 7 := by kernel_rfl
theorem list5 {α : Type} {l : List α} (h : l.length = 5) : ∃ a b c d e, l = [a, b, c, d, e] := by
  match l, h with
  | [a, b, c, d, e], _ => exact ⟨a, b, c, d, e, rfl⟩
theorem list7 {α : Type} {l : List α} (h : l.length = 7) : ∃ a b c d e f g, l = [a, b, c, d, e, f, g] := by
  match l, h with
  | [a, b, c, d, e, f, g], _ => exact ⟨a, b, c, d, e, f, g, rfl⟩
theorem trod5 {H : Type} {enc : TypeId × Value → H} {P : Program} {w : World} {base : Nat} {spare : Nat → Bool} {held : Bool} {t : TypeId} {f0 f1 f2 f3 f4 : Field} {fuel : Nat} {cs : List Value} {x : DataW H × List MemPlace} (ht : P.underlying t = some (.struct #[f0, f1, f2, f3, f4])) (h : DataW.trod enc P w base spare held fuel t cs = some x) :
    ∃ y0 y1 y2 y3 y4 n, cs.length = P.cellsOf t ∧ DataW.trod enc P w base spare held n f0.type ((cs.drop f0.offset).take (P.cellsOf f0.type)) = some y0 ∧ DataW.trod enc P w base spare held n f1.type ((cs.drop f1.offset).take (P.cellsOf f1.type)) = some y1 ∧
      DataW.trod enc P w base spare held n f2.type ((cs.drop f2.offset).take (P.cellsOf f2.type)) = some y2 ∧ DataW.trod enc P w base spare held n f3.type ((cs.drop f3.offset).take (P.cellsOf f3.type)) = some y3 ∧ DataW.trod enc P w base spare held n f4.type ((cs.drop f4.offset).take (P.cellsOf f4.type)) = some y4 := by
  obtain ⟨xs, n, _, rfl, hl, hlen, hf⟩ := DataW.trod_struct ht h
  obtain ⟨y0, y1, y2, y3, y4, rfl⟩ := list5 hlen
  exact ⟨y0, y1, y2, y3, y4, n, hl, by simpa using hf 0 f0 rfl, by simpa using hf 1 f1 rfl, by simpa using hf 2 f2 rfl, by simpa using hf 3 f3 rfl, by simpa using hf 4 f4 rfl⟩
set_option maxRecDepth 100000 in
/-- Seven cells that read as a step. -/
theorem open_step {H : Type} {enc : TypeId × Value → H} {W : World} {base fuel : Nat} {spare : Nat → Bool} {held : Bool} {cs : List Value} {y : DataW H × List MemPlace}
    (h : DataW.trod enc Tryd.prog W base spare held fuel 39 cs = some y) : ∃ x : Stp, cs = x.cs := by
  obtain ⟨y0, y1, y2, n, _, hl, k0, k1, k2⟩ := Go.Deep.trod_struct3 Tryd.underlying39 h
  rw [cellsStep] at hl
  obtain ⟨c0, c1, c2, c3, c4, c5, c6, rfl⟩ := list7 hl
  simp only [cellsInt, cellsItem, List.drop_zero, List.drop_succ_cons, List.take_succ_cons, List.take_zero] at k0 k1 k2
  obtain ⟨z0, z1, z2, z3, z4, m, _, j0, j1, j2, j3, j4⟩ := trod5 Tryd.underlying37 k2
  simp only [cellsInt, List.drop_zero, List.drop_succ_cons, List.take_succ_cons, List.take_zero] at j0 j1 j2 j3 j4
  obtain ⟨wh, e0, _, _⟩ := DataW.trod_int Tryd.underlying3 k0
  obtain ⟨lt, e1, _, _⟩ := DataW.trod_int Tryd.underlying3 k1
  obtain ⟨a, e2, _, _⟩ := DataW.trod_int Tryd.underlying3 j0
  obtain ⟨l, e3, _, _⟩ := DataW.trod_int Tryd.underlying3 j1
  obtain ⟨f, e4, _, _⟩ := DataW.trod_int Tryd.underlying3 j2
  obtain ⟨b, e5, _, _⟩ := DataW.trod_int Tryd.underlying3 j3
  obtain ⟨mk, e6, _, _⟩ := DataW.trod_int Tryd.underlying3 j4
  simp only [List.cons.injEq, and_true] at e0 e1 e2 e3 e4 e5 e6
  exact ⟨⟨wh, lt, a, l, f, b, mk⟩, by rw [e0, e1, e2, e3, e4, e5, e6]; rfl⟩
set_option maxRecDepth 100000 in
/-- A slice of steps, read off an argument. -/
theorem open_steps {H : Type} {enc : TypeId × Value → H} {W : World} {b0 base : Nat} {spare : Nat → Bool} {held : Bool} {v : Value} {d : DataW H} {p : List MemPlace} {r : Reach}
    (hv : Value.okWide Tryd.prog W r b0 23 v) (h : DataW.Trod enc Tryd.prog W base spare held 23 v d p) :
    ∃ (x : Option Addr) (cap : Nat) (xs : List Stp), v = .slice x xs.length cap ∧ Lies W x (flt Stp.cs xs) ∧ xs.length ≤ maxLen := by
  obtain ⟨a0, len, cap, rfl⟩ := okWide_slice Tryd.underlying23 hv
  obtain ⟨fuel, hf⟩ := h
  rcases Go.Deep.open_slice Tryd.underlying23 hf with ⟨hcs, _⟩ | ⟨a, len', cap', m, n, D, Pl, hcs, _, hl, hm, hmm, _, hel⟩
  · simp [Value.cells] at hcs
    obtain ⟨rfl, rfl, rfl⟩ := hcs
    exact ⟨none, 0, [], rfl, Or.inl rfl, by simp⟩
  · simp [Value.cells] at hcs
    obtain ⟨rfl, rfl, rfl⟩ := hcs
    by_cases h0 : len = 0
    · subst h0; exact ⟨_, _, [], rfl, Or.inl rfl, by simp⟩
    have hlm : len ≤ m := by rw [hmm]; split <;> omega
    obtain ⟨b, off, spot⟩ := a
    have hspot : spot = none := by
      obtain ⟨cs', hc, ht⟩ := hel 0 (by omega)
      rw [cellsStep] at hc
      obtain ⟨x, rfl⟩ := open_step ht
      obtain ⟨_, _, hcell⟩ := World.cells?_some hc
      have := hcell 0 (by omega)
      simp only [Nat.zero_mul, Go.Deep.add_add, Nat.add_zero, Stp.cs, List.getElem?_cons_zero] at this
      simpa [Addr.add] using World.cell?_spot this
    subst hspot
    have hex : ∀ i : Fin len, ∃ x : Stp, ∀ j, j < 7 → W.cell? ⟨b, off + i.1 * 7 + j, none⟩ = x.cs[j]? := by
      intro i
      obtain ⟨cs', hc, ht⟩ := hel i.1 (by omega)
      rw [cellsStep] at hc
      obtain ⟨x, rfl⟩ := open_step ht
      obtain ⟨_, _, hcell⟩ := World.cells?_some hc
      refine ⟨x, fun j hj => ?_⟩
      have := hcell j hj
      rw [Addr.add_lit, Addr.add_lit] at this
      exact this
    let g : Fin len → Stp := fun i => Classical.choose (hex i)
    have hg : ∀ i : Fin len, ∀ j, j < 7 → W.cell? ⟨b, off + i.1 * 7 + j, none⟩ = (g i).cs[j]? := fun i => Classical.choose_spec (hex i)
    have hbl : b < W.heap.size := by
      have h1 : W.cell? ⟨b, off + 0 * 7 + 0, none⟩ = some (.int .i64 (g ⟨0, by omega⟩).what) := hg ⟨0, by omega⟩ 0 (by omega)
      exact World.block_lt_of_cell? _ _ h1
    refine ⟨some ⟨b, off, none⟩, cap, List.ofFn g, by simp, Or.inr ⟨b, off, rfl, hbl, ?_⟩, by simp; omega⟩
    intro j u hj
    have hjl := (List.getElem?_eq_some_iff.1 hj).1
    rw [flt_length Stp.cs 7 Stp.len, List.length_ofFn] at hjl
    have hi : j / 7 < len := by omega
    have hr : j % 7 < 7 := Nat.mod_lt _ (by omega)
    have hx : (List.ofFn g)[j / 7]? = some (g ⟨j / 7, hi⟩) := by rw [List.getElem?_ofFn]; simp [hi]
    have hat := flt_at Stp.cs 7 Stp.len hx hr
    have hjj : j / 7 * 7 + j % 7 = j := by omega
    rw [hjj, hj] at hat
    have := hg ⟨j / 7, hi⟩ (j % 7) hr
    rw [← hat] at this
    rw [← this]
    congr 2
    show off + j = off + j / 7 * 7 + j % 7
    omega
/-- A world that meets the condition: the settled one, the variable's cell laid. -/
def lay (w0 : World) : World :=
  { w0 with heap := w0.heap.modify 0 fun
      | .cells _ t frozen => .cells #[.iface 134 (.agg #[.pointer (some ⟨1, 26, none⟩)])] t frozen
      | o => o }
end Go.Proofs.YtpgdocmpbeabpaaDoor
namespace Go.Proofs.YtpgdocmpbeabpaaDoor
open Go.ChangeShapes Go.WideShapes Go.ChangeAt Go.RowKit

theorem cellsRate : Tryd.prog.cellsOf 44 = 2 := by kernel_rfl
theorem cellsBucket : Tryd.prog.cellsOf 46 = 3 := by kernel_rfl
theorem cellsClass : Tryd.prog.cellsOf 48 = 8 := by kernel_rfl
theorem add_plain (b off n : Nat) : (⟨b, off, none⟩ : Addr).add n = ⟨b, off + n, none⟩ := by
  by_cases h : n = 0
  · subst h; simp [Addr.add]
  · simp [Addr.add, h]
theorem list8 {α : Type} {l : List α} (h : l.length = 8) : ∃ a b c d e f g i, l = [a, b, c, d, e, f, g, i] := by
  match l, h with
  | [a, b, c, d, e, f, g, i], _ => exact ⟨a, b, c, d, e, f, g, i, rfl⟩
theorem list4 {α : Type} {l : List α} (h : l.length = 4) : ∃ a b c d, l = [a, b, c, d] := by
  match l, h with
  | [a, b, c, d], _ => exact ⟨a, b, c, d, rfl⟩
theorem trod4 {H : Type} {enc : TypeId × Value → H} {P : Program} {w : World} {base : Nat} {spare : Nat → Bool} {held : Bool} {t : TypeId} {f0 f1 f2 f3 : Field} {fuel : Nat} {cs : List Value} {x : DataW H × List MemPlace} (ht : P.underlying t = some (.struct #[f0, f1, f2, f3])) (h : DataW.trod enc P w base spare held fuel t cs = some x) :
    ∃ y0 y1 y2 y3 n, cs.length = P.cellsOf t ∧ DataW.trod enc P w base spare held n f0.type ((cs.drop f0.offset).take (P.cellsOf f0.type)) = some y0 ∧ DataW.trod enc P w base spare held n f1.type ((cs.drop f1.offset).take (P.cellsOf f1.type)) = some y1 ∧
      DataW.trod enc P w base spare held n f2.type ((cs.drop f2.offset).take (P.cellsOf f2.type)) = some y2 ∧ DataW.trod enc P w base spare held n f3.type ((cs.drop f3.offset).take (P.cellsOf f3.type)) = some y3 := by
  obtain ⟨xs, n, _, rfl, hl, hlen, hf⟩ := DataW.trod_struct ht h
  obtain ⟨y0, y1, y2, y3, rfl⟩ := list4 hlen
  exact ⟨y0, y1, y2, y3, n, hl, by simpa using hf 0 f0 rfl, by simpa using hf 1 f1 rfl, by simpa using hf 2 f2 rfl, by simpa using hf 3 f3 rfl⟩
/-- Three cells that read as a bucket. -/
theorem open_bkc {H : Type} {enc : TypeId × Value → H} {W : World} {base fuel : Nat} {spare : Nat → Bool} {held : Bool} {c0 c1 c2 : Value} {y : DataW H × List MemPlace}
    (h : DataW.trod enc Tryd.prog W base spare held fuel 46 [c0, c1, c2] = some y) : ∃ n t R : Int, c0 = .int .i64 n ∧ c1 = .int .i64 t ∧ c2 = .int .i64 R := by
  obtain ⟨y0, y1, n, _, _, h0, h1⟩ := trod_struct2 Tryd.underlying46 h
  simp only [cellsRate, cellsInt, List.drop_zero, List.drop_succ_cons, List.take_succ_cons, List.take_zero] at h0 h1
  obtain ⟨z0, z1, m, _, _, k0, k1⟩ := trod_struct2 Tryd.underlying44 h0
  simp only [cellsInt, List.drop_zero, List.drop_succ_cons, List.take_succ_cons, List.take_zero] at k0 k1
  obtain ⟨a0, e0, _, _⟩ := DataW.trod_int Tryd.underlying3 k0
  obtain ⟨a1, e1, _, _⟩ := DataW.trod_int Tryd.underlying3 k1
  obtain ⟨a2, e2, _, _⟩ := DataW.trod_int Tryd.underlying3 h1
  simp only [List.cons.injEq, and_true] at e0 e1 e2
  exact ⟨a0, a1, a2, e0, e1, e2⟩
set_option maxRecDepth 100000 in
/-- Eight cells that read as a class. -/
theorem open_class {H : Type} {enc : TypeId × Value → H} {W : World} {base fuel : Nat} {spare : Nat → Bool} {held : Bool} {cs : List Value} {y : DataW H × List MemPlace}
    (h : DataW.trod enc Tryd.prog W base spare held fuel 48 cs = some y) : ∃ x : HCl, cs = x.cs := by
  obtain ⟨y0, y1, y2, y3, n, hl, k0, k1, k2, k3⟩ := trod4 Tryd.underlying48 h
  rw [cellsClass] at hl
  obtain ⟨c0, c1, c2, c3, c4, c5, c6, c7, rfl⟩ := list8 hl
  simp only [cellsInt, cellsBucket, List.drop_zero, List.drop_succ_cons, List.take_succ_cons, List.take_zero] at k0 k1 k2 k3
  obtain ⟨pa, e0, _, _⟩ := DataW.trod_int Tryd.underlying3 k0
  obtain ⟨rn, rt, rR, e1, e2, e3⟩ := open_bkc k1
  obtain ⟨cn, ct, cR, e4, e5, e6⟩ := open_bkc k2
  obtain ⟨pr, e7, _, _⟩ := DataW.trod_int Tryd.underlying3 k3
  simp only [List.cons.injEq, and_true] at e0 e7
  exact ⟨⟨pa, rn, rt, rR, cn, ct, cR, pr⟩, by rw [e0, e1, e2, e3, e4, e5, e6, e7]; rfl⟩
set_option maxRecDepth 100000 in
/-- A slice of classes, read off an argument. -/
theorem open_classes {H : Type} {enc : TypeId × Value → H} {W : World} {b0 base : Nat} {spare : Nat → Bool} {held : Bool} {v : Value} {d : DataW H} {p : List MemPlace} {r : Reach}
    (hv : Value.okWide Tryd.prog W r b0 22 v) (h : DataW.Trod enc Tryd.prog W base spare held 22 v d p) :
    ∃ (x : Option Addr) (cap : Nat) (L : List HCl), v = .slice x L.length cap ∧ ArgAt HCl.cs W x L ∧ L.length ≤ maxLen := by
  obtain ⟨a0, len, cap, rfl⟩ := okWide_slice Tryd.underlying22 hv
  obtain ⟨fuel, hf⟩ := h
  rcases Go.Deep.open_slice Tryd.underlying22 hf with ⟨hcs, _⟩ | ⟨a, len', cap', m, n, D, Pl, hcs, _, hl, hm, hmm, _, hel⟩
  · simp [Value.cells] at hcs
    obtain ⟨rfl, rfl, rfl⟩ := hcs
    exact ⟨none, 0, [], rfl, Or.inl rfl, by simp⟩
  · simp [Value.cells] at hcs
    obtain ⟨rfl, rfl, rfl⟩ := hcs
    by_cases h0 : len = 0
    · subst h0; exact ⟨_, _, [], rfl, Or.inl rfl, by simp⟩
    have hlm : len ≤ m := by rw [hmm]; split <;> omega
    obtain ⟨b, off, spot⟩ := a
    have hspot : spot = none := by
      obtain ⟨cs', hc, ht⟩ := hel 0 (by omega)
      rw [cellsClass] at hc
      obtain ⟨x, rfl⟩ := open_class ht
      obtain ⟨_, _, hcell⟩ := World.cells?_some hc
      have := hcell 0 (by omega)
      simp only [HCl.cs, Nat.zero_mul, Go.Deep.add_add, Nat.add_zero, List.getElem?_cons_zero] at this
      simpa [Addr.add] using World.cell?_spot this
    subst hspot
    have hex : ∀ i : Fin len, ∃ x : HCl, (∀ j, j < 8 → W.cell? ⟨b, off + i.1 * 8 + j, none⟩ = x.cs[j]?) := by
      intro ⟨i, hi⟩
      obtain ⟨cs', hc, ht⟩ := hel i (by omega)
      rw [cellsClass] at hc
      obtain ⟨x, rfl⟩ := open_class ht
      obtain ⟨_, _, hcell⟩ := World.cells?_some hc
      refine ⟨x, fun j hj => ?_⟩
      have := hcell j hj
      rw [add_plain, add_plain] at this
      exact this
    let g : Fin len → HCl := fun i => Classical.choose (hex i)
    have hg : ∀ i, _ := fun i => Classical.choose_spec (hex i)
    have hb : b < W.heap.size := by
      have h1 := (hg ⟨0, by omega⟩) 0 (by omega)
      exact World.block_lt_of_cell? W _ (u := _) (h1.trans rfl)
    refine ⟨some ⟨b, off, none⟩, cap, List.ofFn g, by simp, Or.inr ⟨b, off, rfl, hb, ?_⟩, by simp; omega⟩
    intro j u hj
    have hlen : j < (List.ofFn g).length * 8 := by
      have := (List.getElem?_eq_some_iff.1 hj).1
      rwa [flt_length HCl.cs 8 HCl.len] at this
    have hi : j / 8 < len := by rw [List.length_ofFn] at hlen; omega
    have hx : (List.ofFn g)[j / 8]? = some (g ⟨j / 8, hi⟩) := by rw [List.getElem?_ofFn]; simp [hi]
    have hd : j / 8 * 8 + j % 8 = j := by omega
    rw [← hd, flt_at HCl.cs 8 HCl.len hx (by omega)] at hj
    have := (hg ⟨j / 8, hi⟩) (j % 8) (by omega)
    rw [Nat.add_assoc, hd] at this
    exact this.trans hj
end Go.Proofs.YtpgdocmpbeabpaaDoor
