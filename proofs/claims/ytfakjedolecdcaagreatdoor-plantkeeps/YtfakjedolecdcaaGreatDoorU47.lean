/-
  What the rows' proofs share: the variable errors.errorType as the walks take it, a slice of steps read off an argument. Nothing is claimed here by itself.
  A slice of numbers, and a setup, read off arguments. Nothing is claimed here by itself.
-/
import Derived.Test.YtfakjedolecdcaaGreatDoorRows
import Derived.Test.YtfakjedolecdcaaGreatDoorTie
import Derived.Test.YtfakjedolecdcaaGreatDoorCards
import Derived.Test.YtfakjedolecdcaaGreatDoorU2
import Derived.Test.YtfakjedolecdcaaGreatDoorTm
import Derived.OpenShut
import Derived.WalkKit
import Derived.ProofKit
import Derived.Deep.Strs
import Derived.ChangeSame
import Derived.ChangeVars
import Derived.JoinedOf
import Derived.RowKit
import Derived.RowKitTokens
import Derived.LaidLaws
import Derived.LaidHandle
import Derived.Carry
import Derived.Stop.Joined
import Derived.SevenTiedAt
import Derived.Deep.Slices
import Derived.Lib.SmallJoins
import Derived.Test.YtfakjedolecdcaaGreatDoorU9
namespace Go.Proofs.YtfakjedolecdcaaGreatDoor
open Go.ChangeShapes Go.WideShapes Go.ChangeAt Go.RowKit

theorem own : ownKnob Tryz.prog.godebug = none := by kernel_rfl
theorem laidOut : laidOutB Tryz.prog = true := by kernel_rfl
theorem et : Tryz.prog.globalNamed "errors.errorType" = some 1 := by kernel_rfl
theorem oneRow : ((List.range 295).filter fun t => Tryz.prog.rowNamed t [101, 114, 114, 111, 114]) = [28] := by kernel_rfl
theorem tsize : Tryz.prog.types.size = 295 := by kernel_rfl

/-- What a met handle gives a walk: the variable's one cell. -/
theorem laid_of_handles {W : World} {hs : List (String × DataW Unit)} (h : handlesMet Tryz.prog hs W) (hm : ("errors.errorType", Rows.laid_errors_errorType) ∈ hs) : Laid W := by
  obtain ⟨name, u, ty, e1, e2, e3, e4, e5⟩ := h _ hm
  have en : name = [101, 114, 114, 111, 114] := (Option.some.inj e1).symm
  subst en
  obtain rfl : 218 = u := Option.some.inj (Eq.trans (Eq.symm (by kernel_rfl)) e2)
  have hm : ty ∈ (List.range 295).filter fun t => Tryz.prog.rowNamed t [101, 114, 114, 111, 114] := List.mem_filter.2 ⟨List.mem_range.2 (by rw [← tsize]; exact e3), e4⟩
  rw [oneRow] at hm
  obtain rfl := List.mem_singleton.1 hm
  have hh : typeHandle Tryz.prog 28 = .pointer (some ⟨7, 28, none⟩) := by kernel_rfl
  rw [hh] at e5
  unfold Laid
  simpa using World.var?_cell et e5 0
theorem cellsInt : Tryz.prog.cellsOf 3 = 1 := by kernel_rfl
theorem cellsItem : Tryz.prog.cellsOf 46 = 5 := by kernel_rfl
theorem cellsStep : Tryz.prog.cellsOf 70 = 7 := by kernel_rfl
theorem list5 {α : Type} {l : List α} (h : l.length = 5) : ∃ a b c d e, l = [a, b, c, d, e] := by
  match l, h with
  | [a, b, c, d, e], _ => exact ⟨a, b, c, d, e, rfl⟩
theorem list7 {α : Type} {l : List α} (h : l.length = 7) : ∃ a b c d e f g, l = [a, b, c, d, e, f, g] := by
  match l, h with
  | [a, b, c, d, e, f, g], _ => exact ⟨a, b, c, d, e, f, g, rfl⟩
theorem trod5 {H : Type} {enc : TypeId × Value → H} {P : Program} {w : World} {base : Nat} {spare : Nat → Bool} {held : Bool} {t : TypeId} {f0 f1 f2 f3 f4 : Field} {fuel : Nat} {cs : List Value} {x : DataW H × List MemPlace} (ht : P.underlying t = some (.struct #[f0, f1, f2, f3, f4])) (h : DataW.trod enc P w base spare held fuel t cs = some x) :
    ∃ y0 y1 y2 y3 y4 n, cs.length = P.cellsOf t ∧ DataW.trod enc P w base spare held n f0.type ((cs.drop f0.offset).take (P.cellsOf f0.type)) = some y0 ∧ DataW.trod enc P w base spare held n f1.type ((cs.drop f1.offset).take (P.cellsOf f1.type)) = some y1 ∧
      DataW.trod enc P w base spare held n f2.type ((cs.drop f2.offset).take (P.cellsOf f2.type)) = some y2 ∧ DataW.trod enc P w base spare held n f3.type ((cs.drop f3.offset).take (P.cellsOf f3.type)) = some y3 ∧ DataW.trod enc P w base spare held n f4.type ((cs.drop f4.offset).take (P.cellsOf f4.type)) = some y4 := by
  obtain ⟨xs, n, _, rfl, hl, hlen, hf⟩ := DataW.trod_struct ht h
  obtain ⟨y0, y1, y2, y3, y4, rfl⟩ := list5 hlen
  exact ⟨y0, y1, y2, y3, y4, n, hl, by simpa using hf 0 f0 rfl, by simpa using hf 1 f1 rfl, by simpa using hf 2 f2 rfl, by simpa using hf 3 f3 rfl, by simpa using hf 4 f4 rfl⟩
set_option maxRecDepth 100000 in
/-- Seven cells that read as a step. -/
theorem open_step {H : Type} {enc : TypeId × Value → H} {W : World} {base fuel : Nat} {spare : Nat → Bool} {held : Bool} {cs : List Value} {y : DataW H × List MemPlace}
    (h : DataW.trod enc Tryz.prog W base spare held fuel 70 cs = some y) : ∃ x : Stp, cs = x.cs := by
  obtain ⟨y0, y1, y2, n, _, hl, k0, k1, k2⟩ := Go.Deep.trod_struct3 Tryz.underlying70 h
  rw [cellsStep] at hl
  obtain ⟨c0, c1, c2, c3, c4, c5, c6, rfl⟩ := list7 hl
  simp only [cellsInt, cellsItem, List.drop_zero, List.drop_succ_cons, List.take_succ_cons, List.take_zero] at k0 k1 k2
  obtain ⟨z0, z1, z2, z3, z4, m, _, j0, j1, j2, j3, j4⟩ := trod5 Tryz.underlying46 k2
  simp only [cellsInt, List.drop_zero, List.drop_succ_cons, List.take_succ_cons, List.take_zero] at j0 j1 j2 j3 j4
  obtain ⟨wh, e0, _, _⟩ := DataW.trod_int Tryz.underlying3 k0
  obtain ⟨lt, e1, _, _⟩ := DataW.trod_int Tryz.underlying3 k1
  obtain ⟨a, e2, _, _⟩ := DataW.trod_int Tryz.underlying3 j0
  obtain ⟨l, e3, _, _⟩ := DataW.trod_int Tryz.underlying3 j1
  obtain ⟨f, e4, _, _⟩ := DataW.trod_int Tryz.underlying3 j2
  obtain ⟨b, e5, _, _⟩ := DataW.trod_int Tryz.underlying3 j3
  obtain ⟨mk, e6, _, _⟩ := DataW.trod_int Tryz.underlying3 j4
  simp only [List.cons.injEq, and_true] at e0 e1 e2 e3 e4 e5 e6
  exact ⟨⟨wh, lt, a, l, f, b, mk⟩, by rw [e0, e1, e2, e3, e4, e5, e6]; rfl⟩
set_option maxRecDepth 100000 in
/-- A slice of steps, read off an argument. -/
theorem open_steps {H : Type} {enc : TypeId × Value → H} {W : World} {b0 base : Nat} {spare : Nat → Bool} {held : Bool} {v : Value} {d : DataW H} {p : List MemPlace} {r : Reach}
    (hv : Value.okWide Tryz.prog W r b0 23 v) (h : DataW.Trod enc Tryz.prog W base spare held 23 v d p) :
    ∃ (x : Option Addr) (cap : Nat) (xs : List Stp), v = .slice x xs.length cap ∧ Lies W x (flt Stp.cs xs) ∧ xs.length ≤ maxLen := by
  obtain ⟨a0, len, cap, rfl⟩ := okWide_slice Tryz.underlying23 hv
  obtain ⟨fuel, hf⟩ := h
  rcases Go.Deep.open_slice Tryz.underlying23 hf with ⟨hcs, _⟩ | ⟨a, len', cap', m, n, D, Pl, hcs, _, hl, hm, hmm, _, hel⟩
  · simp [Value.cells] at hcs
    obtain ⟨rfl, rfl, rfl⟩ := hcs
    exact ⟨none, 0, [], rfl, Or.inl rfl, by simp⟩
  · simp [Value.cells] at hcs
    obtain ⟨rfl, rfl, rfl⟩ := hcs
    by_cases h0 : len = 0
    · subst h0; exact ⟨_, _, [], rfl, Or.inl rfl, by simp⟩
    have hlm : len ≤ m := by rw [hmm]; split <;> omega
    obtain ⟨b, off, spot⟩ := a
    have hspot : spot = none := by
      obtain ⟨cs', hc, ht⟩ := hel 0 (by omega)
      rw [cellsStep] at hc
      obtain ⟨x, rfl⟩ := open_step ht
      obtain ⟨_, _, hcell⟩ := World.cells?_some hc
      have := hcell 0 (by omega)
      simp only [Nat.zero_mul, Go.Deep.add_add, Nat.add_zero, Stp.cs, List.getElem?_cons_zero] at this
      simpa [Addr.add] using World.cell?_spot this
    subst hspot
    have hex : ∀ i : Fin len, ∃ x : Stp, ∀ j, j < 7 → W.cell? ⟨b, off + i.1 * 7 + j, none⟩ = x.cs[j]? := by
      intro i
      obtain ⟨cs', hc, ht⟩ := hel i.1 (by omega)
      rw [cellsStep] at hc
      obtain ⟨x, rfl⟩ := open_step ht
      obtain ⟨_, _, hcell⟩ := World.cells?_some hc
      refine ⟨x, fun j hj => ?_⟩
      have := hcell j hj
      rw [Addr.add_lit, Addr.add_lit] at this
      exact this
    let g : Fin len → Stp := fun i => Classical.choose (hex i)
    have hg : ∀ i : Fin len, ∀ j, j < 7 → W.cell? ⟨b, off + i.1 * 7 + j, none⟩ = (g i).cs[j]? := fun i => Classical.choose_spec (hex i)
    have hbl : b < W.heap.size := by
      have h1 : W.cell? ⟨b, off + 0 * 7 + 0, none⟩ = some (.int .i64 (g ⟨0, by omega⟩).what) := hg ⟨0, by omega⟩ 0 (by omega)
      exact World.block_lt_of_cell? _ _ h1
    refine ⟨some ⟨b, off, none⟩, cap, List.ofFn g, by simp, Or.inr ⟨b, off, rfl, hbl, ?_⟩, by simp; omega⟩
    intro j u hj
    have hjl := (List.getElem?_eq_some_iff.1 hj).1
    rw [flt_length Stp.cs 7 Stp.len, List.length_ofFn] at hjl
    have hi : j / 7 < len := by omega
    have hr : j % 7 < 7 := Nat.mod_lt _ (by omega)
    have hx : (List.ofFn g)[j / 7]? = some (g ⟨j / 7, hi⟩) := by rw [List.getElem?_ofFn]; simp [hi]
    have hat := flt_at Stp.cs 7 Stp.len hx hr
    have hjj : j / 7 * 7 + j % 7 = j := by omega
    rw [hjj, hj] at hat
    have := hg ⟨j / 7, hi⟩ (j % 7) hr
    rw [← hat] at this
    rw [← this]
    congr 2
    show off + j = off + j / 7 * 7 + j % 7
    omega
/-- A world that meets the condition: the settled one, the variable's cell laid. -/
def lay (w0 : World) : World :=
  { w0 with heap := w0.heap.modify 1 fun
      | .cells _ t frozen => .cells #[.iface 218 (.agg #[.pointer (some ⟨7, 28, none⟩)])] t frozen
      | o => o }
end Go.Proofs.YtfakjedolecdcaaGreatDoor
namespace Go.Proofs.YtfakjedolecdcaaGreatDoor
open Go.ChangeShapes Go.WideShapes Go.ChangeAt Go.RowKit

section
variable {H : Type} {enc : TypeId × Value → H} {P : Program} {w : World} {base : Nat} {spare : Nat → Bool} {held : Bool}
theorem trodAll_five {a b c e g : TypeId} {args : Array Value} {ds : List (DataW H)} {ps : List MemPlace} (h : DataW.TrodAll enc P w base spare held [a, b, c, e, g] args.toList ds ps) :
    ∃ u0 u1 u2 u3 u4 d0 d1 d2 d3 d4 p0 p1 p2 p3 p4, args = #[u0, u1, u2, u3, u4] ∧ ds = [d0, d1, d2, d3, d4] ∧ ps = p0 ++ p1 ++ p2 ++ p3 ++ p4 ∧ DataW.Trod enc P w base spare held a u0 d0 p0 ∧ DataW.Trod enc P w base spare held b u1 d1 p1 ∧ DataW.Trod enc P w base spare held c u2 d2 p2 ∧ DataW.Trod enc P w base spare held e u3 d3 p3 ∧ DataW.Trod enc P w base spare held g u4 d4 p4 := by
  obtain ⟨u0, us, d0, dt, p0, q, hargs, rfl, rfl, k0, hrest⟩ := trodAll_cons h
  obtain ⟨u1, u2, u3, u4, d1, d2, d3, d4, p1, p2, p3, p4, e1, rfl, rfl, k1, k2, k3, k4⟩ := trodAll_four (args := us.toArray) (by simpa using hrest)
  have e2 : us = [u1, u2, u3, u4] := by simpa using congrArg Array.toList e1
  subst e2
  exact ⟨u0, u1, u2, u3, u4, d0, d1, d2, d3, d4, p0, p1, p2, p3, p4, by cases args; simp_all, rfl, by simp, k0, k1, k2, k3, k4⟩
theorem trodAll_mk5 {a b c e g : TypeId} {u0 u1 u2 u3 u4 : Value} {d0 d1 d2 d3 d4 : DataW H} {p0 p1 p2 p3 p4 : List MemPlace} (k0 : DataW.Trod enc P w base spare held a u0 d0 p0) (k1 : DataW.Trod enc P w base spare held b u1 d1 p1) (k2 : DataW.Trod enc P w base spare held c u2 d2 p2) (k3 : DataW.Trod enc P w base spare held e u3 d3 p3) (k4 : DataW.Trod enc P w base spare held g u4 d4 p4) :
    DataW.TrodAll enc P w base spare held [a, b, c, e, g] [u0, u1, u2, u3, u4] [d0, d1, d2, d3, d4] (p0 ++ (p1 ++ (p2 ++ (p3 ++ p4)))) := ⟨p0, p1 ++ (p2 ++ (p3 ++ p4)), k0, trodAll_mk4 k1 k2 k3 k4, rfl⟩
end
set_option maxRecDepth 100000 in
theorem open_tape {H : Type} {enc : TypeId × Value → H} {W : World} {b0 base : Nat} {spare : Nat → Bool} {held : Bool} {v : Value} {d : DataW H} {p : List MemPlace} {r : Reach}
    (hv : Value.okWide Tryz.prog W r b0 22 v) (h : DataW.Trod enc Tryz.prog W base spare held 22 v d p) :
    ∃ (x : Option Addr) (n cap : Nat) (f : Nat → Int), v = .slice x n cap ∧ IRow W x n f ∧ n ≤ cap ∧ cap ≤ maxLen ∧ (x = none → n = 0 ∧ cap = 0) := by
  obtain ⟨a0, len, cap, rfl⟩ := okWide_slice Tryz.underlying22 hv
  obtain ⟨fuel, hf⟩ := h
  rcases Go.Deep.open_slice1 Tryz.underlying22 cellsInt hf with ⟨hcs, _⟩ | ⟨a, len', cap', m, n, V, D, Pl, hcs, _, hl, hm, hmm, _, hel⟩
  · simp [Value.cells] at hcs
    obtain ⟨rfl, rfl, rfl⟩ := hcs
    exact ⟨none, 0, 0, fun _ => 0, rfl, Or.inl rfl, Nat.le_refl _, Nat.zero_le _, fun _ => ⟨rfl, rfl⟩⟩
  · simp [Value.cells] at hcs
    obtain ⟨rfl, rfl, rfl⟩ := hcs
    by_cases h0 : len = 0
    · subst h0; exact ⟨_, 0, cap, fun _ => 0, rfl, Or.inl rfl, hl, hm, fun h => by cases h⟩
    have hlm : len ≤ m := by rw [hmm]; split <;> omega
    obtain ⟨b, off, spot⟩ := a
    have hspot : spot = none := by
      have hc := (hel 0 (by omega)).1
      simpa [Addr.add] using World.cell?_spot hc
    subst hspot
    have hi : ∀ i, ∃ u : Int, i < len → W.cell? ⟨b, off + i, none⟩ = some (.int .i64 u) := by
      intro i
      by_cases hi : i < len
      · obtain ⟨hc, ht⟩ := hel i (by omega)
        obtain ⟨u, e0, _, _⟩ := DataW.trod_int Tryz.underlying3 ht
        simp only [List.cons.injEq, and_true] at e0
        refine ⟨u, fun _ => ?_⟩
        rw [← e0, ← hc]
        by_cases hz : i = 0
        · subst hz; simp [Addr.add]
        · simp [Addr.add, hz]
      · exact ⟨0, fun h => absurd h hi⟩
    exact ⟨_, len, cap, fun i => Classical.choose (hi i), rfl, Or.inr ⟨b, off, rfl, World.block_lt_of_cell? _ _ (Classical.choose_spec (hi 0) (by omega)), fun i h => Classical.choose_spec (hi i) h⟩, hl, hm, fun h => by cases h⟩
theorem cellsSetup : Tryz.prog.cellsOf 115 = 5 := by kernel_rfl
theorem cellsBool : Tryz.prog.cellsOf 4 = 1 := by kernel_rfl
set_option maxRecDepth 100000 in
/-- A setup, read off an argument. -/
theorem open_setup {H : Type} {enc : TypeId × Value → H} {W : World} {b0 base : Nat} {spare : Nat → Bool} {held : Bool} {v : Value} {d : DataW H} {p : List MemPlace} {r : Reach}
    (hv : Value.okWide Tryz.prog W r b0 115 v) (h : DataW.Trod enc Tryz.prog W base spare held 115 v d p) : ∃ q : RSet, v = q.val := by
  obtain ⟨cs, rfl, hsz⟩ := okWide_struct Tryz.underlying115 hv
  rw [cellsSetup] at hsz
  obtain ⟨l⟩ := cs
  match l, hsz with
  | [c0, c1, c2, c3, c4], _ =>
    obtain ⟨fuel, hf⟩ := h
    obtain ⟨y0, y1, y2, y3, y4, n, _, h0, h1, h2, h3, h4⟩ := trod5 Tryz.underlying115 hf
    simp only [Value.cells, cellsInt, cellsBool, List.drop_zero, List.drop_succ_cons, List.take_succ_cons, List.take_zero] at h0 h1 h2 h3 h4
    obtain ⟨a0, e0, _, _⟩ := DataW.trod_int Tryz.underlying3 h0
    obtain ⟨a1, e1, _, _⟩ := DataW.trod_int Tryz.underlying3 h1
    obtain ⟨a2, e2, _, _⟩ := DataW.trod_int Tryz.underlying3 h2
    obtain ⟨a3, e3, _, _⟩ := DataW.trod_int Tryz.underlying3 h3
    obtain ⟨a4, e4, _⟩ := DataW.trod_bool Tryz.underlying4 h4
    simp only [List.cons.injEq, and_true] at e0 e1 e2 e3 e4
    exact ⟨⟨a0, a1, a2, a3, a4⟩, by rw [e0, e1, e2, e3, e4]; rfl⟩
end Go.Proofs.YtfakjedolecdcaaGreatDoor
