/-
  What the rows' proofs of package sced share: flows read off an argument. Nothing is claimed here by itself.
-/
import Derived.Test.YtnaooocmggnojaaDoorLwRow
import Derived.SizedLaws
import Derived.Test.YtnaooocmggnojaaDoorSd1
import Derived.ChangeSame
namespace Go.Proofs.YtnaooocmggnojaaDoor
open Go.ChangeShapes Go.WideShapes Go.RowKit

theorem add_plain (b off n : Nat) : (⟨b, off, none⟩ : Addr).add n = ⟨b, off + n, none⟩ := by
  by_cases h : n = 0
  · subst h; simp [Addr.add]
  · simp [Addr.add, h]
theorem cellsFlow : Tryd.prog.cellsOf 51 = 2 := by kernel_rfl
theorem cellsInts : Tryd.prog.cellsOf 36 = 1 := by kernel_rfl
theorem cellsCurve : Tryd.prog.cellsOf 49 = 1 := by kernel_rfl

set_option maxRecDepth 100000 in
/-- One cell that reads as a slice of ints. -/
theorem open_row {H : Type} {enc : TypeId × Value → H} {W : World} {base fuel : Nat} {spare : Nat → Bool} {held : Bool} {t : TypeId} (ht : Tryd.prog.underlying t = some (.slice 3)) {u : Value} {y : DataW H × List MemPlace}
    (hf : DataW.trod enc Tryd.prog W base spare held fuel t [u] = some y) : ∃ (x : Option Addr) (n cap : Nat) (f : Nat → Int), u = .slice x n cap ∧ Row W x n f ∧ n ≤ maxLen := by
  rcases Go.Deep.open_slice1 ht cellsInt hf with ⟨hcs, _⟩ | ⟨a, len, cap, m, n, V, D, Pl, hcs, _, hl, hm, hmm, _, hel⟩
  · simp only [List.cons.injEq, and_true] at hcs
    exact ⟨none, 0, 0, fun _ => 0, hcs, Or.inl rfl, Nat.zero_le _⟩
  · simp only [List.cons.injEq, and_true] at hcs
    by_cases h0 : len = 0
    · subst h0; exact ⟨_, 0, cap, fun _ => 0, hcs, Or.inl rfl, Nat.zero_le _⟩
    have hlm : len ≤ m := by rw [hmm]; split <;> omega
    obtain ⟨b, off, spot⟩ := a
    have hspot : spot = none := by
      have hc := (hel 0 (by omega)).1
      simpa [Addr.add] using World.cell?_spot hc
    subst hspot
    have hi : ∀ i, ∃ u : Int, i < len → W.cell? ⟨b, off + i, none⟩ = some (.int .i64 u) := by
      intro i
      by_cases hi : i < len
      · obtain ⟨hc, ht⟩ := hel i (by omega)
        obtain ⟨u, e0, _, _⟩ := DataW.trod_int Tryd.underlying3 ht
        simp only [List.cons.injEq, and_true] at e0
        refine ⟨u, fun _ => ?_⟩
        rw [← e0, ← hc, add_plain]
      · exact ⟨0, fun h => absurd h hi⟩
    exact ⟨_, len, cap, fun i => Classical.choose (hi i), hcs, Or.inr ⟨b, off, rfl, fun i h => Classical.choose_spec (hi i) h⟩, by omega⟩
set_option maxRecDepth 100000 in
/-- Two cells that read as a flow. -/
theorem open_flow {H : Type} {enc : TypeId × Value → H} {W : World} {base fuel : Nat} {spare : Nat → Bool} {held : Bool} {cs : List Value} {y : DataW H × List MemPlace}
    (h : DataW.trod enc Tryd.prog W base spare held fuel 51 cs = some y) : ∃ f : Flw, cs = [.slice f.x f.n f.cx, .slice f.y f.m f.cy] ∧ FlwAt W f := by
  obtain ⟨y0, y1, n, _, hl, k0, k1⟩ := trod_struct2 Tryd.underlying51 h
  rw [cellsFlow] at hl
  match cs, hl with
  | [c0, c1], _ =>
    simp only [cellsInts, cellsCurve, List.drop_zero, List.drop_succ_cons, List.take_succ_cons, List.take_zero] at k0 k1
    obtain ⟨x, n, cx, c, rfl, r0, l0⟩ := open_row Tryd.underlying36 k0
    obtain ⟨y, m, cy, p, rfl, r1, l1⟩ := open_row Tryd.underlying49 k1
    exact ⟨⟨x, cx, n, c, y, cy, m, p⟩, rfl, ⟨r0, r1, l0, l1⟩⟩
set_option maxRecDepth 100000 in
/-- Flows, read off an argument. -/
theorem open_flows {H : Type} {enc : TypeId × Value → H} {W : World} {b0 base : Nat} {spare : Nat → Bool} {held : Bool} {v : Value} {d : DataW H} {p : List MemPlace} {r : Reach}
    (hv : Value.okWide Tryd.prog W r b0 22 v) (h : DataW.Trod enc Tryd.prog W base spare held 22 v d p) :
    ∃ (x : Option Addr) (m cap : Nat) (F : Nat → Flw), v = .slice x m cap ∧ (m = 0 ∨ ∃ b off, x = some ⟨b, off, none⟩ ∧ FlsAt W b off m F) ∧ m ≤ maxLen ∧ (m = 0 ∨ ∃ E S, d = .slice E S ∧ E.length = m) := by
  obtain ⟨a0, len, cap, rfl⟩ := okWide_slice Tryd.underlying22 hv
  obtain ⟨fuel, hf⟩ := h
  rcases Go.Deep.open_slice Tryd.underlying22 hf with ⟨hcs, _⟩ | ⟨a, len', cap', m, n, D, Pl, hcs, _, hl, hm, hmm, hD, hel⟩
  · simp [Value.cells] at hcs
    obtain ⟨rfl, rfl, rfl⟩ := hcs
    exact ⟨none, 0, 0, fun _ => ⟨none, 0, 0, fun _ => 0, none, 0, 0, fun _ => 0⟩, rfl, Or.inl rfl, Nat.zero_le _, Or.inl rfl⟩
  · simp [Value.cells] at hcs
    obtain ⟨rfl, rfl, rfl⟩ := hcs
    by_cases h0 : len = 0
    · subst h0; exact ⟨_, 0, cap, fun _ => ⟨none, 0, 0, fun _ => 0, none, 0, 0, fun _ => 0⟩, rfl, Or.inl rfl, Nat.zero_le _, Or.inl rfl⟩
    have hlm : len ≤ m := by rw [hmm]; split <;> omega
    obtain ⟨b, off, spot⟩ := a
    have hspot : spot = none := by
      obtain ⟨cs', hc, ht⟩ := hel 0 (by omega)
      rw [cellsFlow] at hc
      obtain ⟨f, rfl, _⟩ := open_flow ht
      obtain ⟨_, _, hcell⟩ := World.cells?_some hc
      have := hcell 0 (by omega)
      simp only [Nat.zero_mul, Go.Deep.add_add, Nat.add_zero, List.getElem?_cons_zero] at this
      simpa [Addr.add] using World.cell?_spot this
    subst hspot
    have hx : ∀ i, ∃ f : Flw, i < len → W.cell? ⟨b, off + i * 2, none⟩ = some (.slice f.x f.n f.cx) ∧ W.cell? ⟨b, off + i * 2 + 1, none⟩ = some (.slice f.y f.m f.cy) ∧ FlwAt W f := by
      intro i
      by_cases hi : i < len
      · obtain ⟨cs', hc, ht⟩ := hel i (by omega)
        rw [cellsFlow] at hc
        obtain ⟨f, rfl, hf⟩ := open_flow ht
        obtain ⟨_, _, hcell⟩ := World.cells?_some hc
        have k : ∀ j, j < 2 → W.cell? ⟨b, off + i * 2 + j, none⟩ = [Value.slice f.x f.n f.cx, .slice f.y f.m f.cy][j]? := by
          intro j hj
          have := hcell j hj
          rw [add_plain, add_plain] at this
          exact this
        exact ⟨f, fun _ => ⟨k 0 (by omega), k 1 (by omega), hf⟩⟩
      · exact ⟨⟨none, 0, 0, fun _ => 0, none, 0, 0, fun _ => 0⟩, fun h => absurd h hi⟩
    exact ⟨_, len, cap, fun i => Classical.choose (hx i), rfl, Or.inr ⟨b, off, rfl, fun i hi => Classical.choose_spec (hx i) hi⟩, by omega, Or.inr ⟨_, _, (Prod.mk.inj hD).1, by simp⟩⟩
end Go.Proofs.YtnaooocmggnojaaDoor
