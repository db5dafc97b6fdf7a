/-
  A slice of numbers, and a setup, read off arguments. Nothing is claimed here by itself.
-/
import Derived.Test.YtefflbibacmboaaDoorQRowD
import Derived.Test.YtefflbibacmboaaDoorRx
namespace Go.Proofs.YtefflbibacmboaaDoor
open Go.ChangeShapes Go.WideShapes Go.ChangeAt Go.RowKit

section
variable {H : Type} {enc : TypeId × Value → H} {P : Program} {w : World} {base : Nat} {spare : Nat → Bool} {held : Bool}
theorem trodAll_five {a b c e g : TypeId} {args : Array Value} {ds : List (DataW H)} {ps : List MemPlace} (h : DataW.TrodAll enc P w base spare held [a, b, c, e, g] args.toList ds ps) :
    ∃ u0 u1 u2 u3 u4 d0 d1 d2 d3 d4 p0 p1 p2 p3 p4, args = #[u0, u1, u2, u3, u4] ∧ ds = [d0, d1, d2, d3, d4] ∧ ps = p0 ++ p1 ++ p2 ++ p3 ++ p4 ∧ DataW.Trod enc P w base spare held a u0 d0 p0 ∧ DataW.Trod enc P w base spare held b u1 d1 p1 ∧ DataW.Trod enc P w base spare held c u2 d2 p2 ∧ DataW.Trod enc P w base spare held e u3 d3 p3 ∧ DataW.Trod enc P w base spare held g u4 d4 p4 := by
  obtain ⟨u0, us, d0, dt, p0, q, hargs, rfl, rfl, k0, hrest⟩ := trodAll_cons h
  obtain ⟨u1, u2, u3, u4, d1, d2, d3, d4, p1, p2, p3, p4, e1, rfl, rfl, k1, k2, k3, k4⟩ := trodAll_four (args := us.toArray) (by simpa using hrest)
  have e2 : us = [u1, u2, u3, u4] := by simpa using congrArg Array.toList e1
  subst e2
  exact ⟨u0, u1, u2, u3, u4, d0, d1, d2, d3, d4, p0, p1, p2, p3, p4, by cases args; simp_all, rfl, by simp, k0, k1, k2, k3, k4⟩
theorem trodAll_mk5 {a b c e g : TypeId} {u0 u1 u2 u3 u4 : Value} {d0 d1 d2 d3 d4 : DataW H} {p0 p1 p2 p3 p4 : List MemPlace} (k0 : DataW.Trod enc P w base spare held a u0 d0 p0) (k1 : DataW.Trod enc P w base spare held b u1 d1 p1) (k2 : DataW.Trod enc P w base spare held c u2 d2 p2) (k3 : DataW.Trod enc P w base spare held e u3 d3 p3) (k4 : DataW.Trod enc P w base spare held g u4 d4 p4) :
    DataW.TrodAll enc P w base spare held [a, b, c, e, g] [u0, u1, u2, u3, u4] [d0, d1, d2, d3, d4] (p0 ++ (p1 ++ (p2 ++ (p3 ++ p4)))) := ⟨p0, p1 ++ (p2 ++ (p3 ++ p4)), k0, trodAll_mk4 k1 k2 k3 k4, rfl⟩
end
set_option maxRecDepth 100000 in
theorem open_tape {H : Type} {enc : TypeId × Value → H} {W : World} {b0 base : Nat} {spare : Nat → Bool} {held : Bool} {v : Value} {d : DataW H} {p : List MemPlace} {r : Reach}
    (hv : Value.okWide Tryd.prog W r b0 24 v) (h : DataW.Trod enc Tryd.prog W base spare held 24 v d p) :
    ∃ (x : Option Addr) (n cap : Nat) (f : Nat → Int), v = .slice x n cap ∧ IRow W x n f ∧ n ≤ cap ∧ cap ≤ maxLen ∧ (x = none → n = 0 ∧ cap = 0) := by
  obtain ⟨a0, len, cap, rfl⟩ := okWide_slice Tryd.underlying24 hv
  obtain ⟨fuel, hf⟩ := h
  rcases Go.Deep.open_slice1 Tryd.underlying24 cellsInt hf with ⟨hcs, _⟩ | ⟨a, len', cap', m, n, V, D, Pl, hcs, _, hl, hm, hmm, _, hel⟩
  · simp [Value.cells] at hcs
    obtain ⟨rfl, rfl, rfl⟩ := hcs
    exact ⟨none, 0, 0, fun _ => 0, rfl, Or.inl rfl, Nat.le_refl _, Nat.zero_le _, fun _ => ⟨rfl, rfl⟩⟩
  · simp [Value.cells] at hcs
    obtain ⟨rfl, rfl, rfl⟩ := hcs
    by_cases h0 : len = 0
    · subst h0; exact ⟨_, 0, cap, fun _ => 0, rfl, Or.inl rfl, hl, hm, fun h => by cases h⟩
    have hlm : len ≤ m := by rw [hmm]; split <;> omega
    obtain ⟨b, off, spot⟩ := a
    have hspot : spot = none := by
      have hc := (hel 0 (by omega)).1
      simpa [Addr.add] using World.cell?_spot hc
    subst hspot
    have hi : ∀ i, ∃ u : Int, i < len → W.cell? ⟨b, off + i, none⟩ = some (.int .i64 u) := by
      intro i
      by_cases hi : i < len
      · obtain ⟨hc, ht⟩ := hel i (by omega)
        obtain ⟨u, e0, _, _⟩ := DataW.trod_int Tryd.underlying3 ht
        simp only [List.cons.injEq, and_true] at e0
        refine ⟨u, fun _ => ?_⟩
        rw [← e0, ← hc]
        by_cases hz : i = 0
        · subst hz; simp [Addr.add]
        · simp [Addr.add, hz]
      · exact ⟨0, fun h => absurd h hi⟩
    exact ⟨_, len, cap, fun i => Classical.choose (hi i), rfl, Or.inr ⟨b, off, rfl, World.block_lt_of_cell? _ _ (Classical.choose_spec (hi 0) (by omega)), fun i h => Classical.choose_spec (hi i) h⟩, hl, hm, fun h => by cases h⟩
theorem cellsSetup : Tryd.prog.cellsOf 23 = 5 := by kernel_rfl
theorem cellsBool : Tryd.prog.cellsOf 4 = 1 := by kernel_rfl
set_option maxRecDepth 100000 in
/-- A setup, read off an argument. -/
theorem open_setup {H : Type} {enc : TypeId × Value → H} {W : World} {b0 base : Nat} {spare : Nat → Bool} {held : Bool} {v : Value} {d : DataW H} {p : List MemPlace} {r : Reach}
    (hv : Value.okWide Tryd.prog W r b0 23 v) (h : DataW.Trod enc Tryd.prog W base spare held 23 v d p) : ∃ q : RSet, v = q.val := by
  obtain ⟨cs, rfl, hsz⟩ := okWide_struct Tryd.underlying23 hv
  rw [cellsSetup] at hsz
  obtain ⟨l⟩ := cs
  match l, hsz with
  | [c0, c1, c2, c3, c4], _ =>
    obtain ⟨fuel, hf⟩ := h
    obtain ⟨y0, y1, y2, y3, y4, n, _, h0, h1, h2, h3, h4⟩ := trod5 Tryd.underlying23 hf
    simp only [Value.cells, cellsInt, cellsBool, List.drop_zero, List.drop_succ_cons, List.take_succ_cons, List.take_zero] at h0 h1 h2 h3 h4
    obtain ⟨a0, e0, _, _⟩ := DataW.trod_int Tryd.underlying3 h0
    obtain ⟨a1, e1, _, _⟩ := DataW.trod_int Tryd.underlying3 h1
    obtain ⟨a2, e2, _, _⟩ := DataW.trod_int Tryd.underlying3 h2
    obtain ⟨a3, e3, _, _⟩ := DataW.trod_int Tryd.underlying3 h3
    obtain ⟨a4, e4, _⟩ := DataW.trod_bool Tryd.underlying4 h4
    simp only [List.cons.injEq, and_true] at e0 e1 e2 e3 e4
    exact ⟨⟨a0, a1, a2, a3, a4⟩, by rw [e0, e1, e2, e3, e4]; rfl⟩
end Go.Proofs.YtefflbibacmboaaDoor
