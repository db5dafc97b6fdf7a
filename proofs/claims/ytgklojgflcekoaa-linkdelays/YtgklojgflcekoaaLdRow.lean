/-
  Packets and a log, read off arguments. Nothing is claimed here by itself.
-/
import Derived.Test.YtgklojgflcekoaaRows
import Derived.Test.YtgklojgflcekoaaLd1
import Derived.WalkKit
import Derived.ProofKit
import Derived.OpenShut
import Derived.Carry
import Derived.RowKit
import Derived.Deep.Slices
import Derived.Deep.Strs
import Derived.Lib.SmallJoins
namespace Go.Proofs.Ytgklojgflcekoaa
open Go.ChangeShapes Go.WideShapes Go.ChangeAt Go.RowKit

theorem own : ownKnob Try.prog.godebug = none := by kernel_rfl
theorem laidOut : laidOutB Try.prog = true := by kernel_rfl
theorem cellsInt : Try.prog.cellsOf 3 = 1 := by kernel_rfl
theorem cellsItem : Try.prog.cellsOf 31 = 5 := by kernel_rfl
theorem cellsSent : Try.prog.cellsOf 29 = 4 := by kernel_rfl
theorem cellsLog : Try.prog.cellsOf 26 = 4 := by kernel_rfl
theorem cellsSents : Try.prog.cellsOf 23 = 1 := by kernel_rfl
theorem cellsInts : Try.prog.cellsOf 24 = 1 := by kernel_rfl
theorem add_plain (b off n : Nat) : (⟨b, off, none⟩ : Addr).add n = ⟨b, off + n, none⟩ := by
  by_cases h : n = 0
  · subst h; simp [Addr.add]
  · simp [Addr.add, h]
theorem list4 {α : Type} {l : List α} (h : l.length = 4) : ∃ a b c d, l = [a, b, c, d] := by
  match l, h with
  | [a, b, c, d], _ => exact ⟨a, b, c, d, rfl⟩
theorem list5 {α : Type} {l : List α} (h : l.length = 5) : ∃ a b c d e, l = [a, b, c, d, e] := by
  match l, h with
  | [a, b, c, d, e], _ => exact ⟨a, b, c, d, e, rfl⟩
theorem trod4 {H : Type} {enc : TypeId × Value → H} {P : Program} {w : World} {base : Nat} {spare : Nat → Bool} {held : Bool} {t : TypeId} {f0 f1 f2 f3 : Field} {fuel : Nat} {cs : List Value} {x : DataW H × List MemPlace} (ht : P.underlying t = some (.struct #[f0, f1, f2, f3])) (h : DataW.trod enc P w base spare held fuel t cs = some x) :
    ∃ y0 y1 y2 y3 n, cs.length = P.cellsOf t ∧ DataW.trod enc P w base spare held n f0.type ((cs.drop f0.offset).take (P.cellsOf f0.type)) = some y0 ∧ DataW.trod enc P w base spare held n f1.type ((cs.drop f1.offset).take (P.cellsOf f1.type)) = some y1 ∧
      DataW.trod enc P w base spare held n f2.type ((cs.drop f2.offset).take (P.cellsOf f2.type)) = some y2 ∧ DataW.trod enc P w base spare held n f3.type ((cs.drop f3.offset).take (P.cellsOf f3.type)) = some y3 := by
  obtain ⟨xs, n, _, rfl, hl, hlen, hf⟩ := DataW.trod_struct ht h
  obtain ⟨y0, y1, y2, y3, rfl⟩ := list4 hlen
  exact ⟨y0, y1, y2, y3, n, hl, by simpa using hf 0 f0 rfl, by simpa using hf 1 f1 rfl, by simpa using hf 2 f2 rfl, by simpa using hf 3 f3 rfl⟩
theorem trod5 {H : Type} {enc : TypeId × Value → H} {P : Program} {w : World} {base : Nat} {spare : Nat → Bool} {held : Bool} {t : TypeId} {f0 f1 f2 f3 f4 : Field} {fuel : Nat} {cs : List Value} {x : DataW H × List MemPlace} (ht : P.underlying t = some (.struct #[f0, f1, f2, f3, f4])) (h : DataW.trod enc P w base spare held fuel t cs = some x) :
    ∃ y0 n, cs.length = P.cellsOf t ∧ DataW.trod enc P w base spare held n f0.type ((cs.drop f0.offset).take (P.cellsOf f0.type)) = some y0 := by
  obtain ⟨xs, n, _, rfl, hl, hlen, hf⟩ := DataW.trod_struct ht h
  obtain ⟨y0, y1, y2, y3, y4, rfl⟩ := list5 hlen
  exact ⟨y0, n, hl, by simpa using hf 0 f0 rfl⟩
set_option maxRecDepth 100000 in
/-- Five cells that read as a packet. -/
theorem open_item {H : Type} {enc : TypeId × Value → H} {W : World} {base fuel : Nat} {spare : Nat → Bool} {held : Bool} {cs : List Value} {y : DataW H × List MemPlace}
    (h : DataW.trod enc Try.prog W base spare held fuel 31 cs = some y) : ∃ (x : Int) (r : List Value), cs = .int .i64 x :: r := by
  obtain ⟨y0, n, hl, k0⟩ := trod5 Try.underlying31 h
  rw [cellsItem] at hl
  obtain ⟨c0, c1, c2, c3, c4, rfl⟩ := list5 hl
  simp only [cellsInt, List.drop_zero, List.take_succ_cons, List.take_zero] at k0
  obtain ⟨a, e0, _, _⟩ := DataW.trod_int Try.underlying3 k0
  simp only [List.cons.injEq, and_true] at e0
  exact ⟨a, _, by rw [e0]⟩
set_option maxRecDepth 100000 in
/-- Four cells that read as a packet that was sent. -/
theorem open_sent {H : Type} {enc : TypeId × Value → H} {W : World} {base fuel : Nat} {spare : Nat → Bool} {held : Bool} {cs : List Value} {y : DataW H × List MemPlace}
    (h : DataW.trod enc Try.prog W base spare held fuel 29 cs = some y) : ∃ x0 x1 x2 x3 : Int, cs = [.int .i64 x0, .int .i64 x1, .int .i64 x2, .int .i64 x3] := by
  obtain ⟨y0, y1, y2, y3, n, hl, k0, k1, k2, k3⟩ := trod4 Try.underlying29 h
  rw [cellsSent] at hl
  obtain ⟨c0, c1, c2, c3, rfl⟩ := list4 hl
  simp only [cellsInt, List.drop_zero, List.drop_succ_cons, List.take_succ_cons, List.take_zero] at k0 k1 k2 k3
  obtain ⟨a, e0, _, _⟩ := DataW.trod_int Try.underlying3 k0
  obtain ⟨l, e1, _, _⟩ := DataW.trod_int Try.underlying3 k1
  obtain ⟨f, e2, _, _⟩ := DataW.trod_int Try.underlying3 k2
  obtain ⟨b, e3, _, _⟩ := DataW.trod_int Try.underlying3 k3
  simp only [List.cons.injEq, and_true] at e0 e1 e2 e3
  exact ⟨a, l, f, b, by rw [e0, e1, e2, e3]⟩
set_option maxRecDepth 100000 in
/-- A slice of packets. -/
theorem open_come {H : Type} {enc : TypeId × Value → H} {W : World} {b0 base : Nat} {spare : Nat → Bool} {held : Bool} {v : Value} {d : DataW H} {p : List MemPlace} {r : Reach}
    (hv : Value.okWide Try.prog W r b0 22 v) (h : DataW.Trod enc Try.prog W base spare held 22 v d p) :
    ∃ (x : Option Addr) (n cap : Nat) (a : Nat → Int), v = .slice x n cap ∧ ComeD W x n a ∧ n ≤ maxLen := by
  obtain ⟨a0, len, cap, rfl⟩ := okWide_slice Try.underlying22 hv
  obtain ⟨fuel, hf⟩ := h
  rcases Go.Deep.open_slice Try.underlying22 hf with ⟨hcs, _⟩ | ⟨a, len', cap', m, n, D, Pl, hcs, _, hl, hm, hmm, _, hel⟩
  · simp [Value.cells] at hcs
    obtain ⟨rfl, rfl, rfl⟩ := hcs
    exact ⟨none, 0, 0, fun _ => 0, rfl, Or.inl rfl, by simp⟩
  · simp [Value.cells] at hcs
    obtain ⟨rfl, rfl, rfl⟩ := hcs
    by_cases h0 : len = 0
    · subst h0; exact ⟨_, 0, _, fun _ => 0, rfl, Or.inl rfl, by simp⟩
    have hlm : len ≤ m := by rw [hmm]; split <;> omega
    obtain ⟨b, off, spot⟩ := a
    have hspot : spot = none := by
      obtain ⟨cs', hc, ht⟩ := hel 0 (by omega)
      rw [cellsItem] at hc
      obtain ⟨x, rr, rfl⟩ := open_item ht
      obtain ⟨_, _, hcell⟩ := World.cells?_some hc
      have := hcell 0 (by omega)
      simp only [Nat.zero_mul, Go.Deep.add_add, Nat.add_zero, List.getElem?_cons_zero] at this
      simpa [Addr.add] using World.cell?_spot this
    subst hspot
    have hx : ∀ i, ∃ x : Int, i < len → W.cell? ⟨b, off + i * 5, none⟩ = some (.int .i64 x) := by
      intro i
      by_cases hi : i < len
      · obtain ⟨cs', hc, ht⟩ := hel i (by omega)
        rw [cellsItem] at hc
        obtain ⟨x, rr, rfl⟩ := open_item ht
        obtain ⟨_, _, hcell⟩ := World.cells?_some hc
        have := hcell 0 (by omega)
        rw [add_plain, add_plain] at this
        exact ⟨x, fun _ => this⟩
      · exact ⟨0, fun h => absurd h hi⟩
    exact ⟨_, len, cap, fun i => Classical.choose (hx i), rfl, Or.inr ⟨b, off, rfl, World.block_lt_of_cell? _ _ (Classical.choose_spec (hx 0) (by omega)), fun i h => Classical.choose_spec (hx i) h⟩, by omega⟩
set_option maxRecDepth 100000 in
/-- A log. -/
theorem open_log {H : Type} {enc : TypeId × Value → H} {W : World} {b0 base : Nat} {spare : Nat → Bool} {held : Bool} {v : Value} {d : DataW H} {p : List MemPlace} {r : Reach}
    (hv : Value.okWide Try.prog W r b0 26 v) (h : DataW.Trod enc Try.prog W base spare held 26 v d p) :
    ∃ (y : Option Addr) (m ycap : Nat) (s0 s1 s2 s3 : Nat → Int) (z : Option Addr) (zn zcap : Nat) (wt ms : Int), v = .agg #[.slice y m ycap, .slice z zn zcap, .int .i64 wt, .int .i64 ms] ∧ SentD W y m s0 s1 s2 s3 ∧ m ≤ maxLen := by
  obtain ⟨cs, rfl, hsz⟩ := okWide_struct Try.underlying26 hv
  rw [cellsLog] at hsz
  obtain ⟨l⟩ := cs
  match l, hsz with
  | [c0, c1, c2, c3], _ =>
    obtain ⟨fuel, hf⟩ := h
    obtain ⟨y0, y1, y2, y3, n, _, h0, h1, h2, h3⟩ := trod4 Try.underlying26 hf
    simp only [Value.cells, cellsInt, cellsSents, cellsInts, List.drop_zero, List.drop_succ_cons, List.take_succ_cons, List.take_zero] at h0 h1 h2 h3
    obtain ⟨wt, e2, _, _⟩ := DataW.trod_int Try.underlying3 h2
    obtain ⟨ms, e3, _, _⟩ := DataW.trod_int Try.underlying3 h3
    simp only [List.cons.injEq, and_true] at e2 e3
    subst e2 e3
    obtain ⟨z, zn, zcap, rfl⟩ : ∃ z zn zcap, c1 = .slice z zn zcap := by
      rcases Go.Deep.open_slice Try.underlying24 h1 with ⟨hcs, _⟩ | ⟨a, len', cap', m, n, D, Pl, hcs, _⟩
      · simp only [List.cons.injEq, and_true] at hcs; exact ⟨_, _, _, hcs⟩
      · simp only [List.cons.injEq, and_true] at hcs; exact ⟨_, _, _, hcs⟩
    rcases Go.Deep.open_slice Try.underlying23 h0 with ⟨hcs, _⟩ | ⟨a, len, cap, m, n, D, Pl, hcs, _, hl, hm, hmm, _, hel⟩
    · simp only [List.cons.injEq, and_true] at hcs
      subst hcs
      exact ⟨none, 0, 0, fun _ => 0, fun _ => 0, fun _ => 0, fun _ => 0, z, zn, zcap, wt, ms, rfl, Or.inl rfl, by simp⟩
    · simp only [List.cons.injEq, and_true] at hcs
      subst hcs
      by_cases hz : len = 0
      · subst hz; exact ⟨_, 0, cap, fun _ => 0, fun _ => 0, fun _ => 0, fun _ => 0, z, zn, zcap, wt, ms, rfl, Or.inl rfl, by simp⟩
      have hlm : len ≤ m := by rw [hmm]; split <;> omega
      obtain ⟨b, off, spot⟩ := a
      have hspot : spot = none := by
        obtain ⟨cs', hc, ht⟩ := hel 0 (by omega)
        rw [cellsSent] at hc
        obtain ⟨x0, x1, x2, x3, rfl⟩ := open_sent ht
        obtain ⟨_, _, hcell⟩ := World.cells?_some hc
        have := hcell 0 (by omega)
        simp only [Nat.zero_mul, Go.Deep.add_add, Nat.add_zero, List.getElem?_cons_zero] at this
        simpa [Addr.add] using World.cell?_spot this
      subst hspot
      have hx : ∀ i, ∃ x : Int × Int × Int × Int, i < len → W.cell? ⟨b, off + i * 4, none⟩ = some (.int .i64 x.1) ∧ W.cell? ⟨b, off + i * 4 + 1, none⟩ = some (.int .i64 x.2.1) ∧ W.cell? ⟨b, off + i * 4 + 2, none⟩ = some (.int .i64 x.2.2.1) ∧ W.cell? ⟨b, off + i * 4 + 3, none⟩ = some (.int .i64 x.2.2.2) := by
        intro i
        by_cases hi : i < len
        · obtain ⟨cs', hc, ht⟩ := hel i (by omega)
          rw [cellsSent] at hc
          obtain ⟨x0, x1, x2, x3, rfl⟩ := open_sent ht
          obtain ⟨_, _, hcell⟩ := World.cells?_some hc
          have k : ∀ j, j < 4 → W.cell? ⟨b, off + i * 4 + j, none⟩ = [Value.int .i64 x0, .int .i64 x1, .int .i64 x2, .int .i64 x3][j]? := by
            intro j hj
            have := hcell j hj
            rw [add_plain, add_plain] at this
            exact this
          exact ⟨(x0, x1, x2, x3), fun _ => ⟨k 0 (by omega), k 1 (by omega), k 2 (by omega), k 3 (by omega)⟩⟩
        · exact ⟨(0, 0, 0, 0), fun h => absurd h hi⟩
      exact ⟨_, len, cap, fun i => (Classical.choose (hx i)).1, fun i => (Classical.choose (hx i)).2.1, fun i => (Classical.choose (hx i)).2.2.1, fun i => (Classical.choose (hx i)).2.2.2, z, zn, zcap, wt, ms, rfl, Or.inr ⟨b, off, rfl, World.block_lt_of_cell? _ _ (Classical.choose_spec (hx 0) (by omega)).1, fun i h => Classical.choose_spec (hx i) h⟩, by omega⟩
end Go.Proofs.Ytgklojgflcekoaa
