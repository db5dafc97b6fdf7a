/-
  curve.chain, Then, Least, Behind, Backlog: of curves that may not be the error; else what the numbers are, in new memory; nothing that was there before is otherwise. Conditions: the numbers lie in memory.
-/
import Derived.Test.YtnaooocmggnojaaDoorCv2
namespace Go.Proofs.YtnaooocmggnojaaDoor
open Go.RowKit Go.Extern.Stop Go.Stop Go.Extern

theorem run_makeFunc (fn : Fn) (first cap : Array Value) (w : World) : (Instr.makeFunc fn first cap).run Tryd.prog w = .ok (.func fn first cap) w := rfl

set_option maxHeartbeats 1000000 in
theorem chain_any (n : Nat) (x y : Option Addr) (cx cy lx ly : Nat) (f g : Nat → Int) (w : World) (hx : Row w x n f) (hy : Row w y n g) (h1 : Mild n f) (h2 : Mild n g) (b0 : n ≤ 1000) (b1 : n ≤ lx) (b2 : n ≤ ly) :
    Calls Tryd.prog 38 #[.int .i64 n, .slice x lx cx, .slice y ly cy] w fun e w' => ∃ s, e = .returned (.slice (some ⟨s, 0, none⟩) n n) ∧ Row w' (some ⟨s, 0, none⟩) n (conv f g) ∧ Below w.heap.size w w' := by
  have HX : Hid (Row w x n f) := hx
  have HY : Hid (Row w y n g) := hy
  have H1 : Hid (Mild n f) := h1
  have H2 : Hid (Mild n g) := h2
  have hmf := run_makeFunc
  clear hx hy h1 h2
  go_enter Tryd.func38, Tryd.ntmps38
  go_wp2_with fail
  have hB0 : Below w.heap.size w ((w.alloc (.cells #[.slice x lx cx] 49)).alloc (.cells #[.slice y ly cy] 49)) := ((Below.refl _ _).alloc (Nat.le_refl _) _).alloc (by simp) _
  refine (cvdraw_any 47 #[.pointer (some ⟨w.heap.size, 0, none⟩), .pointer (some ⟨w.heap.size + 1, 0, none⟩)] n (conv f g) _ b0 entersChain ?_).mono ?_
  · intro k W hk hb
    have hB : Below w.heap.size w W := hB0.trans (hb.mono (by simp <;> omega))
    refine (chain1_any k w.heap.size (w.heap.size + 1) x y cx cy lx ly f g W ?_ ?_ ((HX.out.take hk).below hB) ((HY.out.take hk).below hB) (H1.out.take hk) (H2.out.take hk) (by omega) (by omega) (by omega)).mono ?_
    · rw [hb.cell (by simp <;> omega)]; simp
    · rw [hb.cell (by simp <;> omega)]; simp
    · rintro e W' ⟨rfl, hq⟩
      exact ⟨rfl, below_of_drew hq⟩
  rintro e w1 ⟨s, rfl, hrow, hb1⟩
  have HR : Hid (Row w1 (some ⟨s, 0, none⟩) n (conv f g)) := hrow
  clear hrow
  go_wp2
  go_ret
  exact ⟨s, rfl, HR.out, hB0.trans (hb1.mono (by simp <;> omega))⟩

end Go.Proofs.YtnaooocmggnojaaDoor
