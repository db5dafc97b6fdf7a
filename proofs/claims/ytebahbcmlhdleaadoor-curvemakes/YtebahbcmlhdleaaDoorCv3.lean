/-
  curve.chain, Then, Least, Behind, Backlog: of curves that may not be the error; else what the numbers are, in new memory; nothing that was there before is otherwise. Conditions: the numbers lie in memory.
-/
import Derived.Test.YtebahbcmlhdleaaDoorCv2
namespace Go.Proofs.YtebahbcmlhdleaaDoor
open Go.RowKit Go.Extern.Stop Go.Stop Go.Extern

theorem run_makeFunc (fn : Fn) (first cap : Array Value) (w : World) : (Instr.makeFunc fn first cap).run Tryd.prog w = .ok (.func fn first cap) w := rfl

set_option maxHeartbeats 1000000 in
theorem chain_any (n : Nat) (x y : Option Addr) (cx cy lx ly : Nat) (f g : Nat → Int) (w : World) (hx : Row w x n f) (hy : Row w y n g) (h1 : Mild n f) (h2 : Mild n g) (b0 : n ≤ 1000) (b1 : n ≤ lx) (b2 : n ≤ ly) :
    Calls Tryd.prog 51 #[.int .i64 n, .slice x lx cx, .slice y ly cy] w fun e w' => ∃ s, e = .returned (.slice (some ⟨s, 0, none⟩) n n) ∧ Row w' (some ⟨s, 0, none⟩) n (conv f g) ∧ Below w.heap.size w w' := by
  have HX : Hid (Row w x n f) := hx
  have HY : Hid (Row w y n g) := hy
  have H1 : Hid (Mild n f) := h1
  have H2 : Hid (Mild n g) := h2
  have hmf := run_makeFunc
  clear hx hy h1 h2
  go_enter Tryd.func51, Tryd.ntmps51
  go_wp2_with fail
  have hB0 : Below w.heap.size w ((w.alloc (.cells #[.slice x lx cx] 28)).alloc (.cells #[.slice y ly cy] 28)) := ((Below.refl _ _).alloc (Nat.le_refl _) _).alloc (by simp) _
  refine (cvdraw_any 64 #[.pointer (some ⟨w.heap.size, 0, none⟩), .pointer (some ⟨w.heap.size + 1, 0, none⟩)] n (conv f g) _ b0 entersChain ?_).mono ?_
  · intro k W hk hb
    have hB : Below w.heap.size w W := hB0.trans (hb.mono (by simp <;> omega))
    refine (chain1_any k w.heap.size (w.heap.size + 1) x y cx cy lx ly f g W ?_ ?_ ((HX.out.take hk).below hB) ((HY.out.take hk).below hB) (H1.out.take hk) (H2.out.take hk) (by omega) (by omega) (by omega)).mono ?_
    · rw [hb.cell (by simp <;> omega)]; simp
    · rw [hb.cell (by simp <;> omega)]; simp
    · rintro e W' ⟨rfl, hq⟩
      exact ⟨rfl, below_of_drew hq⟩
  rintro e w1 ⟨s, rfl, hrow, hb1⟩
  have HR : Hid (Row w1 (some ⟨s, 0, none⟩) n (conv f g)) := hrow
  clear hrow
  go_wp2
  go_ret
  exact ⟨s, rfl, HR.out, hB0.trans (hb1.mono (by simp <;> omega))⟩

theorem then_no (x y : Option Addr) (cx cy n m : Nat) (f g : Nat → Int) (w : World) (hn : n ≤ maxLen) (hm : m ≤ maxLen) (hx : Row w x n f) (hy : Row w y m g) (h : ¬ (okC n f ∧ okC m g)) :
    Calls Tryd.prog 32 #[.slice x n cx, .slice y m cy] w fun e w' => e = .returned (.tuple #[.slice none 0 0, .iface 24 (.int .i64 (pairE n f m g))]) ∧ w' = w := by
  have HC : Hid (Calls Tryd.prog 50 #[.slice x n cx, .slice y m cy] w fun e w' => e = .returned (.tuple #[.int .i64 0, .iface 24 (.int .i64 (pairE n f m g))]) ∧ w' = w) := reach_no x y cx cy n m f g w hn hm hx hy h
  clear hn hm hx hy h
  go_enter Tryd.func32, Tryd.ntmps32
  go_wp2_with fail
  refine HC.out.mono ?_
  rintro e w' ⟨rfl, rfl⟩
  go_wp2
  go_ret2
  exact ⟨rfl, rfl⟩
theorem then_ok (x y : Option Addr) (cx cy n m : Nat) (f g : Nat → Int) (w : World) (hx : Row w x n f) (hy : Row w y m g) (h1 : okC n f) (h2 : okC m g) :
    Calls Tryd.prog 32 #[.slice x n cx, .slice y m cy] w fun e w' => ∃ s, e = .returned (.tuple #[.slice (some ⟨s, 0, none⟩) (min n m) (min n m), .nilIface]) ∧ Row w' (some ⟨s, 0, none⟩) (min n m) (conv f g) ∧ Below w.heap.size w w' := by
  have HX : Hid (Row w x n f) := hx
  have HY : Hid (Row w y m g) := hy
  have H1 : Hid (okC n f) := h1
  have H2 : Hid (okC m g) := h2
  have b1 := h1.len
  clear hx hy h1 h2
  go_enter Tryd.func32, Tryd.ntmps32
  go_wp2_with fail
  refine (reach_ok _ _ _ _ _ _ _ _ _ HX.out HY.out H1.out H2.out).mono ?_
  rintro e w' ⟨rfl, rfl⟩
  go_wp2_with fail
  refine (chain_any (min n m) x y cx cy n m f g _ (HX.out.take (by omega)) (HY.out.take (by omega)) (H1.out.mild.take (by omega)) (H2.out.mild.take (by omega)) (by omega) (by omega) (by omega)).mono ?_
  rintro e w1 ⟨s, rfl, hrow, hb1⟩
  have HR : Hid (Row w1 (some ⟨s, 0, none⟩) (min n m) (conv f g)) := hrow
  clear hrow
  go_wp2
  go_ret2
  exact ⟨s, rfl, HR.out, hb1⟩

end Go.Proofs.YtebahbcmlhdleaaDoor
