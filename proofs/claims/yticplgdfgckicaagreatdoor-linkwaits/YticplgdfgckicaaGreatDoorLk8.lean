/-
  link.Run's errors; millracekeep.linked: it is true. Conditions: errors.errorType holds its handle; the packets lie in memory.
-/
import Derived.Test.YticplgdfgckicaaGreatDoorLk6
namespace Go.Proofs.YticplgdfgckicaaGreatDoor
open Go.RowKit Go.Extern.Stop Go.Stop Go.Extern

theorem fifo_at0 (b : Nat) (P R : Int) (hd : Bool) {w : World} (h : LAt w b 93 (frest P R hd []) (.slice none 0 0) []) : (FifoM b P R hd).At w (· = b) ([] : List Hd) := ⟨_, h, fun k => by simp [Value.ownBlock]⟩
theorem fifo_inv00 (b : Nat) (P R : Int) (hd : Bool) : (FifoM b P R hd).inv 0 0 ([] : List Hd) := ⟨Nat.le_refl _, by simp⟩
theorem run_no (ty : TypeId) (rv : Value) (n t : Int) (x : Option Addr) (len cap : Nat) (u : Int) (w : World)
    (hck : ∀ W, Below w.heap.size w W → Calls Tryz.prog 24 #[.iface ty rv, .agg #[.int .i64 n, .int .i64 t], .slice x len cap, .int .i64 u] W fun e w' => ∃ ey ev, e = .returned (.iface ey ev) ∧ Below W.heap.size W w') :
    Calls Tryz.prog 14 #[.iface ty rv, .agg #[.int .i64 n, .int .i64 t], .slice x len cap, .int .i64 u] w fun e w' => ∃ ey ev, e = .returned (.tuple #[.agg #[.slice none 0 0, .slice none 0 0, .int .i64 0, .int .i64 0], .iface ey ev]) ∧ Below w.heap.size w w' := by
  have HCK : Hid (∀ W, Below w.heap.size w W → Calls Tryz.prog 24 #[.iface ty rv, .agg #[.int .i64 n, .int .i64 t], .slice x len cap, .int .i64 u] W fun e w' => ∃ ey ev, e = .returned (.iface ey ev) ∧ Below W.heap.size W w') := hck
  clear hck
  go_enter Tryz.func14, Tryz.ntmps14
  go_wp2_with (go_at_call 24; fail)
  have HB1 : Hid (Below w.heap.size w ((w.alloc (.cells #[.int .i64 n, .int .i64 t] 23)).alloc (.cells #[.slice none 0 0, .slice none 0 0, .int .i64 0, .int .i64 0] 28))) := below_alloc_ (below_alloc_ (Below.refl _ _) _) _
  have hg1 : ((w.alloc (.cells #[.int .i64 n, .int .i64 t] 23)).alloc (.cells #[.slice none 0 0, .slice none 0 0, .int .i64 0, .int .i64 0] 28)).heap[w.heap.size + 1]? = some (.cells #[.slice none 0 0, .slice none 0 0, .int .i64 0, .int .i64 0] 28 (0, 0)) := new_block_ (by simp)
  generalize (w.alloc (.cells #[.int .i64 n, .int .i64 t] 23)).alloc (.cells #[.slice none 0 0, .slice none 0 0, .int .i64 0, .int .i64 0] 28) = w1 at *
  refine (HCK.out _ HB1.out).mono ?_
  rintro e w2 ⟨ey, ev, rfl, hb2⟩
  have HB2 : Hid (Below w.heap.size w w2) := HB1.out.trans (hb2.mono HB1.out.size)
  have HG2 : Hid (w2.heap[w.heap.size + 1]? = some (.cells #[.slice none 0 0, .slice none 0 0, .int .i64 0, .int .i64 0] 28 (0, 0))) := (hb2.block _ (lt_of_block hg1)).trans hg1
  obtain ⟨⟨z0, z1, z2, z3⟩, y0, y1, y2, y3⟩ := four HG2.out
  clear hg1 hb2
  go_wp2
  (try simp only [Exit.inBlock, Exit.then])
  refine bodyPost_ret (v := .tuple #[.agg #[.slice none 0 0, .slice none 0 0, .int .i64 0, .int .i64 0], .iface ey ev]) ?_ rfl ⟨ey, ev, rfl, ?_⟩
  · rw [results_cell_tmp rfl]
    have hld := load_log (four_set HG2.out (.slice none 0 0) (.slice none 0 0) (.int .i64 0) (.int .i64 0))
    simp [asAddr, Result.andThen, hld]
  · refine HB2.out.trans ?_
    repeat' (first | with_reducible exact Below.refl _ _ | with_reducible refine Below.setCell ?_ (by simp) _)
/-- The one packet of linked. -/
def it35 : List It := [⟨3, 5, 0, 0, 0⟩]
theorem linked_runs (f : Nat) : (itL (FifoM f 5 100 false) it35 2 1 ([] : List Hd) 0).2 = (0, true) ∧ (itL (FifoM f 5 100 false) it35 2 1 ([] : List Hd) 1).2 = (3, true) ∧ (itL (FifoM f 5 100 false) it35 2 1 ([] : List Hd) 2).2.2 = false ∧ (itL (FifoM f 5 100 false) it35 2 1 ([] : List Hd) 2).1.sent = [⟨0, 3, 6, 0⟩] := ⟨rfl, rfl, rfl, rfl⟩
theorem okL_35 : okL it35 := rfl
theorem linked_k {f k : Nat} (hon : ∀ j, j < k → goesOn 100 (itL (FifoM f 5 100 false) it35 2 1 ([] : List Hd) j)) (hoff : ¬ goesOn 100 (itL (FifoM f 5 100 false) it35 2 1 ([] : List Hd) k)) : k = 2 := by
  obtain ⟨h0, h1, h2, _⟩ := linked_runs f
  match k with
  | 0 => exact absurd ⟨by rw [h0], by rw [h0]; decide⟩ hoff
  | 1 => exact absurd ⟨by rw [h1], by rw [h1]; decide⟩ hoff
  | 2 => rfl
  | k + 3 =>
    have := (hon 2 (by omega)).1
    rw [h2] at this
    cases this
set_option maxHeartbeats 2000000 in
theorem linked_true (w : World) (hL : Laid w) : Calls Tryz.prog 6 #[] w fun e w' => e = .returned (.bool true) ∧ Below w.heap.size w w' := by
  have HLD : Hid (Laid w) := hL
  clear hL
  go_enter Tryz.func6, Tryz.ntmps6
  go_wp2_with (go_at_call 15; fail)
  refine (newFifo_yes 5 100 false w (by decide) (by decide) (by decide) (by decide)).mono ?_
  rintro e w1 ⟨rfl, hl1, hw1⟩
  have HB1 : Hid (Below w.heap.size w w1) := by show Below _ _ _; rw [hw1]; exact below_alloc_ (Below.refl _ _) _
  have HL1 : Hid (LAt w1 w.heap.size 93 (frest 5 100 false []) (.slice none 0 0) []) := hl1
  have hs1 : w.heap.size < w1.heap.size := lt_of_block hl1.blk
  clear hw1 hl1
  go_wp2_with (go_at_call 14; fail)
  have HB2 : Hid (Below w1.heap.size w1 (w1.alloc (.cells #[.int .i64 3, .int .i64 5, .int .i64 0, .int .i64 0, .int .i64 0] 41))) := below_alloc_ (Below.refl _ _) _
  have hit : ItemsAt (w1.alloc (.cells #[.int .i64 3, .int .i64 5, .int .i64 0, .int .i64 0, .int .i64 0] 41)) (some ⟨w1.heap.size, 0, none⟩) it35 := by
    refine Or.inr ⟨w1.heap.size, 0, rfl, fun i x hx => ?_⟩
    have hi : i = 0 := by have := (List.getElem?_eq_some_iff.1 hx).1; simp [it35] at this; exact this
    subst hi
    simp [it35] at hx
    subst hx
    refine ⟨?_, ?_, ?_, ?_, ?_⟩ <;> simp
  generalize w1.alloc (.cells #[.int .i64 3, .int .i64 5, .int .i64 0, .int .i64 0, .int .i64 0] 41) = w2 at *
  have hb02 : Below w.heap.size w w2 := HB1.out.trans (HB2.out.mono HB1.out.size)
  have HRUN := run_yes (fifoM_fine w.heap.size 5 100 false (by decide) (by decide) (by decide)) (· = w.heap.size) ([] : List Hd) 2 1 (some ⟨w1.heap.size, 0, none⟩) 1 it35 100 w2 (fifo_at0 _ _ _ _ (HL1.out.below HB2.out)) (fifo_inv00 _ _ _ _) rfl okL_35 (HLD.out.below hb02) hit (fun a ha _ e => by simp only [Option.some.injEq] at ha; subst ha; have : w1.heap.size = w.heap.size := e; omega) (by unfold maxLen; decide) (by decide) (by decide)
  refine HRUN.mono ?_
  rintro e w3 ⟨k, sv, lv, F, rfl, hR⟩
  obtain rfl := linked_k hR.on hR.off
  have hsent := hR.sent
  rw [(linked_runs w.heap.size).2.2.2] at hsent
  obtain ⟨sb, so, sc, rfl, _, _, hsb, hsc⟩ := hsent.some (by decide)
  have q0 : w3.cell? ⟨sb, so, none⟩ = some (.int .i64 0) := hsc 0 _ rfl
  have q1 : w3.cell? ⟨sb, so + 1, none⟩ = some (.int .i64 3) := hsc 1 _ rfl
  have q2 : w3.cell? ⟨sb, so + 2, none⟩ = some (.int .i64 6) := hsc 2 _ rfl
  obtain ⟨lx, ln, lc, rfl⟩ : ∃ x n c, lv = .slice x n c := by rcases Seg.form hR.lost with ⟨h, _⟩ | ⟨b, o, c, h, _⟩ <;> exact ⟨_, _, _, h⟩
  have HFin : Hid (Below w.heap.size w w3) := hb02.trans (hR.ot.below hb02.size (fun k hk => by have : k = w.heap.size := hk; omega))
  generalize (FifoM w.heap.size 5 100 false).len _ = a1
  generalize (itL (FifoM w.heap.size 5 100 false) it35 2 1 ([] : List Hd) 2).1.most = a2
  clear hsc hsent hR HRUN hit hb02
  go_wp2
  go_ret
  exact ⟨rfl, HFin.out.alloc HFin.out.size _⟩
end Go.Proofs.YticplgdfgckicaaGreatDoor
