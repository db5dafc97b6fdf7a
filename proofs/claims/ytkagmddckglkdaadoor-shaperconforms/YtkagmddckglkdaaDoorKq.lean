/-
  millracekeep.first: it returns true, and nothing that was there before is otherwise. No condition.
-/
import Derived.Test.YtkagmddckglkdaaDoorKm
import Derived.Test.YtkagmddckglkdaaDoorPy
namespace Go.Proofs.YtkagmddckglkdaaDoor
open Go.RowKit Go.Extern.Stop Go.Stop Go.Extern

def steps4 : List Stp := [⟨0, 0, 0, 5, 0, 0, 0⟩, ⟨0, 0, 0, 6, 0, 0, 0⟩, ⟨0, 0, 0, 7, 0, 0, 0⟩, ⟨1, 0, 0, 0, 0, 0, 0⟩]
def seen4 : List Sn := [⟨-1, 0, -1, 1, 5, []⟩, ⟨-1, 0, -1, 2, 11, []⟩, ⟨-1, 0, -1, 2, 11, [2]⟩, ⟨0, 0, -1, 1, 6, []⟩]
theorem play4 (b : Nat) : playFrom (FifoM b 2 100 false) ([] : List Hd) 0 (timesL 0 steps4) = seen4 := by rfl
theorem newFifo_at (b : Nat) (P R : Int) (hd : Bool) {w : World} (h : LAt w b 75 (frest P R hd []) (.slice none 0 0) []) : (FifoM b P R hd).At w (· = b) ([] : List Hd) := ⟨.slice none 0 0, h, fun k => by simp [Value.ownBlock]⟩
theorem fifo_inv0 (b : Nat) (P R : Int) (hd : Bool) : (FifoM b P R hd).inv 0 0 ([] : List Hd) := ⟨Nat.le_refl _, by simp⟩

set_option maxHeartbeats 2000000 in
theorem first_all (w : World) : Calls Tryd.prog 7 #[] w fun e w' => e = .returned (.bool true) ∧ Below w.heap.size w w' := by
  go_enter Tryd.func7, Tryd.ntmps7
  go_wp2_with (first | (go_at_call 6; refine (newFifo_yes 2 100 false w (by decide) (by decide) (by decide) (by decide)).mono ?_; rintro e w1 ⟨rfl, hl1, hw1⟩; have hs1 : w.heap.size < w1.heap.size := by rw [hw1]; simp) | (go_at_call 10; fail))
  have hL2 := hl1.below (below_alloc_ (Below.refl _ _) (.cells (flt Stp.cs steps4).toArray 45))
  subst hw1
  refine (play_any (FifoM w.heap.size 2 100 false) (fifoM_fine _ _ _ _ (by decide) (by decide) (by decide)) (· = w.heap.size) ([] : List Hd) (some ⟨w.heap.size + 1, 0, none⟩) 4 steps4 _ ?_ (by decide) (newFifo_at _ _ _ _ hL2) (fifo_inv0 _ _ _ _)).mono ?_
  · refine Or.inr ⟨w.heap.size + 1, 0, rfl, by simp, fun j u hj => ?_⟩
    have := news_of (new_block_ (w := w.alloc (.cells #[.slice none 0 0, .int .i64 0, .int .i64 2, .int .i64 100, .bool false] 75)) (o := .cells (flt Stp.cs steps4).toArray 45) (n := w.heap.size + 1) (by simp)) j u hj
    rw [Addr.add_lit] at this
    exact this
  rintro e w3 ⟨u, us, F, rfl, hsn, hot⟩
  rw [play4] at hsn
  have hlen := hsn.len
  obtain ⟨u0, u1, u2, u3, rfl⟩ : ∃ u0 u1 u2 u3, us = [u0, u1, u2, u3] := by
    match us, hlen with
    | [a, b, c, d], _ => exact ⟨a, b, c, d, rfl⟩
  obtain ⟨x, cap, rfl, hlies⟩ := hsn.lies
  obtain ⟨h2, _⟩ := hsn.lost 2 ⟨-1, 0, -1, 2, 11, [2]⟩ u2 rfl rfl
  obtain ⟨b2, o2, c2, hu2, hb2, k2, _⟩ := h2.at (k := 0) (x := 2) rfl
  obtain ⟨b, off, rfl, hb, a0, a1, a2, a3, a4, a5⟩ := hlies.seen (k := 2) (p := (⟨-1, 0, -1, 2, 11, [2]⟩, u2)) rfl
  obtain ⟨b', off', e', hb', d0, d1, d2, d3, d4, d5⟩ := hlies.seen (k := 3) (p := (⟨0, 0, -1, 1, 6, []⟩, u3)) rfl
  simp only [Option.some.injEq, Addr.mk.injEq, and_true] at e'
  obtain ⟨rfl, rfl⟩ := e'
  subst hu2
  have hfin : Below w.heap.size w w3 := by
    have h1 : Below w.heap.size w ((w.alloc (.cells #[.slice none 0 0, .int .i64 0, .int .i64 2, .int .i64 100, .bool false] 75)).alloc (.cells (flt Stp.cs steps4).toArray 45)) := below_alloc_ (below_alloc_ (Below.refl _ _) _) _
    exact h1.trans (hot.below (by simp <;> omega) (fun k hk => by omega))
  have HF : Hid (Below w.heap.size w w3) := hfin
  clear hsn hlies h2 hot hL2 hl1 hfin
  simp only [Nat.reduceMul, List.length_cons, List.length_nil, Nat.zero_add, Nat.add_zero] at a0 a1 a2 a3 a4 a5 d0 d1 d2 d3 d4 d5 k2
  go_wp2
  go_ret
  exact ⟨rfl, HF.out⟩
end Go.Proofs.YtkagmddckglkdaaDoor
