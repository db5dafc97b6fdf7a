/-
  millracekeep.promised is true. No condition.
-/
import Derived.Test.YtakggmhjfghfkaaSdb
import Derived.Test.YtakggmhjfghfkaaCvK1
namespace Go.Proofs.Ytakggmhjfghfkaa
open Go.RowKit Go.Extern.Stop Go.Stop Go.Extern

def fourP : Nat → Int
  | 0 => 0
  | 1 => 0
  | 2 => 1
  | _ => 2
def f1 (a b : Option Addr) : Nat → Flw := fun _ => ⟨a, 1, 1, fun _ => 1, b, 4, 4, fourP⟩
theorem f1_ok (a b : Option Addr) : FsOk 1 (f1 a b) := by
  refine scedE_zero.1 ?_
  show (if (1 : Nat) < 1 ∨ 8 < 1 then (4 : Int) else fst0 (fun _ => flowE ⟨a, 1, 1, fun _ => 1, b, 4, 4, fourP⟩ 1) 1) = 0
  have : flowE ⟨a, 1, 1, fun _ => 1, b, 4, 4, fourP⟩ 1 = 0 := by
    unfold flowE
    rw [if_pos (show curveE 4 fourP = 0 by decide), if_pos rfl, if_neg (show ¬ (4 : Nat) ≤ 1 by decide)]
    show cellsE 1 (fun _ => 1) = 0
    decide
  simp [fst0, this]
def c1 : Nat → Nat → Int := fun _ => padF 1 (fun _ => 1)
def p1 : Nat → Nat → Int := fun _ => prm (padF 1 (fun _ => 1)) fourP 3
theorem v_k : (tot (padF 1 (fun _ => 1)) (3 + 1)).toNat = 1 := by decide
theorem v_s0 : pik p1 c1 1 0 = 0 := by decide
theorem v_s1 : pik p1 c1 1 1 = -1 := by decide
theorem v_p : p1 0 0 = 2 := by decide
theorem v_t : thr p1 c1 1 3 0 0 = 1 := by decide
theorem one_row (w : World) (a : Int) {t : TypeId} {b : Nat} (h : b = w.heap.size) : Row (w.alloc (.cells #[.int .i64 a] t)) (some ⟨b, 0, none⟩) 1 (fun _ => a) := Or.inr ⟨b, 0, rfl, fun i hi => by
  obtain rfl : i = 0 := by omega
  subst h
  simp⟩
set_option maxRecDepth 20000 in
set_option maxHeartbeats 2000000 in
theorem promised_true (w : World) : Calls Try.prog 7 #[] w fun e w' => e = .returned (.bool true) ∧ Below w.heap.size w w' := by
  go_enter Try.func7, Try.ntmps7
  go_wp2_with fail
  obtain ⟨W, hW⟩ : ∃ W, W = (((w.alloc (.cells #[.int .i64 1] 3)).alloc (.cells #[.int .i64 0, .int .i64 0, .int .i64 1, .int .i64 2] 3)).alloc (.cells #[.slice (some ⟨w.heap.size, 0, none⟩) 1 1, .slice (some ⟨w.heap.size + 1, 0, none⟩) 4 4] 26)) := ⟨_, rfl⟩
  rw [← hW]
  have hB : Below w.heap.size w W := by subst hW; exact below_alloc_ (below_alloc_ (below_alloc_ (Below.refl _ _) _) _) _
  have k0 : W.heap[w.heap.size]? = some (.cells #[.int .i64 1] 3 (0, 0)) := by
    subst hW
    rw [Below.heap_alloc _ _ _ (by simp; omega), Below.heap_alloc _ _ _ (by simp)]
    exact new_block _ _
  have k1 : W.heap[w.heap.size + 1]? = some (.cells #[.int .i64 0, .int .i64 0, .int .i64 1, .int .i64 2] 3 (0, 0)) := by
    subst hW
    rw [Below.heap_alloc _ _ _ (by simp)]
    exact new_block_ (by simp)
  have k2 : W.heap[w.heap.size + 1 + 1]? = some (.cells #[.slice (some ⟨w.heap.size, 0, none⟩) 1 1, .slice (some ⟨w.heap.size + 1, 0, none⟩) 4 4] 26 (0, 0)) := by
    subst hW
    exact new_block_ (by simp)
  have hFl : FlsAt W (w.heap.size + 1 + 1) 0 1 (f1 (some ⟨w.heap.size, 0, none⟩) (some ⟨w.heap.size + 1, 0, none⟩)) := by
    intro i hi
    obtain rfl : i = 0 := by omega
    refine ⟨by simp [World.cell?, k2, f1], by simp [World.cell?, k2, f1], ⟨Or.inr ⟨_, 0, rfl, fun i hi => ?_⟩, Or.inr ⟨_, 0, rfl, fun i hi => ?_⟩, by simp [f1, maxLen], by simp [f1, maxLen]⟩⟩
    · have hi : i < 1 := hi
      obtain rfl : i = 0 := by omega
      simp [World.cell?, k0, f1]
    · have hi : i < 4 := hi
      match i, hi with
      | 0, _ => simp [World.cell?, k1, f1, fourP]
      | 1, _ => simp [World.cell?, k1, f1, fourP]
      | 2, _ => simp [World.cell?, k1, f1, fourP]
      | 3, _ => simp [World.cell?, k1, f1, fourP]
  have HB : Hid (Below w.heap.size w W) := hB
  refine (make_any (w.heap.size + 1 + 1) 0 1 1 3 (f1 (some ⟨w.heap.size, 0, none⟩) (some ⟨w.heap.size + 1, 0, none⟩)) W hFl (f1_ok _ _) (by show 1 ≤ 3; decide) (by show 3 < rch _ 1; exact (by decide : 3 < min 4 4))).mono ?_
  rintro e w1 ⟨sv, prv, thv, rfl, hP, hb1⟩
  have HB1 : Hid (Below w.heap.size w w1) := below_after hB hb1
  have hP' : PlanR w1 1 3 c1 (fun _ => 1) p1 sv prv thv := by
    have e1 : kF (f1 (some ⟨w.heap.size, 0, none⟩) (some ⟨w.heap.size + 1, 0, none⟩)) 3 = fun _ => 1 := funext fun _ => v_k
    rw [e1] at hP
    exact hP
  obtain ⟨⟨x, sc, rfl, hrow, _⟩, pb, po, pc, tb, tf, tc, px, tx, pk, tk, rfl, rfl, h3⟩ := hP'
  obtain ⟨sb, so, rfl⟩ := hrow.some (by omega)
  have s0 := hrow.at (i := 0) (by omega)
  have s1 := hrow.at (i := 1) (by omega)
  rw [v_s0] at s0
  rw [v_s1] at s1
  obtain ⟨g1, g2, g3, g4⟩ := h3 0 (by omega)
  simp only [Nat.add_zero] at s0 g1 g2
  have b1 := World.block_lt_of_cell? w1 _ s0
  have b2 := World.block_lt_of_cell? w1 _ g1
  have b3 := World.block_lt_of_cell? w1 _ g2
  have HG3 : Hid (Row w1 (px 0) 1 (p1 0)) := g3
  have HG4 : Hid (Row w1 (tx 0) 1 (thr p1 c1 1 3 0)) := g4
  generalize px 0 = px0 at *
  generalize tx 0 = tx0 at *
  generalize pk 0 = pk0 at *
  generalize tk 0 = tk0 at *
  clear hW hB k0 k1 k2 hFl hP hb1 hrow h3 g3 g4
  go_wp2_with fail
  refine (same_any px0 (some ⟨w1.heap.size + 1, 0, none⟩) pk0 1 1 (p1 0) (fun _ => 2) _ (by unfold maxLen; omega) (HG3.out.below (below_alloc_ (below_alloc_ (Below.refl _ _) _) _)) (one_row _ _ (by simp)) (fun i hi => by obtain rfl : i = 0 := (by omega); exact v_p)).mono ?_
  rintro e w3 ⟨rfl, q3, rfl⟩
  go_wp2_with fail
  refine (same_any tx0 (some ⟨w1.heap.size + 1 + 1, 0, none⟩) tk0 1 1 (thr p1 c1 1 3 0) (fun _ => 1) _ (by unfold maxLen; omega) ?_ (one_row _ _ (by simp)) (fun i hi => by obtain rfl : i = 0 := (by omega); exact v_t)).mono ?_
  · exact (HG4.out.below (below_alloc_ (below_drewN' (below_alloc_ (below_alloc_ (Below.refl _ _) _) _) _) _))
  rintro e w4 ⟨rfl, q4, rfl⟩
  go_wp2
  go_ret
  exact ⟨rfl, below_drewN' (below_after HB1.out (below_alloc_ (below_drewN' (below_alloc_ (below_alloc_ (Below.refl _ _) _) _) _) _)) _⟩
end Go.Proofs.Ytakggmhjfghfkaa
