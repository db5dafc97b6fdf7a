/-
  sced.Make: the plan at every argument. Conditions: the flows lie in memory.
-/
import Derived.Test.YtnaooocmggnojaaDoorSd8
namespace Go.Proofs.YtnaooocmggnojaaDoor
open Go.RowKit Go.Extern.Stop Go.Stop Go.Extern

/-- No plan. -/
def noPlan : Value := .agg #[.slice none 0 0, .slice none 0 0, .slice none 0 0]
theorem make_no (x : Option Addr) (cap m : Nat) (ticks E : Int) (w : World) (hE : E ≠ 0)
    (hc : ∀ W, Below w.heap.size w W → Calls Tryd.prog 9 #[.slice x m cap] W fun e w' => e = .returned (errV E) ∧ Below W.heap.size W w') :
    Calls Tryd.prog 12 #[.slice x m cap, .int .i64 ticks] w fun e w' => e = .returned (.tuple #[noPlan, errV E]) ∧ Below w.heap.size w w' := by
  rw [errV_not hE] at hc ⊢
  have HC : Hid (∀ W, Below w.heap.size w W → Calls Tryd.prog 9 #[.slice x m cap] W fun e w' => e = .returned (.iface 26 (.int .i64 E)) ∧ Below W.heap.size W w') := hc
  clear hc hE
  go_enter Tryd.func12, Tryd.ntmps12
  go_wp2_with fail
  refine (HC.out _ (below_alloc_ (Below.refl _ _) _)).mono ?_
  rintro e w1 ⟨rfl, hb1⟩
  have hB1 : Below w.heap.size w w1 := below_after (below_alloc_ (Below.refl _ _) _) hb1
  have hbk : w1.heap[w.heap.size]? = some (.cells #[.slice none 0 0, .slice none 0 0, .slice none 0 0] 43 (0, 0)) := (hb1.block _ (by simp)).trans (new_block _ _)
  have k0 : w1.cell? ⟨w.heap.size, 0, none⟩ = some (.slice none 0 0) := by simp [World.cell?, hbk]
  have k1 : w1.cell? ⟨w.heap.size, 1, none⟩ = some (.slice none 0 0) := by simp [World.cell?, hbk]
  have k2 : w1.cell? ⟨w.heap.size, 2, none⟩ = some (.slice none 0 0) := by simp [World.cell?, hbk]
  have f0 : w1.frozen? ⟨w.heap.size, 0, none⟩ = false := by simp [World.frozen?, hbk]
  have f1 : w1.frozen? ⟨w.heap.size, 1, none⟩ = false := by simp [World.frozen?, hbk]
  have f2 : w1.frozen? ⟨w.heap.size, 2, none⟩ = false := by simp [World.frozen?, hbk]
  have hlt : w.heap.size < w1.heap.size := lt_of_block hbk
  have HB1 : Hid (Below w.heap.size w w1) := hB1
  clear hB1 hb1 hbk
  go_wp2
  (try simp only [Exit.inBlock, Exit.then])
  refine bodyPost_ret (v := .tuple #[noPlan, .iface 26 (.int .i64 E)]) ?_ rfl ⟨rfl, ?_⟩
  · rw [results_cell_tmp rfl]
    go_simp
    rfl
  · repeat' (first | with_reducible exact HB1.out | with_reducible refine Below.setCell ?_ (by simp) _)
/-- Three cells of a plan. -/
theorem plan_cells {w : World} {r : Nat} {a0 a1 a2 : Value} {t : TypeId} (h : w.heap[r]? = some (.cells #[a0, a1, a2] t (0, 0))) :
    (w.cell? ⟨r, 0, none⟩ = some a0 ∧ w.cell? ⟨r, 1, none⟩ = some a1 ∧ w.cell? ⟨r, 2, none⟩ = some a2) ∧ (w.frozen? ⟨r, 0, none⟩ = false ∧ w.frozen? ⟨r, 1, none⟩ = false ∧ w.frozen? ⟨r, 2, none⟩ = false) ∧ r < w.heap.size := by
  refine ⟨⟨?_, ?_, ?_⟩, ⟨?_, ?_, ?_⟩, lt_of_block h⟩ <;> simp [World.cell?, World.frozen?, h]
set_option maxHeartbeats 1000000 in
theorem make_range (b off cap m : Nat) (ticks : Int) (F : Nat → Flw) (w : World) (hF : FlsAt w b off m F) (hok : FsOk m F) (ht : ticks < (F 0).n ∨ (rch F m : Int) ≤ ticks) :
    Calls Tryd.prog 12 #[.slice (some ⟨b, off, none⟩) m cap, .int .i64 ticks] w fun e w' => e = .returned (.tuple #[noPlan, errV 2]) ∧ Below w.heap.size w w' := by
  rw [errV_not (by decide)]
  have hm8 := hok.hi
  have hm1 := hok.lo
  have hml : m ≤ maxLen := by unfold maxLen; omega
  have HF : Hid (FlsAt w b off m F) := hF
  have HC : Hid (∀ W, Below w.heap.size w W → Calls Tryd.prog 9 #[.slice (some ⟨b, off, none⟩) m cap] W fun e w' => e = .returned .nilIface ∧ Below W.heap.size W w') := fun W hW => by
    have := scheck_any b off cap m F W hml (hF.below hW)
    rw [scedE_zero.2 hok, errV_zero] at this
    exact this
  obtain ⟨n0, HN0⟩ : ∃ n0, Hid ((F 0).n = n0) := ⟨_, rfl⟩
  rw [HN0.out] at ht
  have hn0 : n0 ≤ 201 := by have := (hok.ok 0 (by omega)).lt; have := (hok.ok 0 (by omega)).cv.len; have := HN0.out; omega
  clear hF hok
  by_cases h1 : ticks < n0
  · clear ht
    go_enter Tryd.func12, Tryd.ntmps12
    go_wp2_with fail
    refine (HC.out _ (below_alloc_ (Below.refl _ _) _)).mono ?_
    rintro e w1 ⟨rfl, hb1⟩
    have HB1 : Hid (Below w.heap.size w w1) := below_after (below_alloc_ (Below.refl _ _) _) hb1
    obtain ⟨⟨k0, k1, k2⟩, ⟨f0, f1, f2⟩, hlt⟩ := plan_cells ((hb1.block w.heap.size (by simp)).trans (new_block w (.cells #[.slice none 0 0, .slice none 0 0, .slice none 0 0] 43)))
    obtain ⟨d0, _, _⟩ := HF.out.below HB1.out 0 (by omega)
    simp only [Nat.zero_mul, Nat.add_zero] at d0
    rw [HN0.out] at d0
    have hbs := World.block_lt_of_cell? w1 _ d0
    clear hb1
    go_wp2
    (try simp only [Exit.inBlock, Exit.then])
    refine bodyPost_ret (v := .tuple #[noPlan, .iface 26 (.int .i64 2)]) ?_ rfl ⟨rfl, ?_⟩
    · rw [results_cell_tmp rfl]
      go_simp
      rfl
    · repeat' (first | with_reducible exact HB1.out | with_reducible refine Below.setCell ?_ (by simp) _)
  · have h2 : (rch F m : Int) ≤ ticks := by omega
    clear ht
    go_enter Tryd.func12, Tryd.ntmps12
    go_wp2_with fail
    refine (HC.out _ (below_alloc_ (Below.refl _ _) _)).mono ?_
    rintro e w1 ⟨rfl, hb1⟩
    have HB1 : Hid (Below w.heap.size w w1) := below_after (below_alloc_ (Below.refl _ _) _) hb1
    have HK1 : Hid (w1.heap[w.heap.size]? = some (.cells #[.slice none 0 0, .slice none 0 0, .slice none 0 0] 43 (0, 0))) := (hb1.block w.heap.size (by simp)).trans (new_block w (.cells #[.slice none 0 0, .slice none 0 0, .slice none 0 0] 43))
    obtain ⟨d0, _, _⟩ := HF.out.below HB1.out 0 (by omega)
    simp only [Nat.zero_mul, Nat.add_zero] at d0
    rw [HN0.out] at d0
    have hbs := World.block_lt_of_cell? w1 _ d0
    clear hb1
    go_wp2_with (go_at_call 17; refine (sreach_any b off cap m F w1 hml (by omega) (HF.out.below HB1.out)).mono ?_; rintro e w2 ⟨rfl, hb2⟩; obtain ⟨⟨k0, k1, k2⟩, ⟨f0, f1, f2⟩, hlt⟩ := plan_cells ((hb2.block w.heap.size (lt_of_block HK1.out)).trans HK1.out); have HB2 : Hid (Below w.heap.size w w2) := below_after HB1.out hb2; clear hb2)
    (try simp only [Exit.inBlock, Exit.then])
    refine bodyPost_ret (v := .tuple #[noPlan, .iface 26 (.int .i64 2)]) ?_ rfl ⟨rfl, ?_⟩
    · rw [results_cell_tmp rfl]
      go_simp
      rfl
    · repeat' (first | with_reducible exact HB2.out | with_reducible refine Below.setCell ?_ (by simp) _)
end Go.Proofs.YtnaooocmggnojaaDoor
