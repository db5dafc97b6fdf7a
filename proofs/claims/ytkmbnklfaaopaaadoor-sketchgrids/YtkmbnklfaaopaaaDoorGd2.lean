/-
  sketch.NewGrid: a grid of noughts in new memory, or its error; nothing that was there is otherwise. No condition.
-/
import Derived.Test.YtkmbnklfaaopaaaDoorGd1
namespace Go.Proofs.YtkmbnklfaaopaaaDoor
open Go.RowKit Go.Extern.Stop Go.Stop Go.Extern

theorem infoInts : (Tryd.prog.info? 22).map (fun i => (i.zero, i.size, i.bytes)) = some (some (.slice none 0 0), 1, 24) := by kernel_rfl
theorem newGrid_no (r c : Int) (w : World) (h : r < 1 ∨ 8 < r ∨ c < 1 ∨ 1000 < c) :
    Calls Tryd.prog 12 #[.int .i64 r, .int .i64 c] w fun e w' => e = .returned (.tuple #[.pointer none, .iface 24 (.int .i64 2)]) ∧ w' = w := by
  by_cases h1 : r < 1
  · go_enter Tryd.func12, Tryd.ntmps12
    go_wp2
    go_ret2
    exact ⟨rfl, rfl⟩
  · by_cases h2 : 8 < r
    · go_enter Tryd.func12, Tryd.ntmps12
      go_wp2
      go_ret2
      exact ⟨rfl, rfl⟩
    · by_cases h3 : c < 1
      · go_enter Tryd.func12, Tryd.ntmps12
        go_wp2
        go_ret2
        exact ⟨rfl, rfl⟩
      · have h4 : 1000 < c := by omega
        go_enter Tryd.func12, Tryd.ntmps12
        go_wp2
        go_ret2
        exact ⟨rfl, rfl⟩
theorem cell_other {w w' : World} {g : Nat} {a : Array Value} {t : TypeId} {fr : Nat × Nat} (h : w.heap[g]? = some (.cells a t fr)) (hb : w'.heap[g]? = w.heap[g]?) : w'.heap[g]? = some (.cells a t fr) := hb.trans h
/-- One row more. -/
theorem GrS.push {wr W w1 : World} {g lo C k : Nat} {v : Value} {gb : Nat → Nat} (h : GrS wr g v gb lo wr.heap.size C k (fun _ _ => 0)) {b off cap : Nat}
    (hW : Below wr.heap.size wr W) (hWs : W.heap.size = wr.heap.size + 1 + 1) (hWr : W.heap[wr.heap.size]? = some (.cells (madeCells #[.int .i64 0] C) 3)) (hg1 : W.grownBy w1 v.ownBlock)
    (ha1 : v.ownBlock = some b ∨ wr.heap.size + 1 + 1 ≤ b) (hl1 : b < w1.heap.size)
    (hs1 : Seg w1 22 1 (.slice (some ⟨b, off, none⟩) (k + 1) cap) (k + 1) (rowsV gb C k ++ [.slice (some ⟨wr.heap.size, 0, none⟩) C C])) (hlo : lo ≤ wr.heap.size) :
    GrS (w1.setCell ⟨g, 1, none⟩ (.slice (some ⟨b, off, none⟩) (k + 1) cap)) g (.slice (some ⟨b, off, none⟩) (k + 1) cap) (fun r => if r < k then gb r else wr.heap.size) lo w1.heap.size C (k + 1) (fun _ _ => 0) := by
  have hsz := hg1.size
  rw [hWs] at hsz
  have hgl := h.lt
  have hne : wr.heap.size ≠ g := by have := h.g0.2; omega
  have hbg : b ≠ g := by
    rintro rfl
    rcases ha1 with h1 | h1
    · exact h.vg h1
    · omega
  have hblk : ∀ j, j < wr.heap.size → v.ownBlock ≠ some j → w1.heap[j]? = wr.heap[j]? := fun j hj hne => by
    rw [hg1.block j (by omega) (fun e => hne e.symm), hW.block j hj]
  have hg : w1.heap[g]? = some (.cells #[.int .i64 C, v] 61 (0, 0)) := (hblk g hgl h.vg).trans h.blk
  have hvw : v.ownBlock ≠ some wr.heap.size := fun e => by have := (h.v0 _ e).2; omega
  refine ⟨?_, ?_, fun r hr => ?_, by simpa [Value.ownBlock] using hbg, fun r hr => ?_, fun r hr => ?_, fun r s hr hs e => ?_, ⟨h.g0.1, by omega⟩, fun b' hb' => ?_, fun r hr => ?_⟩
  · show (w1.heap.modify g _)[g]? = _
    rw [Array.getElem?_modify, if_pos rfl, hg]
    rfl
  · have e : rowsV (fun r => if r < k then gb r else wr.heap.size) C (k + 1) = rowsV gb C k ++ [.slice (some ⟨wr.heap.size, 0, none⟩) C C] := by
      rw [rowsV_succ, rowsV_congr (gc := gb) (fun r hr => if_pos hr)]
      simp
    rw [e]
    exact hs1.setCell (by simpa [Value.ownBlock] using hbg) _
  · by_cases e : r < k
    · simp only [if_pos e]
      refine (h.row r e).kept ?_
      rw [Below.heap_setCell _ _ _ _ (fun e2 => h.rg r e e2)]
      exact hblk _ (h.row r e).lt (h.vr r e)
    · simp only [if_neg e]
      refine (RwI.made wr C).kept ?_
      rw [Below.heap_setCell _ _ _ _ (fun e2 => hne e2), hg1.block _ (by omega) (fun e => hvw e.symm), hWr]
      exact (new_block _ _).symm
  · by_cases e : r < k
    · simp only [if_pos e, Value.ownBlock]
      intro e2
      simp only [Option.some.injEq] at e2
      rcases ha1 with h1 | h1
      · exact h.vr r e (by rw [h1, e2])
      · have := (h.r0 r e).2; omega
    · simp only [if_neg e, Value.ownBlock]
      intro e2
      simp only [Option.some.injEq] at e2
      rcases ha1 with h1 | h1
      · exact hvw (by rw [h1, e2])
      · omega
  · by_cases e : r < k
    · simp only [if_pos e]; exact h.rg r e
    · simp only [if_neg e]; have := h.g0.2; omega
  · by_cases e1 : r < k
    · by_cases e2 : s < k
      · simp only [if_pos e1, if_pos e2] at e
        exact h.rr r s e1 e2 e
      · simp only [if_pos e1, if_neg e2] at e
        have := (h.r0 r e1).2; omega
    · by_cases e2 : s < k
      · simp only [if_neg e1, if_pos e2] at e
        have := (h.r0 s e2).2; omega
      · omega
  · simp only [Value.ownBlock, Option.some.injEq] at hb'
    subst hb'
    refine ⟨?_, hl1⟩
    rcases ha1 with h1 | h1
    · exact (h.v0 _ h1).1
    · omega
  · by_cases e : r < k
    · simp only [if_pos e]; have := h.r0 r e; omega
    · simp only [if_neg e]; omega
theorem row_in2 (w : World) (o1 o2 : Obj) : ((w.alloc o1).alloc o2).heap[w.heap.size]? = some o1 := by
  rw [Below.heap_alloc _ _ _ (by simp)]
  exact new_block _ _
theorem pushB {w wr W w1 : World} {v : Value} (hB : Below w.heap.size w wr) (hW : Below wr.heap.size wr W) (hg1 : W.grownBy w1 v.ownBlock) (h0 : ∀ j, v.ownBlock = some j → w.heap.size ≤ j) : Below w.heap.size w w1 := by
  have hb2 : Below w.heap.size w W := hB.trans (hW.mono hB.size)
  exact hb2.grown hg1 hb2.size h0
/-- The grid's own block behind the append. -/
theorem GrS.mid {wr W w1 : World} {g lo hi C k : Nat} {v : Value} {gb : Nat → Nat} {M : Nat → Nat → Int} (h : GrS wr g v gb lo hi C k M) (hW : Below wr.heap.size wr W) (hg1 : W.grownBy w1 v.ownBlock) : w1.cell? ⟨g, 1, none⟩ = some v ∧ w1.frozen? ⟨g, 1, none⟩ = false := by
  have hgl := h.lt
  have e : w1.heap[g]? = some (.cells #[.int .i64 C, v] 61 (0, 0)) := by
    rw [hg1.block g (by have := hW.size; omega) (fun e => h.vg e.symm), hW.block g hgl]
    exact h.blk
  exact ⟨by simp [World.cell?, e], by simp [World.frozen?, e]⟩
set_option maxRecDepth 20000 in
set_option maxHeartbeats 2000000 in
theorem newGrid_yes (R C : Nat) (w : World) (hR0 : 1 ≤ R) (hR : R ≤ 8) (hC0 : 1 ≤ C) (hC : C ≤ 1000) :
    Calls Tryd.prog 12 #[.int .i64 R, .int .i64 C] w fun e w' => ∃ g v gb, e = .returned (.tuple #[.pointer (some ⟨g, 0, none⟩), .nilIface]) ∧ GrS w' g v gb w.heap.size w'.heap.size C R (fun _ _ => 0) ∧ Below w.heap.size w w' := by
  have h1 : ¬ (R : Int) < 1 := by omega
  have h2 : ¬ 8 < (R : Int) := by omega
  have h3 : ¬ (C : Int) < 1 := by omega
  have h4 : ¬ 1000 < (C : Int) := by omega
  obtain ⟨i0, hi, hz0, hz1, hz2⟩ := info_parts infoInts
  have hmk := make_rowI C hC
  go_enter Tryd.func12, Tryd.ntmps12
  go_wp2
  go_loopw [26] (fun i wr => ∃ k : Nat, k ≤ R ∧ i = .int .i64 k ∧ ∃ v gb, GrS wr w.heap.size v gb w.heap.size wr.heap.size C k (fun _ _ => 0) ∧ Below w.heap.size w wr) (fun i _ => R - (intOf i).toNat)
  case atStart =>
    refine ⟨0, Nat.zero_le _, rfl, .slice none 0 0, fun _ => 0, ⟨new_block _ _, Seg.nil _ _ _, fun r hr => by omega, by simp [Value.ownBlock], fun r hr => by omega, fun r hr => by omega, fun r s hr => by omega, ⟨Nat.le_refl _, by simp⟩, fun b hb => by simp [Value.ownBlock] at hb, fun r hr => by omega⟩, (Below.refl _ _).alloc (Nat.le_refl _) _⟩
  case round =>
    obtain ⟨k, hk, rfl, v, gb, hg, hbel⟩ := hrel
    have HG : Hid (GrS wr w.heap.size v gb w.heap.size wr.heap.size C k (fun _ _ => 0)) := hg
    have HB : Hid (Below w.heap.size w wr) := hbel
    by_cases hlt : k < R
    · obtain ⟨c0, c1⟩ := hg.cells
      have HSEG : Hid (Seg wr 22 1 v k (rowsV gb C k)) := hg.seg
      have hgl := hg.lt
      clear hg hbel
      go_wp2
      go_region_law (refine step_append_seg _ (by rfl) (.tmp 32) (.tmp 35) 59 (by rfl) 22 i0 _ 1 24 Tryd.underlying59 hi hz0 hz1 hz2 rfl (by decide) _ _ _ (by rfl) (HSEG.out.below (by repeat' (first | with_reducible exact Below.refl _ _ | with_reducible refine Below.drew ?_ | with_reducible refine below_alloc_ ?_ _))) ⟨wr.heap.size + 1, 0, none⟩ 1 1 [.slice (some ⟨wr.heap.size, 0, none⟩) C C] (by rfl) rfl (news_of (new_block_ (by simp))) (by simp [Value.oneCell']) (by decide) (by unfold maxLen; omega) (by omega) _ rfl ?_; intro b off cap w1 hs1 hg1 ha1 hl1; obtain ⟨d1, z1⟩ := HG.out.mid (by repeat' (first | with_reducible exact Below.refl _ _ | with_reducible refine Below.drew ?_ | with_reducible refine below_alloc_ ?_ _)) hg1; have hp := HG.out.push (by repeat' (first | with_reducible exact Below.refl _ _ | with_reducible refine Below.drew ?_ | with_reducible refine below_alloc_ ?_ _)) (by simp) (by exact row_in2 wr _ _) hg1 (by simpa using ha1) hl1 hs1 HB.out.size; have HP : Hid (GrS (w1.setCell ⟨w.heap.size, 1, none⟩ (.slice (some ⟨b, off, none⟩) (k + 1) cap)) w.heap.size (.slice (some ⟨b, off, none⟩) (k + 1) cap) (fun r => if r < k then gb r else wr.heap.size) w.heap.size w1.heap.size C (k + 1) (fun _ _ => 0)) := hp; have HBE : Hid (Below w.heap.size w w1) := pushB HB.out (by repeat' (first | with_reducible exact Below.refl _ _ | with_reducible refine Below.drew ?_ | with_reducible refine below_alloc_ ?_ _)) hg1 (fun j e => (HG.out.v0 j e).1); clear hp hg1 hs1 ha1)
      all_goals
        go_wp2
        go_roundw
        case rel =>
          refine ⟨k + 1, by omega, by go_num, .slice (some ⟨b, off, none⟩) (k + 1) cap, fun r => if r < k then gb r else wr.heap.size, ?_, ?_⟩
          · rw [World.size_setCell]
            exact HP.out
          · exact HBE.out.setCell (Nat.le_refl _) _
        case measure => simp [intOf]; omega
    · obtain rfl : k = R := by omega
      clear hg hbel
      go_wp2
      go_ret2
      exact ⟨_, v, gb, rfl, HG.out, HB.out⟩
end Go.Proofs.YtkmbnklfaaopaaaDoor
