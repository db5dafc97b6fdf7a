/-
  (*row).waits, ahead, send: what each returns, what it leaves. Conditions: the rows lie in memory, and a cell waits where one is asked for.
-/
import Derived.Test.YtnaooocmggnojaaDoorSd4
namespace Go.Proofs.YtnaooocmggnojaaDoor
open Go.RowKit Go.Extern.Stop Go.Stop Go.Extern

theorem seg_at {w : World} {v : Value} {k : Nat} {f : Nat → Int} (h : Seg w 3 1 v k (vals f k)) {j : Nat} (hj : j < k) : ∃ b off cap, v = .slice (some ⟨b, off, none⟩) k cap ∧ w.cell? ⟨b, off + j, none⟩ = some (.int .i64 (f j)) ∧ w.frozen? ⟨b, off + j, none⟩ = false ∧ b < w.heap.size := by
  rcases h.2 with ⟨_, h0⟩ | ⟨b, off, cap, cur, rfl, hh, h1, h2, h3, h4⟩
  · omega
  · exact ⟨b, off, cap, rfl, by simp only [World.cell?, hh]; exact h4 j _ (vals_at f k j hj), by simp [World.frozen?, hh], lt_of_block hh⟩
/-- A number of a row is another one. -/
theorem seg_set {w : World} {b off k cap : Nat} {f f' : Nat → Int} {j : Nat} {u : Int} (h : Seg w 3 1 (.slice (some ⟨b, off, none⟩) k cap) k (vals f k)) (hf : ∀ i, i < k → f' i = if i = j then u else f i) : Seg (w.setCell ⟨b, off + j, none⟩ (.int .i64 u)) 3 1 (.slice (some ⟨b, off, none⟩) k cap) k (vals f' k) := by
  refine ⟨by simp [vals], ?_⟩
  rcases h.2 with ⟨e, _⟩ | ⟨b', off', cap', cur, e, hh, h1, h2, h3, h4⟩
  · cases e
  · simp only [Value.slice.injEq, Option.some.injEq, Addr.mk.injEq, and_true, true_and] at e
    obtain ⟨⟨rfl, rfl⟩, rfl⟩ := e
    refine Or.inr ⟨b, off, cap, _, rfl, heap_setCell_here hh _, h1, h2, by simpa using h3, fun i v hv => ?_⟩
    have hi : i < k := by
      have := (List.getElem?_eq_some_iff.1 hv).1
      simpa [vals] using this
    rw [vals_at f' k i hi, hf i hi] at hv
    by_cases e : i = j
    · subst e
      rw [if_pos rfl] at hv
      rw [Array.getElem?_setIfInBounds_self_of_lt (by omega)]
      exact hv
    · rw [if_neg e] at hv
      rw [Array.getElem?_setIfInBounds_ne (by omega)]
      exact h4 i v (by rw [vals_at f k i hi]; exact hv)
variable {w w' : World} {r cb : Nat} {pv tv : Value} {n : Nat} {c : Nat → Int} {k : Nat} {P T : Nat → Int} {h : Int} {g : Nat}
theorem waits_any (w : World) (H : RwAt w r cb pv tv n c k P T h g) :
    Calls Tryd.prog 30 #[.pointer (some ⟨r, 0, none⟩)] w fun e w' => e = .returned (.bool (decide ((g : Int) < h))) ∧ ∃ q, w' = w.drewN q := by
  obtain ⟨⟨c0, c1, c2, c3, c4⟩, _⟩ := cells_of H.blk
  clear H c0 c1 c2
  go_enter Tryd.func30, Tryd.ntmps30
  go_wp2
  go_quiet (fail)
  go_wp2
  go_ret
  exact ⟨rfl, _, rfl⟩
def aheadB (a b : Int) : Bool := decide (0 ≤ a) && (decide (b < 0) || decide (a < b))
set_option maxHeartbeats 1000000 in
theorem ahead_any {r2 cb2 : Nat} {pv2 tv2 : Value} {n2 : Nat} {d : Nat → Int} {k2 : Nat} {P2 T2 : Nat → Int} {h2 : Int} {g2 : Nat} (w : World) (H : RwAt w r cb pv tv n c k P T h g) (H2 : RwAt w r2 cb2 pv2 tv2 n2 d k2 P2 T2 h2 g2) (hg : g < k) (hg2 : g2 < k2) :
    Calls Tryd.prog 31 #[.pointer (some ⟨r, 0, none⟩), .pointer (some ⟨r2, 0, none⟩)] w fun e w' => e = .returned (.bool (aheadB (P g) (P2 g2))) ∧ ∃ q, w' = w.drewN q := by
  obtain ⟨b, off, cap, rfl, x0, _, _⟩ := seg_at H.prom hg
  obtain ⟨b2, off2, cap2, rfl, x1, _, _⟩ := seg_at H2.prom hg2
  obtain ⟨⟨_, c1, _, _, c4⟩, _⟩ := cells_of H.blk
  obtain ⟨⟨_, d1, _, _, d4⟩, _⟩ := cells_of H2.blk
  clear H H2
  generalize P g = a at *
  generalize P2 g2 = z at *
  by_cases h0 : 0 ≤ a
  · by_cases h1 : z < 0
    · have HE : Hid (aheadB a z = true) := by show _ = _; simp [aheadB, h0, h1]
      go_enter Tryd.func31, Tryd.ntmps31
      go_wp2
      go_quiet (fail)
      go_wp2
      go_ret
      exact ⟨by rw [HE.out]; rfl, _, rfl⟩
    · by_cases h2 : a < z
      · have HE : Hid (aheadB a z = true) := by show _ = _; simp [aheadB, h0, h2]
        go_enter Tryd.func31, Tryd.ntmps31
        go_wp2
        go_quiet (fail)
        go_wp2
        go_ret
        exact ⟨by rw [HE.out]; rfl, _, rfl⟩
      · have HE : Hid (aheadB a z = false) := by show _ = _; simp [aheadB, h0, h1, h2]
        have HD : Hid ((decide (z < 0) || decide (a < z)) = false) := by show _ = _; rw [decide_eq_false h1, decide_eq_false h2]; rfl
        go_enter Tryd.func31, Tryd.ntmps31
        go_wp2
        go_quiet (fail)
        go_wp2
        go_ret
        exact ⟨by rw [HE.out]; show Ending.returned (Value.bool (decide (z < 0) || decide (a < z))) = _; rw [HD.out], _, rfl⟩
  · have HE : Hid (aheadB a z = false) := by show _ = _; simp [aheadB, h0]
    go_enter Tryd.func31, Tryd.ntmps31
    go_wp2
    go_quiet (fail)
    go_wp2
    go_ret
    exact ⟨by rw [HE.out]; rfl, _, rfl⟩
theorem send_fin {w : World} {b off cap : Nat} {T' : Nat → Int} {u : Int} (H : RwAt w r cb pv (.slice (some ⟨b, off, none⟩) k cap) n c k P T h g) (hT : ∀ j, j < k → T' j = if j = g then u else T j) :
    RwAt ((w.setCell ⟨b, off + g, none⟩ (.int .i64 u)).setCell ⟨r, 4, none⟩ (.int .i64 ((g : Int) + 1))) r cb pv (.slice (some ⟨b, off, none⟩) k cap) n c k P T' h ((g + 1 : Nat) : Int) ∧ Ot (fun q => q = r ∨ Value.ownBlock (.slice (some ⟨b, off, none⟩) k cap) = some q) w ((w.setCell ⟨b, off + g, none⟩ (.int .i64 u)).setCell ⟨r, 4, none⟩ (.int .i64 ((g : Int) + 1))) := by
  have hrb : r ≠ b := fun e => H.rt (by simp [Value.ownBlock, e])
  have hcb : cb ≠ b := fun e => H.dtc (by simp [Value.ownBlock, e])
  have hO : Ot (fun q => q = r ∨ Value.ownBlock (.slice (some ⟨b, off, none⟩) k cap) = some q) w ((w.setCell ⟨b, off + g, none⟩ (.int .i64 u)).setCell ⟨r, 4, none⟩ (.int .i64 ((g : Int) + 1))) := Ot.setCell (p := ⟨r, 4, none⟩) (Ot.setCell (p := ⟨b, off + g, none⟩) (Ot.refl _ _) (Or.inl (Or.inr rfl)) _) (Or.inl (Or.inl rfl)) _
  refine ⟨⟨?_, ?_, ?_, ?_, H.dpc, H.dtc, H.dpt⟩, hO⟩
  · have h1 : (w.setCell ⟨b, off + g, none⟩ (.int .i64 u)).heap[r]? = _ := (Below.heap_setCell _ _ _ _ hrb).trans H.blk
    have := heap_setCell_here h1 (o := 4) (.int .i64 ((g : Int) + 1))
    rw [this]
    simp
  · obtain ⟨cur, h1, h2⟩ := H.cty
    refine ⟨cur, (hO.block cb H.clt ?_).trans h1, h2⟩
    rintro (e | e)
    · exact H.rc e.symm
    · exact H.dtc e
  · refine H.prom.oth hO (fun q e => ?_)
    rintro (e' | e')
    · exact H.rp (e' ▸ e)
    · exact H.dpt q e e'
  · exact (seg_set H.thru hT).setCell (by simpa [Value.ownBlock] using hrb.symm) _
set_option maxHeartbeats 1000000 in
theorem send_any (w : World) (now : Nat) {T' : Nat → Int} (H : RwAt w r cb pv tv n c k P T h g) (hg : g < k) (hk : k ≤ 1000) (hn : now ≤ 1000) (hT : ∀ j, j < k → T' j = if j = g then (now : Int) + 1 else T j) :
    Calls Tryd.prog 32 #[.pointer (some ⟨r, 0, none⟩), .int .i64 now] w fun e w' => e = .returned (.tuple #[]) ∧ RwAt w' r cb pv tv n c k P T' h ((g + 1 : Nat) : Int) ∧ Ot (fun b => b = r ∨ tv.ownBlock = some b) w w' := by
  obtain ⟨b, off, cap, rfl, x0, x1, x2⟩ := seg_at H.thru hg
  obtain ⟨⟨c0, c1, c2, c3, c4⟩, f1, f2, f3, f4⟩ := cells_of H.blk
  have HH : Hid (RwAt w r cb pv (.slice (some ⟨b, off, none⟩) k cap) n c k P T h g) := H
  have HT : Hid (∀ j, j < k → T' j = if j = g then (now : Int) + 1 else T j) := hT
  have hr := H.lt
  have hrb : r ≠ b := fun e => H.rt (by simp [Value.ownBlock, e])
  have hrb' : b ≠ r := fun e => hrb e.symm
  clear H hT
  go_enter Tryd.func32, Tryd.ntmps32
  go_wp2
  go_region
  all_goals
    go_wp2
    go_end0
    obtain ⟨h1, h2⟩ := send_fin HH.out HT.out
    exact ⟨rfl, h1.below (Below.refl _ _).drew, h2.drew⟩
end Go.Proofs.YtnaooocmggnojaaDoor
