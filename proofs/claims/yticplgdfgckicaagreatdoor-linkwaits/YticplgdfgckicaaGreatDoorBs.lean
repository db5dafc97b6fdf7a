/-
  queue.NewBands: bands of queues, in memory of the call's own. Conditions: one queue at least, eight at most, none of them nil, which lie in memory.
-/
import Derived.Test.YticplgdfgckicaaGreatDoorBr
namespace Go.Proofs.YticplgdfgckicaaGreatDoor
open Go.RowKit Go.Extern.Stop Go.Stop Go.Extern

theorem infoQueue : (Tryz.prog.info? 45).map (fun i => (i.zero, i.size, i.bytes)) = some (some .nilIface, 1, 16) := by kernel_rfl
theorem eNilC (args : Array Value) (W : World) : (callFunc 68 args).run Tryz.prog W = .ok (.enter 68 args) W := enters_of Tryz.func68 (by kernel_rfl) rfl args W
theorem nilC_no (ty : TypeId) (rv : Value) (w : World) : Calls Tryz.prog 68 #[.iface ty rv] w fun e w' => e = .returned (.bool false) ∧ w' = w := by
  go_enter Tryz.func68, Tryz.ntmps68
  go_wp2
  go_ret
  exact ⟨rfl, rfl⟩
/-- Queues that lie in memory. -/
def QRowAt (w : World) (b off N : Nat) (Q : Nat → TypeId × Value) : Prop := ∀ i, i < N → w.cell? ⟨b, off + i, none⟩ = some (.iface (Q i).1 (Q i).2)
set_option maxHeartbeats 1000000 in
theorem index_none {b off N cap : Nat} {Q : Nat → TypeId × Value} (w : World) (h : QRowAt w b off N Q) (hN : N ≤ 8) :
    Calls Tryz.prog 80 #[.slice (some ⟨b, off, none⟩) N cap, .func (.func 68) #[] #[]] w fun e w' => e = .returned (.int .i64 (-1)) ∧ w' = w := by
  have H : Hid (QRowAt w b off N Q) := h
  clear h
  have hent := eNilC
  go_enter Tryz.func80, Tryz.ntmps80
  go_wp2
  go_loopw [8] (fun i wr => ∃ k : Nat, k ≤ N ∧ i = .int .i64 k ∧ wr = w) (fun i _ => N - (intOf i).toNat)
  case atStart => exact ⟨0, Nat.zero_le _, rfl, rfl⟩
  case round =>
    obtain ⟨k, hk, rfl, rfl⟩ := hrel
    by_cases hlt : k < N
    · have hc := H.out k hlt
      go_wp2_with (go_at_call 68; refine (nilC_no _ _ _).mono ?_; rintro e w1 ⟨rfl, rfl⟩)
      go_roundw
      case rel => exact ⟨k + 1, by omega, by go_num, by first | rfl | trivial⟩
      case measure => simp [intOf]; omega
    · obtain rfl : k = N := by omega
      go_wp2
      go_ret
      exact ⟨rfl, rfl⟩
theorem contains_none {b off N cap : Nat} {Q : Nat → TypeId × Value} (w : World) (h : QRowAt w b off N Q) (hN : N ≤ 8) :
    Calls Tryz.prog 67 #[.slice (some ⟨b, off, none⟩) N cap, .func (.func 68) #[] #[]] w fun e w' => e = .returned (.bool false) ∧ w' = w := by
  have HC := index_none (cap := cap) w h hN
  clear h
  go_enter Tryz.func67, Tryz.ntmps67
  go_wp2_with (go_at_call 80; refine HC.mono ?_; rintro e w1 ⟨rfl, rfl⟩)
  go_ret
  exact ⟨rfl, rfl⟩
theorem nilSomeQ (a : Addr) (n c : Nat) (w : World) : (binOp .eql 133 (.slice (some a) n c) (.slice none 0 0)).run Tryz.prog w = .ok (.bool false) w := by kernel_rfl
def qcells (N : Nat) (Q : Nat → TypeId × Value) : List Value := (List.range N).map (fun i => .iface (Q i).1 (Q i).2)
theorem qcells_get {N : Nat} {Q : Nat → TypeId × Value} {j : Nat} (h : j < N) : (qcells N Q)[j]? = some (.iface (Q j).1 (Q j).2) := by
  unfold qcells
  rw [List.getElem?_map, List.getElem?_range h]
  rfl
theorem qcells_at {N : Nat} {Q : Nat → TypeId × Value} {j : Nat} {u : Value} (h : (qcells N Q)[j]? = some u) : j < N ∧ u = .iface (Q j).1 (Q j).2 := by
  have hj : j < N := by
    have := (List.getElem?_eq_some_iff.1 h).1
    simpa [qcells] using this
  rw [qcells_get hj] at h
  exact ⟨hj, (Option.some.inj h).symm⟩
theorem qcells_one (N : Nat) (Q : Nat → TypeId × Value) : ∀ u ∈ qcells N Q, u.oneCell' = true := by
  intro u hu
  obtain ⟨i, _, rfl⟩ := List.mem_map.1 hu
  rfl
theorem seg_empty1 {w : World} {b : Nat} {e : TypeId} (h : w.heap[b]? = some (.cells #[] e (0, 0))) : Seg w e 1 (.slice (some ⟨b, 0, none⟩) 0 0) 0 [] := ⟨rfl, Or.inr ⟨b, 0, 0, #[], rfl, h, Nat.le_refl _, Nat.zero_le _, by simp, fun j u hj => by simp at hj⟩⟩
theorem clone_queues {b off N cap : Nat} {Q : Nat → TypeId × Value} (w : World) (h : QRowAt w b off N Q) (hN : N ≤ 8) (hN1 : 1 ≤ N) (hb : b < w.heap.size) :
    Calls Tryz.prog 69 #[.slice (some ⟨b, off, none⟩) N cap] w fun e w' => ∃ g goff gcap, e = .returned (.slice (some ⟨g, goff, none⟩) N gcap) ∧ QRowAt w' g goff N Q ∧ w.heap.size ≤ g ∧ g < w'.heap.size ∧ Below w.heap.size w w' := by
  have H : Hid (QRowAt w b off N Q) := h
  have hnS := nilSomeQ
  obtain ⟨i0, hi, hz0, hz1, hz2⟩ := info_parts infoQueue
  clear h
  go_enter Tryz.func69, Tryz.ntmps69
  go_wp2_with (at_builtin; refine wpList_append_seg _ rfl (.tmp 5) (.tmp 6) 133 rfl 45 i0 _ 1 16 Tryz.underlying133 hi hz0 hz1 hz2 rfl (by decide) (.slice (some ⟨w.heap.size, 0, none⟩) 0 0) 0 [] rfl (seg_empty1 (new_block_ rfl)) ⟨b, off, none⟩ N cap (qcells N Q) rfl (by simp [qcells]) (fun j u hj => by rw [Addr.add_lit, World.cell?_alloc_lt _ _ _ (by exact hb), (qcells_at hj).2]; exact H.out j (qcells_at hj).1) (qcells_one N Q) (by omega) (by unfold maxLen; omega) (by omega) _ rfl ?_; intro g goff gcap w1 hs1 hg1 ha1 hl1)
  go_ret
  have hgl : w.heap.size ≤ g := by
    rcases ha1 with h | h
    · simp only [Value.ownBlock, Option.some.injEq] at h; omega
    · simp at h; omega
  refine ⟨g, goff, gcap, by simp, fun i hi => ?_, hgl, hl1, below_grown_ (below_alloc_ (Below.refl _ _) _) hg1 (fun k e => by simp only [Value.ownBlock, Option.some.injEq] at e; omega)⟩
  rcases hs1.form with ⟨h1, _, _⟩ | ⟨b', off', cap', h1, _, _, _, hc⟩
  · simp at h1
  · simp only [Value.slice.injEq, Option.some.injEq, Addr.mk.injEq, and_true] at h1
    obtain ⟨⟨rfl, rfl⟩, _⟩ := h1
    exact hc i _ (by rw [List.nil_append]; exact qcells_get hi)
/-- NewBands. -/
theorem newBands_yes {b off N cap : Nat} {Q : Nat → TypeId × Value} (w : World) (h : QRowAt w b off N Q) (hN1 : 1 ≤ N) (hN : N ≤ 8) (hb : b < w.heap.size) :
    Calls Tryz.prog 53 #[.slice (some ⟨b, off, none⟩) N cap] w fun e w' => ∃ B g goff gcap, e = .returned (.tuple #[.pointer (some ⟨B, 0, none⟩), .nilIface]) ∧ w'.heap[B]? = some (.cells #[.slice (some ⟨g, goff, none⟩) N gcap] 174 (0, 0)) ∧ QRowAt w' g goff N Q ∧ w.heap.size ≤ g ∧ g < B ∧ Below w.heap.size w w' := by
  have HC := contains_none (cap := cap) w h hN
  have HD := clone_queues (cap := cap) w h hN hN1 hb
  clear h
  go_enter Tryz.func53, Tryz.ntmps53
  go_wp2_with (first | (go_at_call 67; refine HC.mono ?_; rintro e w1 ⟨rfl, hw1⟩; subst hw1) | (go_at_call 69; refine HD.mono ?_; rintro e w2 ⟨g, goff, gcap, rfl, hr2, hg2, hl2, hb2⟩))
  go_ret2
  refine ⟨w2.heap.size, g, goff, gcap, rfl, new_block _ _, fun i hi => ?_, hg2, hl2, below_alloc_ hb2 _⟩
  rw [World.cell?_alloc_lt _ _ _ (by exact hl2)]
  exact hr2 i hi
end Go.Proofs.YticplgdfgckicaaGreatDoor
