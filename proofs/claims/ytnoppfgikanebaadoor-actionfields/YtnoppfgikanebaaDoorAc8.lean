/-
  Program.Counts, and the fact 'acts' of the laws. Conditions: a program that may be.
-/
import Derived.Test.YtnoppfgikanebaaDoorAc7
namespace Go.Proofs.YtnoppfgikanebaaDoor
open Go.RowKit Go.Extern.Stop Go.Stop Go.Extern

theorem nilSomeC (a : Addr) (n c : Nat) (w : World) : (binOp .eql 41 (.slice (some a) n c) (.slice none 0 0)).run Tryd.prog w = .ok (.bool false) w := by kernel_rfl
theorem infoIntC : (Tryd.prog.info? 3).map (fun i => (i.zero, i.size, i.bytes)) = some (some (.int .i64 0), 1, 8) := by kernel_rfl
set_option maxHeartbeats 1000000 in
theorem cloneC {b off cap : Nat} {C : List Int} (w : World) (hb : b < w.heap.size) (hl : C.length = 8) (h : ∀ j u, (C.map (Value.int .i64))[j]? = some u → w.cell? ⟨b, off + j, none⟩ = some u) :
    Calls Tryd.prog 19 #[.slice (some ⟨b, off, none⟩) 8 cap] w fun e w' => ∃ g goff gcap, e = .returned (.slice (some ⟨g, goff, none⟩) 8 gcap) ∧ (∀ j u, (C.map (Value.int .i64))[j]? = some u → w'.cell? ⟨g, goff + j, none⟩ = some u) ∧ g < w'.heap.size ∧ w.heap.size ≤ g ∧ Below w.heap.size w w' := by
  have hnS := nilSomeC
  obtain ⟨i0, hi, hz0, hz1, hz2⟩ := info_parts infoIntC
  have HC : Hid (∀ j u, (C.map (Value.int .i64))[j]? = some u → w.cell? ⟨b, off + j, none⟩ = some u) := h
  have HFL : Hid ((C.map (Value.int .i64)).length = 8 * 1) := by show _ = _; simp [hl]
  have HON : Hid (∀ u ∈ C.map (Value.int .i64), u.oneCell' = true) := by
    intro u hu
    obtain ⟨z, _, rfl⟩ := List.mem_map.1 hu
    rfl
  clear h hl
  generalize C.map (Value.int .i64) = fl at *
  go_enter Tryd.func19, Tryd.ntmps19
  go_wp2_with (at_builtin; refine wpList_append_seg _ rfl (.tmp 5) (.tmp 6) 41 rfl 3 i0 _ 1 8 Tryd.underlying41 hi hz0 hz1 hz2 rfl (by decide) (.slice (some ⟨w.heap.size, 0, none⟩) 0 0) 0 [] rfl (seg_emptyA (new_block_ rfl)) ⟨b, off, none⟩ 8 cap fl rfl HFL.out (fun j u hj => by { rw [Addr.add_lit, World.cell?_alloc_lt _ _ _ (by exact hb)]; exact HC.out j u hj }) HON.out (by omega) (by unfold maxLen; omega) (by omega) _ rfl ?_; intro g goff gcap w1 hs1 hg1 ha1 hl1)
  go_ret
  refine ⟨g, goff, gcap, by simp, fun j u hj => ?_, hl1, by rcases ha1 with h | h <;> simp [Value.ownBlock] at h <;> omega, below_grown_ (below_alloc_ (Below.refl _ _) _) hg1 (fun k hk => by simp [Value.ownBlock] at hk; omega)⟩
  rcases hs1.form with ⟨h1, _, _⟩ | ⟨b', off', cap', h1, _, _, _, hc⟩
  · simp at h1
  · simp only [Value.slice.injEq, Option.some.injEq, Addr.mk.injEq, and_true] at h1
    obtain ⟨⟨rfl, rfl⟩, _⟩ := h1
    exact hc j u (by rw [List.nil_append]; exact hj)
/-- A row of eight numbers. -/
def Cts (w : World) (v : Value) (C : List Int) : Prop := ∃ g goff gcap, v = .slice (some ⟨g, goff, none⟩) 8 gcap ∧ g < w.heap.size ∧ ∀ j, j < 8 → w.cell? ⟨g, goff + j, none⟩ = some (.int .i64 (C.getD j 0))
theorem Cts.below {w w' : World} {v : Value} {C : List Int} (h : Cts w v C) (hb : Below w.heap.size w w') : Cts w' v C := by
  obtain ⟨g, goff, gcap, e, hg, hc⟩ := h
  exact ⟨g, goff, gcap, e, Nat.lt_of_lt_of_le hg hb.size, fun j hj => (hb.cell hg).trans (hc j hj)⟩
set_option maxHeartbeats 1000000 in
theorem counts_any {w : World} {H0 pb : Nat} {av bv : Value} {ps : List Nat} {L : List Ac} {C : List Int} {B : List Bs} (h : PrAt w H0 pb av bv ps L C B) :
    Calls Tryd.prog 11 #[.pointer (some ⟨pb, 0, none⟩)] w fun e w' => ∃ v, e = .returned v ∧ Cts w' v C ∧ (∀ k, v.ownBlock = some k → w.heap.size ≤ k) ∧ Below w.heap.size w w' := by
  have hpb := h.lt
  have HCL : Hid (C.length = 8) := h.cl
  have HC : Hid (∀ j u, (C.map (Value.int .i64))[j]? = some u → w.cell? ⟨pb, 2 + j, none⟩ = some u) := by
    intro j u hj
    refine (h.cell (i := 2 + j) ?_).1
    rw [show 2 + j = j + 1 + 1 by omega, List.getElem?_cons_succ, List.getElem?_cons_succ]
    exact hj
  clear h
  go_enter Tryd.func11, Tryd.ntmps11
  go_wp2_with (go_at_call 19; refine (cloneC _ hpb HCL.out HC.out).mono ?_; rintro e w1 ⟨g, goff, gcap, rfl, hc1, hg1, hgn, hb1⟩)
  go_ret
  refine ⟨.slice (some ⟨g, goff, none⟩) 8 gcap, rfl, ⟨g, goff, gcap, rfl, hg1, fun j hj => hc1 j _ ?_⟩, ?_, hb1⟩
  · have hl : j < C.length := by rw [HCL.out]; exact hj
    rw [List.getElem?_map, List.getD_eq_getElem?_getD, List.getElem?_eq_getElem hl]
    rfl
  · intro k hk
    simp only [Value.ownBlock, Option.some.injEq] at hk
    omega

theorem do_below {w w' : World} {H0 pb : Nat} {av bv : Value} {ps : List Nat} {L : List Ac} {C : List Int} {B : List Bs} (h : PrAt w H0 pb av bv ps L C B) (ho : Ot (fun k => k = pb ∨ k ∈ ps) w w') {b : Nat} (hb : b ≤ H0) (hw : b ≤ w.heap.size) : Below b w w' :=
  ho.below hw (by
    rintro k (rfl | h')
    · exact Nat.le_trans hb h.hb
    · exact Nat.le_trans hb (h.hs k h'))
/-! ### The laws' fact -/
def actsL : List Ac := [⟨3, 7, 0⟩, ⟨8, 7, 3⟩, ⟨2, 0, 0⟩]
theorem actsE : newE actsL [] = (0, -1) := by decide
theorem actsD : doA actsL 100 ⟨0, ⟨0, 1, 0, 0, 0⟩, List.replicate 8 0, []⟩ = (⟨3, ⟨0, 1, 0, 0, 7⟩, List.replicate 8 0, []⟩, .on) := by rfl
set_option maxRecDepth 100000 in
set_option maxHeartbeats 2000000 in
theorem acts_any (w : World) : Calls Tryd.prog 6 #[] w fun e w' => e = .returned (.bool true) ∧ Below w.heap.size w w' := by
  have HN : Hid (∀ W : World, ∀ b, W.heap[b]? = some (.cells #[.int .i64 3, .int .i64 7, .int .i64 0, .int .i64 8, .int .i64 7, .int .i64 3, .int .i64 2, .int .i64 0, .int .i64 0] 38 (0, 0)) → Calls Tryd.prog 5 #[.slice (some ⟨b, 0, none⟩) 3 3, .slice none 0 0] W (NewP W actsL [])) := by
    intro W b hb
    refine actNew_any (some ⟨b, 0, none⟩) none 3 0 actsL [] W (Or.inr ⟨b, 0, rfl, lt_of_block hb, fun j u hj => ?_⟩) (fun h => by simp at h) ?_ (Or.inl rfl) (by unfold maxLen; decide) (Nat.zero_le _)
    · have := news_of (l := [.int .i64 3, .int .i64 7, .int .i64 0, .int .i64 8, .int .i64 7, .int .i64 3, .int .i64 2, .int .i64 0, .int .i64 0]) hb j u hj
      rw [Addr.add_lit] at this
      exact this
    · intro x hx
      simp only [actsL, List.mem_cons, List.not_mem_nil, or_false] at hx
      rcases hx with rfl | rfl | rfl <;> exact ⟨by decide, by decide⟩
  go_enter Tryd.func6, Tryd.ntmps6
  go_wp2_with fail
  refine (HN.out _ _ (new_block_ rfl)).mono ?_
  rintro e w1 ⟨hb1, ⟨_, pb, av, bv, ps, rfl, hp⟩ | ⟨h0, _⟩⟩
  · have HP : Hid (PrAt w1 _ pb av bv ps actsL (List.replicate 8 0) (([] : List Bk).map B0)) := hp
    have HB1 : Hid (Below w.heap.size w w1) := below_after (below_alloc_ (Below.refl _ _) _) hb1
    have HD := do_any (x := ⟨0, 1, 0, 0, 0⟩) HP.out rfl (newE_good (G := []) (by rw [actsE]))
    clear hp hb1
    rw [show ([] : List Bk).map B0 = [] from rfl, actsD] at HD
    have HD2 : Calls Tryd.prog 7 #[.pointer (some ⟨pb, 0, none⟩), .agg #[.int .i64 0, .int .i64 1, .int .i64 0, .int .i64 0, .int .i64 0]] w1 fun e w' => e = .returned (.tuple #[.agg #[.int .i64 0, .int .i64 1, .int .i64 0, .int .i64 0, .int .i64 7], .bool true, .nilIface]) ∧ PrAt w' (w.alloc (.cells #[.int .i64 3, .int .i64 7, .int .i64 0, .int .i64 8, .int .i64 7, .int .i64 3, .int .i64 2, .int .i64 0, .int .i64 0] 38)).heap.size pb av bv ps actsL (List.replicate 8 0) [] ∧ Ot (fun k => k = pb ∨ k ∈ ps) w1 w' := HD
    clear HD
    go_wp2_with (go_at_call 7; refine HD2.mono ?_; rintro e w2 ⟨rfl, hp2, ho2⟩)
    go_ret
    exact ⟨rfl, below_alloc_ (HB1.out.trans (do_below HP.out ho2 (by simp) HB1.out.size)) _⟩
  · rw [actsE] at h0
    exact absurd rfl h0
end Go.Proofs.YtnoppfgikanebaaDoor
