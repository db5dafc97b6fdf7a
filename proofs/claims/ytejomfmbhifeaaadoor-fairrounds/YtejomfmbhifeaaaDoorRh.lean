/-
  millraceref.Fifo: what Put returns, and what it leaves. Conditions: the list lies in memory; few packets, none of them long; room from 0 on.
-/
import Derived.Test.YtejomfmbhifeaaaDoorRg
namespace Go.Proofs.YtejomfmbhifeaaaDoor
open Go.RowKit Go.Extern.Stop Go.Stop Go.Extern

theorem putF_full' {P R : Int} {L : List Hd} {x : Hd} (h : P < (L.length : Int) + 1 ∨ R < sumL L + x.l) : putF P R false L x = ([x], L) := by
  refine putF_full ?_
  rcases h with h | h
  · rw [decide_eq_true (by omega : P ≤ (L.length : Int))]; rfl
  · rw [decide_eq_true (by omega : R - sumL L < x.l)]; simp
theorem putF_room' {P R : Int} {L : List Hd} {x : Hd} (h1 : ¬ P < (L.length : Int) + 1) (h2 : ¬ R < sumL L + x.l) : putF P R false L x = ([], L ++ [x]) := by
  refine putF_room ?_
  rw [decide_eq_false (by omega : ¬ P ≤ (L.length : Int)), decide_eq_false (by omega : ¬ R - sumL L < x.l)]
  rfl
/-- The block and what Put puts beside it, behind an append. -/
theorem put_mid {w W w1 : World} {o : Obj} {b : Nat} {T : TypeId} {P R : Int} {hd : Bool} {more : List Value} {v : Value} {L : List Hd} (H : RAt w b T P R hd more v L) (hB : Below (w.alloc o).heap.size (w.alloc o) W) (hg : W.grownBy w1 v.ownBlock) :
    w1.heap[b]? = some (.cells (.int .i64 P :: .int .i64 R :: .bool hd :: v :: more).toArray T (0, 0)) ∧ w1.heap[w.heap.size]? = some o ∧ w.heap.size + 1 ≤ w1.heap.size := by
  have hs : w.heap.size + 1 ≤ W.heap.size := by have := hB.size; simpa using this
  have hb := H.lt
  refine ⟨?_, ?_, Nat.le_trans hs hg.size⟩
  · rw [hg.block b (by omega) (fun e => H.ne e.symm), hB.block b (by simp; omega), Below.heap_alloc _ _ _ hb]
    exact H.blk
  · rw [hg.block _ (by omega) (fun e => by have := H.row.lt e.symm; omega), hB.block _ (by simp)]
    exact heap_alloc_new w o
/-- The list has one more: f.L = append(f.L, x). -/
theorem put_grown {w W w1 : World} {o : Obj} {b g goff gcap : Nat} {T : TypeId} {P R : Int} {hd : Bool} {more : List Value} {v : Value} {L : List Hd} {x : Hd} (H : RAt w b T P R hd more v L) (hB : Below (w.alloc o).heap.size (w.alloc o) W) (hg : W.grownBy w1 v.ownBlock) (hs : Seg w1 99 6 (.slice (some ⟨g, goff, none⟩) (L.length + 1) gcap) (L.length + 1) (flt Hd.cs L ++ x.cs)) (ha : v.ownBlock = some g ∨ W.heap.size ≤ g) :
    RPut w b T P R hd more v (L ++ [x]) [] (w1.setCell ⟨b, 3, none⟩ (.slice (some ⟨g, goff, none⟩) (L.length + 1) gcap)) (.slice (some ⟨g, goff, none⟩) (L.length + 1) gcap) (.slice none 0 0) := by
  obtain ⟨m0, m1, m2⟩ := put_mid H hB hg
  have hs' : w.heap.size + 1 ≤ W.heap.size := by have := hB.size; simpa using this
  have hb := H.lt
  have hgb : g ≠ b := by
    rintro rfl
    rcases ha with h | h
    · exact H.ne h
    · omega
  refine ⟨RAt.set m0 (Ps.snoc hs rfl) (by simpa [Value.ownBlock] using hgb), Ps.nil _, fun k hk => ?_, fun k hk => by simp [Value.ownBlock] at hk, ?_⟩
  · simp only [Value.ownBlock, Option.some.injEq] at hk
    subst hk
    rcases ha with h | h
    · exact Or.inl h
    · right; omega
  · refine Ot.setCell (S := fun k => k = b ∨ v.ownBlock = some k) (p := ⟨b, 3, none⟩) (Ot.grown (row := v.ownBlock) (Ot.of_below (w := w) (w' := W) ?_) hg (fun k e => Or.inl (Or.inr e))) (Or.inl (Or.inl rfl)) _
    exact (below_alloc_ (Below.refl w.heap.size w) o).trans (hB.mono (by simp))
set_option maxRecDepth 20000 in
set_option maxHeartbeats 2000000 in
theorem rfifo_put_tail {b : Nat} {T : TypeId} {P R : Int} {more : List Value} {v : Value} {L : List Hd} (now : Int) (x : Hd) (w : World) (h : RAt w b T P R false more v L) (hF : Fit (L ++ [x])) :
    Calls Tryd.prog 88 #[.pointer (some ⟨b, 0, none⟩), .int .i64 now, x.val] w fun e w' => ∃ u v', e = .returned u ∧ RPut w b T P R false more v (putF P R false L x).2 (putF P R false L x).1 w' v' u := by
  have H : Hid (RAt w b T P R false more v L) := h
  have hb := h.lt
  obtain ⟨c0, c1, c2, c3, f3⟩ := h.cells
  have hV := Hd.val_eq
  obtain ⟨i0, hi, hz0, hz1, hz2⟩ := info_parts infoPack
  obtain ⟨xa, cap, hv, _⟩ := h.row.shape
  have hln : L.length + 1 ≤ 1000000 := by have := hF.1; simpa using this
  have hsum := Fit.sum hF.pref.2
  have hxl : 0 ≤ x.l ∧ x.l ≤ 10000 := hF.2 x (by simp)
  obtain ⟨n, hn⟩ : ∃ n, L.length = n := ⟨_, rfl⟩
  have HN : Hid (L.length = n) := hn
  rw [hn] at hv hln hsum
  have HV : Hid (v = .slice xa n cap) := hv
  rw [hv] at c3
  obtain ⟨sm, hsm⟩ : ∃ sm, sumL L = sm := ⟨_, rfl⟩
  have HSM : Hid (sumL L = sm) := hsm
  rw [hsm] at hsum
  have HFL : Hid (Fit L) := hF.pref
  clear h hn hv hsm
  by_cases o1 : P < (n : Int) + 1
  · have HO : Hid (putF P R false L x = ([x], L)) := putF_full' (Or.inl (by rw [HN.out]; exact o1))
    have d1 : decide (P < (n : Int) + 1) = true := by simpa using o1
    go_enter Tryd.func88, Tryd.ntmps88
    go_wp2
    go_quiet (fail)
    go_wp2
    go_ret
    rw [HO.out]
    refine ⟨.slice (some ⟨w.heap.size + 1, 0, none⟩) 1 1, v, rfl, (H.out.below (below_alloc_ (Below.refl _ _) _)).drewN _ |>.below (below_alloc_ (Below.refl _ _) _), Ps.one (x := x) (new_block_ (by simp)), fun k hk => Or.inl hk, ?_, Ot.alloc (Ot.drewN (Ot.alloc (Ot.refl _ _) _) _) _⟩
    intro k hk
    simp only [Value.ownBlock, Option.some.injEq] at hk
    omega
  · have d1 : decide (P < (n : Int) + 1) = false := by simpa using o1
    have d2 : decide (P ≤ (n : Int)) = false := by simp; omega
    have HO1 : Hid (¬ P < (n : Int) + 1) := o1
    clear o1
    have hw1 : IntKind.i64.wrap ((n : Int) + 1) = (n : Int) + 1 := by rw [IntKind.wrap_i64]; omega
    have hw2 : IntKind.i64.wrap (sm + x.l) = sm + x.l := by rw [IntKind.wrap_i64]; omega
    have HBY : Hid (∀ W : World, Below (w.alloc (.cells #[.int .i64 x.a, .int .i64 x.l, .int .i64 x.f, .int .i64 x.b, .int .i64 x.m, .int .i64 x.n] 99)).heap.size (w.alloc (.cells #[.int .i64 x.a, .int .i64 x.l, .int .i64 x.f, .int .i64 x.b, .int .i64 x.m, .int .i64 x.n] 99)) W → Calls Tryd.prog 33 #[.slice xa n cap] W fun e w' => e = .returned (.int .i64 sm) ∧ Below W.heap.size W w') := by
      intro W hW
      have h1 := rbytes_any W (Ps.below (Ps.below H.out.row (below_alloc_ (Below.refl _ _) _)) hW) HFL.out
      rw [HV.out, HSM.out] at h1
      exact h1
    have HSS : Hid (∀ W : World, Below (w.alloc (.cells #[.int .i64 x.a, .int .i64 x.l, .int .i64 x.f, .int .i64 x.b, .int .i64 x.m, .int .i64 x.n] 99)).heap.size (w.alloc (.cells #[.int .i64 x.a, .int .i64 x.l, .int .i64 x.f, .int .i64 x.b, .int .i64 x.m, .int .i64 x.n] 99)) W → W.cell? ⟨b, 3, none⟩ = some (.slice xa n cap) ∧ W.cell? ⟨b, 0, none⟩ = some (.int .i64 P) ∧ W.cell? ⟨b, 1, none⟩ = some (.int .i64 R) ∧ W.cell? ⟨w.heap.size, 1, none⟩ = some (.int .i64 x.l)) := by
      intro W hW
      obtain ⟨e0, e1, _, e3, _⟩ := ((H.out.below (below_alloc_ (Below.refl _ _) _)).below hW).cells
      refine ⟨by rw [← HV.out]; exact e3, e0, e1, ?_⟩
      have h1 : W.heap[w.heap.size]? = some (.cells #[.int .i64 x.a, .int .i64 x.l, .int .i64 x.f, .int .i64 x.b, .int .i64 x.m, .int .i64 x.n] 99 (0, 0)) := (hW.block _ (by simp)).trans (new_block _ _)
      exact (six h1).1.2.1
    cases o2 : decide (R < sm + x.l) with
    | true =>
      have HO : Hid (putF P R false L x = ([x], L)) := putF_full' (Or.inr (by rw [HSM.out]; simpa using o2))
      go_enter Tryd.func88, Tryd.ntmps88
      go_wp2
      go_region_held3 (fun W => W.cell? ⟨b, 3, none⟩ = some (.slice xa n cap) ∧ W.cell? ⟨b, 0, none⟩ = some (.int .i64 P) ∧ W.cell? ⟨b, 1, none⟩ = some (.int .i64 R) ∧ W.cell? ⟨w.heap.size, 1, none⟩ = some (.int .i64 x.l)) ((refine HSS.out _ ?_; first | exact (Below.refl _ _).drew | assumption | exact Below.refl _ _)) ((go_at_call 33; refine (HBY.out _ (by first | exact (Below.refl _ _).drew | assumption | exact Below.refl _ _)).mono ?_; rintro e w' ⟨rfl, hbb⟩; have hbq : Below (w.alloc (.cells #[.int .i64 x.a, .int .i64 x.l, .int .i64 x.f, .int .i64 x.b, .int .i64 x.m, .int .i64 x.n] 99)).heap.size (w.alloc (.cells #[.int .i64 x.a, .int .i64 x.l, .int .i64 x.f, .int .i64 x.b, .int .i64 x.m, .int .i64 x.n] 99)) w' := Below.trans (b := World.drew _) (Below.refl _ _).drew hbb))
      have hz : w'.heap[w.heap.size]? = some (.cells #[.int .i64 x.a, .int .i64 x.l, .int .i64 x.f, .int .i64 x.b, .int .i64 x.m, .int .i64 x.n] 99 (0, 0)) := (hbq.block _ (by simp)).trans (new_block _ _)
      obtain ⟨⟨z0, z1, z2, z3, z4, z5⟩, y0, y1, y2, y3, y4, y5⟩ := six hz
      go_wp2
      go_ret
      rw [HO.out]
      have hb0 : Below w.heap.size w w' := (below_alloc_ (Below.refl w.heap.size w) (.cells #[.int .i64 x.a, .int .i64 x.l, .int .i64 x.f, .int .i64 x.b, .int .i64 x.m, .int .i64 x.n] 99)).trans (hbq.mono (by simp))
      refine ⟨.slice (some ⟨w'.heap.size, 0, none⟩) 1 1, v, rfl, (H.out.below hb0).below (below_alloc_ (Below.refl _ _) _), Ps.one (x := x) (new_block _ _), fun k hk => Or.inl hk, ?_, Ot.alloc (Ot.of_below hb0) _⟩
      intro k hk
      simp only [Value.ownBlock, Option.some.injEq] at hk
      have := hb0.size
      omega
    | false =>
      have HO : Hid (putF P R false L x = ([], L ++ [x])) := putF_room' (by rw [HN.out]; exact HO1.out) (by rw [HSM.out]; simpa using o2)
      go_enter Tryd.func88, Tryd.ntmps88
      go_wp2
      go_region_held3 (fun W => W.cell? ⟨b, 3, none⟩ = some (.slice xa n cap) ∧ W.cell? ⟨b, 0, none⟩ = some (.int .i64 P) ∧ W.cell? ⟨b, 1, none⟩ = some (.int .i64 R) ∧ W.cell? ⟨w.heap.size, 1, none⟩ = some (.int .i64 x.l)) ((refine HSS.out _ ?_; first | exact (Below.refl _ _).drew | assumption | exact Below.refl _ _)) ((go_at_call 33; refine (HBY.out _ (by first | exact (Below.refl _ _).drew | assumption | exact Below.refl _ _)).mono ?_; rintro e w' ⟨rfl, hbb⟩; have hbq : Below (w.alloc (.cells #[.int .i64 x.a, .int .i64 x.l, .int .i64 x.f, .int .i64 x.b, .int .i64 x.m, .int .i64 x.n] 99)).heap.size (w.alloc (.cells #[.int .i64 x.a, .int .i64 x.l, .int .i64 x.f, .int .i64 x.b, .int .i64 x.m, .int .i64 x.n] 99)) w' := Below.trans (b := World.drew _) (Below.refl _ _).drew hbb))
      have hz : w'.heap[w.heap.size]? = some (.cells #[.int .i64 x.a, .int .i64 x.l, .int .i64 x.f, .int .i64 x.b, .int .i64 x.m, .int .i64 x.n] 99 (0, 0)) := (hbq.block _ (by simp)).trans (new_block _ _)
      obtain ⟨⟨z0, z1, z2, z3, z4, z5⟩, y0, y1, y2, y3, y4, y5⟩ := six hz
      have hb0 : Below w.heap.size w w' := (below_alloc_ (Below.refl w.heap.size w) (.cells #[.int .i64 x.a, .int .i64 x.l, .int .i64 x.f, .int .i64 x.b, .int .i64 x.m, .int .i64 x.n] 99)).trans (hbq.mono (by simp))
      obtain ⟨p0, p1, p2, p3, p4⟩ := (H.out.below hb0).cells
      rw [HV.out] at p3
      have hbw : b < w'.heap.size := (H.out.below hb0).lt
      have hzw : w.heap.size < w'.heap.size := lt_of_block hz
      have HROW : Hid (Seg w' 99 6 (.slice xa n cap) n (flt Hd.cs L)) := by
        have h1 := (H.out.below hb0).row
        unfold Ps at h1
        rw [HV.out, HN.out] at h1
        exact h1
      have HBQ : Hid (Below (w.alloc (.cells #[.int .i64 x.a, .int .i64 x.l, .int .i64 x.f, .int .i64 x.b, .int .i64 x.m, .int .i64 x.n] 99)).heap.size (w.alloc (.cells #[.int .i64 x.a, .int .i64 x.l, .int .i64 x.f, .int .i64 x.b, .int .i64 x.m, .int .i64 x.n] 99)) w') := hbq
      have HB0 : Hid (Below w.heap.size w w') := hb0
      have HBX : Hid (∀ W : World, Below w'.heap.size w' W → Below (w.alloc (.cells #[.int .i64 x.a, .int .i64 x.l, .int .i64 x.f, .int .i64 x.b, .int .i64 x.m, .int .i64 x.n] 99)).heap.size (w.alloc (.cells #[.int .i64 x.a, .int .i64 x.l, .int .i64 x.f, .int .i64 x.b, .int .i64 x.m, .int .i64 x.n] 99)) W) := fun W h => HBQ.out.trans (h.mono HBQ.out.size)
      clear hbb hb0 hbq
      go_wp2
      go_region_law (refine step_append_seg _ (by rfl) (.tmp 97) (.tmp 99) 36 (by rfl) 99 i0 _ 6 48 Tryd.underlying36 hi hz0 hz1 hz2 rfl (by decide) _ _ _ (by rfl) (HROW.out.below (by repeat' (first | with_reducible exact Below.refl _ _ | with_reducible refine Below.drew ?_ | with_reducible refine below_alloc_ ?_ _))) ⟨w'.heap.size, 0, none⟩ 1 1 x.cs (by rfl) rfl (news_of (new_block_ (by simp))) x.one (by decide) (by unfold maxLen; omega) (by omega) _ rfl ?_; intro g off cp w1 hs1 hg1 ha1 hl1; have hg2 := hg1; rw [← HV.out] at hg2 ha1; have hbx := HBX.out _ (by repeat' (first | with_reducible exact Below.refl _ _ | with_reducible refine Below.drew ?_ | with_reducible refine below_alloc_ ?_ _) : Below w'.heap.size w' (World.alloc (World.drew w') (.cells x.cs.toArray 99))); obtain ⟨m0, m1, m2⟩ := put_mid H.out hbx hg2; obtain ⟨d0, d3⟩ := r_cells m0; have hbs : b < w1.heap.size := by omega)
      all_goals
        go_wp2
        go_ret
        rw [HO.out]
        have hs2 : Seg w1 99 6 (.slice (some ⟨g, off, none⟩) (L.length + 1) cp) (L.length + 1) (flt Hd.cs L ++ x.cs) := by rw [HN.out]; exact hs1
        have h1 := put_grown H.out hbx hg2 hs2 ha1
        rw [HN.out] at h1
        exact ⟨_, _, rfl, h1⟩
/-- A round of the loop that throws the first ones away. -/
structure RCut (P R : Int) (L : List Hd) (w : World) (b : Nat) (T : TypeId) (more : List Value) (v : Value) (A B : List Hd) (u v' : Value) (wr : World) : Prop where
  parts : L = A ++ B
  cut : cutL P R L = (A ++ (cutL P R B).1, (cutL P R B).2)
  list : RAt wr b T P R true more v' B
  lost : Ps wr u A
  own : ∀ k, v'.ownBlock = some k → v.ownBlock = some k ∨ w.heap.size ≤ k
  new : ∀ k, u.ownBlock = some k → w.heap.size ≤ k
  apart : ∀ k, u.ownBlock = some k → v'.ownBlock ≠ some k
  ot : Ot (fun k => k = b ∨ v.ownBlock = some k) w wr
end Go.Proofs.YtejomfmbhifeaaaDoor
