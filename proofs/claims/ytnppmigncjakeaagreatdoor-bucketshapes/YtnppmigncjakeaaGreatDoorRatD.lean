/-
  millracebig's Rat: Cmp of two fractions. Conditions: lower parts of at least 1, numbers below 2^1600.
-/
import Derived.Test.YtnppmigncjakeaaGreatDoorRatC
namespace Go.Proofs.YtnppmigncjakeaaGreatDoor
open Go.RowKit Go.Deep

/-- What holds at every point of the drawing: two products, held against each other. -/
structure CmpI (w : World) (xb yb : Nat) (u v : Int) (l0 l5 l6 l7 l12 l13 l14 l15 : Prop) (t4 t18 t23 t24 t25 t30 t31 t32 : Value) (m1 m2 : Nat) (w' : World) : Prop where
  c6 : l6 → l0 ∧ l5
  c12 : l12 → l6
  c13 : l13 → l7 ∧ l12
  c14 : l14 → l13
  c15 : l15 → l14
  f0 : l0 → t18 = .pointer (some ⟨m1, 0, none⟩) ∧ w.heap.size ≤ m1 ∧ m1 < w'.heap.size
  f7 : l7 → t25 = .pointer (some ⟨m2, 0, none⟩) ∧ w.heap.size ≤ m2 ∧ m2 < w'.heap.size
  ne : l0 → l7 → m1 ≠ m2
  f5 : l5 → t23 = .pointer (some ⟨yb, 2, none⟩)
  f12 : l12 → t30 = .pointer (some ⟨xb, 2, none⟩)
  s0 : l0 → ¬ l6 → Slot w' m1 0
  s7 : l7 → ¬ l13 → Slot w' m2 0
  i6 : l6 → t24 = .pointer (some ⟨m1, 0, none⟩) ∧ IntAt w' m1 0 u
  i13 : l13 → t31 = .pointer (some ⟨m2, 0, none⟩) ∧ IntAt w' m2 0 v
  i14 : l14 → t32 = .int .i64 (cmpZ u v)
  i15 : l15 → t4 = .int .i64 (cmpZ u v)
  bel : Below w.heap.size w w'
theorem cmpZ_zero {x y : Int} : cmpZ x y = 0 ↔ x = y := by
  unfold cmpZ
  by_cases h1 : x < y
  · rw [if_pos h1]; constructor <;> intro h <;> omega
  · rw [if_neg h1]
    by_cases h2 : x = y
    · rw [if_pos h2]; exact ⟨fun _ => h2, fun _ => rfl⟩
    · rw [if_neg h2]; constructor <;> intro h <;> omega
theorem cmpZ_mul {x y c : Int} (hc : 0 < c) : cmpZ (x * c) (y * c) = cmpZ x y := by
  have h1 : x * c < y * c ↔ x < y := ⟨fun h => Int.lt_of_mul_lt_mul_right h (by omega), fun h => Int.mul_lt_mul_of_pos_right h hc⟩
  have h2 : x * c = y * c ↔ x = y := ⟨fun h => Int.eq_of_mul_eq_mul_right (by omega) h, fun h => by rw [h]⟩
  unfold cmpZ
  simp only [h1, h2]

set_option maxHeartbeats 4000000 in
theorem rcmp_any (xb yb : Nat) (p q r s : Int) (w : World) (hx : RatAt w xb p q) (hy : RatAt w yb r s) (hq : 1 ≤ q) (hsn : 1 ≤ s) (l1 : p.natAbs < 4294967296 ^ 50) (l2 : q.natAbs < 4294967296 ^ 50) (l3 : r.natAbs < 4294967296 ^ 50) (l4 : s.natAbs < 4294967296 ^ 50) :
    Calls Tryz.prog 39 #[.pointer (some ⟨xb, 0, none⟩), .pointer (some ⟨yb, 0, none⟩)] w fun e w' => e = .returned (.int .i64 (cmpZ (p * s) (r * q))) ∧ Below w.heap.size w w' := by
  have HX : Hid (RatAt w xb p q) := hx
  have HY : Hid (RatAt w yb r s) := hy
  have HL : Hid (1 ≤ q ∧ 1 ≤ s) := ⟨hq, hsn⟩
  have LP : Hid (p.natAbs < 4294967296 ^ 100 ∧ q.natAbs < 4294967296 ^ 100 ∧ r.natAbs < 4294967296 ^ 100 ∧ s.natAbs < 4294967296 ^ 100) := ⟨lt_50_100 l1, lt_50_100 l2, lt_50_100 l3, lt_50_100 l4⟩
  have HCZ : Hid (cmpZ q s = 0 ↔ q = s) := cmpZ_zero
  clear hx hy hq hsn l1 l2 l3 l4
  go_enter Tryz.func39, Tryz.ntmps39
  go_wp2_with fail
  refine (den_any xb p q _ HX.out (by have := HL.out; omega)).mono ?_
  rintro e wa ⟨rfl, rfl⟩
  go_wp2_with fail
  refine (den_any yb r s _ HY.out (by have := HL.out; omega)).mono ?_
  rintro e wb ⟨rfl, rfl⟩
  go_wp2_with fail
  refine (icmp_any xb 2 yb 2 q s _ HX.out.den HY.out.den).mono ?_
  rintro e w1 ⟨rfl, hb1⟩
  have HB : Hid (Below wb.heap.size wb w1) := hb1
  have HX1 : Hid (RatAt w1 xb p q) := HX.out.below hb1
  have HY1 : Hid (RatAt w1 yb r s) := HY.out.below hb1
  clear hb1
  obtain ⟨cq, hcq⟩ : ∃ cq, cmpZ q s = cq := ⟨_, rfl⟩
  rw [hcq] at HCZ ⊢
  clear hcq
  by_cases h0 : cq = 0
  · have HQ : Hid (q = s) := HCZ.out.1 h0
    have d0 : (cq == 0) = true := by simpa using h0
    have HIC : Hid (∀ W : World, Below w1.heap.size w1 W → Calls Tryz.prog 63 #[.pointer (some ⟨xb, 0, none⟩), .pointer (some ⟨yb, 0, none⟩)] W fun e w' => e = .returned (.int .i64 (cmpZ p r)) ∧ Below W.heap.size W w') := fun W hW => icmp_any xb 0 yb 0 p r W (HX1.out.num.below hW) (HY1.out.num.below hW)
    clear h0
    go_wp2
    go_region_with (go_at_call 63; refine (HIC.out _ ?_).mono ?_; (repeat' (first | with_reducible exact Below.refl _ _ | with_reducible refine Below.drew ?_ | with_reducible refine below_drewN ?_ _)); rintro e w2 ⟨rfl, hb2⟩)
    all_goals
      go_wp2
      go_ret
      refine ⟨?_, HB.out.trans (((Below.refl w1.heap.size w1).drew.trans hb2).mono HB.out.size)⟩
      rw [HQ.out, cmpZ_mul (by have := HL.out; omega)]
      rfl
  · have d0 : (cq == 0) = false := by simpa using h0
    clear h0
    go_wp2_with fail
    refine wp_region_any (by kernel_rfl) ?_
    change wpAny _ _ _ _ _ _ _ (World.drew _)
    refine wpAny_take (i := 1) (v := ?_) rfl (by kernel_rfl) (by kernel_rfl) (by kernel_rfl) (fun _ _ _ h => h) (Or.inl ⟨by rfl, ?_⟩) ?_
    rotate_left
    · intro w; go_simp; try with_reducible rfl
    simp only [Act.put, List.getElem_toArray, List.getElem_cons_zero, List.getElem_cons_succ, List.setIfInBounds_toArray, List.set_cons_zero, List.set_cons_succ]
    refine wpAny_take (i := 2) (v := ?_) rfl (by kernel_rfl) (by kernel_rfl) (by kernel_rfl) (fun _ _ _ h => h) (Or.inl ⟨by rfl, ?_⟩) ?_
    rotate_left
    · intro w; go_simp; try with_reducible rfl
    simp only [Act.put, List.getElem_toArray, List.getElem_cons_zero, List.getElem_cons_succ, List.setIfInBounds_toArray, List.set_cons_zero, List.set_cons_succ]
    refine wpAny_take (i := 3) (v := ?_) rfl (by kernel_rfl) (by kernel_rfl) (by kernel_rfl) (fun _ _ _ h => h) (Or.inl ⟨by rfl, ?_⟩) ?_
    rotate_left
    · intro w; go_simp; try with_reducible rfl
    simp only [Act.put, List.getElem_toArray, List.getElem_cons_zero, List.getElem_cons_succ, List.setIfInBounds_toArray, List.set_cons_zero, List.set_cons_succ]
    refine wpAny_take (i := 4) (v := ?_) rfl (by kernel_rfl) (by kernel_rfl) (by kernel_rfl) (fun _ _ _ h => h) (Or.inl ⟨by rfl, ?_⟩) ?_
    rotate_left
    · intro w; go_simp; try with_reducible rfl
    simp only [Act.put, List.getElem_toArray, List.getElem_cons_zero, List.getElem_cons_succ, List.setIfInBounds_toArray, List.set_cons_zero, List.set_cons_succ]
    refine wpAny_take (i := 8) (v := ?_) rfl (by kernel_rfl) (by kernel_rfl) (by kernel_rfl) (fun _ _ _ h => h) (Or.inl ⟨by rfl, ?_⟩) ?_
    rotate_left
    · intro w; go_simp; try with_reducible rfl
    simp only [Act.put, List.getElem_toArray, List.getElem_cons_zero, List.getElem_cons_succ, List.setIfInBounds_toArray, List.set_cons_zero, List.set_cons_succ]
    refine wpAny_take (i := 9) (v := ?_) rfl (by kernel_rfl) (by kernel_rfl) (by kernel_rfl) (fun _ _ _ h => h) (Or.inl ⟨by rfl, ?_⟩) ?_
    rotate_left
    · intro w; go_simp; try with_reducible rfl
    simp only [Act.put, List.getElem_toArray, List.getElem_cons_zero, List.getElem_cons_succ, List.setIfInBounds_toArray, List.set_cons_zero, List.set_cons_succ]
    refine wpAny_take (i := 10) (v := ?_) rfl (by kernel_rfl) (by kernel_rfl) (by kernel_rfl) (fun _ _ _ h => h) (Or.inl ⟨by rfl, ?_⟩) ?_
    rotate_left
    · intro w; go_simp; try with_reducible rfl
    simp only [Act.put, List.getElem_toArray, List.getElem_cons_zero, List.getElem_cons_succ, List.setIfInBounds_toArray, List.set_cons_zero, List.set_cons_succ]
    refine wpAny_take (i := 11) (v := ?_) rfl (by kernel_rfl) (by kernel_rfl) (by kernel_rfl) (fun _ _ _ h => h) (Or.inl ⟨by rfl, ?_⟩) ?_
    rotate_left
    · intro w; go_simp; try with_reducible rfl
    simp only [Act.put, List.getElem_toArray, List.getElem_cons_zero, List.getElem_cons_succ, List.setIfInBounds_toArray, List.set_cons_zero, List.set_cons_succ]
    refine wpAny_by (fun L a w' => ∃ (t4 t18 t23 t24 t25 t30 t31 t32 : Value) (m1 m2 : Nat), a = { tmps := #[.pointer (some ⟨xb, 0, none⟩), .pointer (some ⟨yb, 0, none⟩), undef, undef, t4, .pointer (some ⟨xb, 0, none⟩), .pointer (some ⟨xb, 2, none⟩), .pointer (some ⟨yb, 0, none⟩), .pointer (some ⟨yb, 2, none⟩), .int .i64 cq, .bool false, undef, undef, undef, undef, undef, undef, undef, t18, .pointer (some ⟨xb, 0, none⟩), .pointer (some ⟨xb, 0, none⟩), .pointer (some ⟨xb, 0, none⟩), .pointer (some ⟨yb, 0, none⟩), t23, t24, t25, .pointer (some ⟨yb, 0, none⟩), .pointer (some ⟨yb, 0, none⟩), .pointer (some ⟨yb, 0, none⟩), .pointer (some ⟨xb, 0, none⟩), t30, t31, t32], defers := [] } ∧ CmpI w1 xb yb (p * s) (r * q) (L 0) (L 5) (L 6) (L 7) (L 12) (L 13) (L 14) (L 15) t4 t18 t23 t24 t25 t30 t31 t32 m1 m2 w') [0, 5, 6, 7, 12, 13, 14, 15] (by kernel_rfl) (by kernel_rfl) (by decide) ?_ ?_ ?_
    · intro L hL
      have n : ∀ i, i ∈ [0, 5, 6, 7, 12, 13, 14, 15] → L i → False := hL
      refine ⟨.int .i64 0, undef, undef, undef, undef, undef, undef, undef, 0, 0, rfl, ?_⟩
      have n0 := n 0 (by simp)
      have n5 := n 5 (by simp)
      have n6 := n 6 (by simp)
      have n7 := n 7 (by simp)
      have n12 := n 12 (by simp)
      have n13 := n 13 (by simp)
      have n14 := n 14 (by simp)
      have n15 := n 15 (by simp)
      exact ⟨fun h => (n6 h).elim, fun h => (n12 h).elim, fun h => (n13 h).elim, fun h => (n14 h).elim, fun h => (n15 h).elim, fun h => (n0 h).elim, fun h => (n7 h).elim, fun h => (n0 h).elim, fun h => (n5 h).elim, fun h => (n12 h).elim, fun h => (n0 h).elim, fun h => (n7 h).elim, fun h => (n6 h).elim, fun h => (n13 h).elim, fun h => (n14 h).elim, fun h => (n15 h).elim, (Below.refl _ w1).drew⟩
    · rintro i L a w' hi hn hd ⟨t4, t18, t23, t24, t25, t30, t31, t32, m1, m2, rfl, H⟩
      simp only [List.mem_cons, List.not_mem_nil, or_false] at hi
      have HH : Hid (CmpI w1 xb yb (p * s) (r * q) (L 0) (L 5) (L 6) (L 7) (L 12) (L 13) (L 14) (L 15) t4 t18 t23 t24 t25 t30 t31 t32 m1 m2 w') := H
      clear H
      rcases hi with rfl | rfl | rfl | rfl | rfl | rfl | rfl | rfl
      · clear hd
        refine wpOp_step rfl (fun K hK => ?_)
        go_simp
        refine hK _ _ ⟨t4, _, t23, t24, t25, t30, t31, t32, w'.heap.size, m2, rfl, ?_⟩
        simp only [Nat.reduceEqDiff, false_or, true_or]
        have H := HH.out
        have hb := alloc_below w' #[.bool false, .slice none 0 0] 102
        have n6 : ¬ L 6 := fun h => hn (H.c6 h).1
        have n12 : ¬ L 12 := fun h => n6 (H.c12 h)
        have n13 : ¬ L 13 := fun h => n12 (H.c13 h).2
        exact ⟨fun h => (n6 h).elim, H.c12, H.c13, H.c14, H.c15, fun _ => ⟨rfl, H.bel.size, by simp⟩, fun h => ⟨(H.f7 h).1, (H.f7 h).2.1, Nat.lt_of_lt_of_le (H.f7 h).2.2 hb.size⟩, fun _ h => Nat.ne_of_gt (H.f7 h).2.2, H.f5, H.f12, fun _ _ => slot_new w', fun h h' => (H.s7 h h').below hb, fun h => (n6 h).elim, fun h => (n13 h).elim, H.i14, H.i15, H.bel.trans (hb.mono H.bel.size)⟩
      · clear hd
        have HR : Hid (RatAt w' yb r s ∧ s ≠ 0) := ⟨HY1.out.below HH.out.bel, by have := HL.out; omega⟩
        refine wpOp_step rfl (fun K hK => ?_)
        go_simp
        refine (den_any yb r s _ HR.out.1 HR.out.2).mono ?_
        rintro e wz ⟨rfl, rfl⟩
        refine hK _ _ ⟨t4, t18, _, t24, t25, t30, t31, t32, m1, m2, rfl, ?_⟩
        simp only [Nat.reduceEqDiff, false_or, true_or]
        have H := HH.out
        exact ⟨fun h => ⟨(H.c6 h).1, trivial⟩, H.c12, H.c13, H.c14, H.c15, H.f0, H.f7, H.ne, fun _ => rfl, H.f12, H.s0, H.s7, H.i6, H.i13, H.i14, H.i15, H.bel⟩
      · have hd := hd _ rfl
        simp [Region.binds] at hd
        have l0 : L 0 := by first | exact hd.1 | exact hd.2.2 | exact hd.2.1 | exact hd.2 | exact hd.2.2.1 | exact hd.2.2.2 | exact hd
        have l5 : L 5 := by first | exact hd.1 | exact hd.2.2 | exact hd.2.1 | exact hd.2 | exact hd.2.2.1 | exact hd.2.2.2 | exact hd
        clear hd
        have n12 : ¬ L 12 := fun h => hn (HH.out.c12 h)
        have n13 : ¬ L 13 := fun h => n12 (HH.out.c13 h).2
        obtain ⟨e1, g1, g2⟩ := HH.out.f0 l0
        have e2 := HH.out.f5 l5
        subst e1 e2
        have HB2 := HH.out.bel
        have HR : Hid (Slot w' m1 0 ∧ IntAt w' xb 0 p ∧ IntAt w' yb 2 s ∧ xb ≠ m1 ∧ yb ≠ m1 ∧ w1.heap.size ≤ m1) := ⟨HH.out.s0 l0 hn, HX1.out.num.below HB2, HY1.out.den.below HB2, by have := lt_of_int HX1.out.num; omega, by have := lt_of_int HY1.out.num; omega, g1⟩
        have HK : Hid (L 0 ∧ L 5 ∧ ¬ L 13) := ⟨l0, l5, n13⟩
        clear l0 l5 n12 n13 g1 g2 HB2
        refine wpOp_step rfl (fun K hK => ?_)
        go_simp
        refine (imul_any m1 0 xb 0 yb 2 p s _ HR.out.1 HR.out.2.1 HR.out.2.2.1 LP.out.1 LP.out.2.2.2 HR.out.2.2.2.1 HR.out.2.2.2.2.1).mono ?_
        rintro e wz ⟨rfl, hi, hs, hu⟩
        refine hK _ _ ⟨t4, _, _, _, t25, t30, t31, t32, m1, m2, rfl, ?_⟩
        simp only [Nat.reduceEqDiff, false_or, true_or]
        have H := HH.out
        obtain ⟨l0, l5, n13⟩ := HK.out
        exact ⟨fun _ => ⟨l0, l5⟩, fun _ => trivial, H.c13, H.c14, H.c15, fun h => ⟨(H.f0 h).1, (H.f0 h).2.1, Nat.lt_of_lt_of_le (H.f0 h).2.2 hu.size⟩, fun h => ⟨(H.f7 h).1, (H.f7 h).2.1, Nat.lt_of_lt_of_le (H.f7 h).2.2 hu.size⟩, H.ne, H.f5, H.f12, fun _ h => (h trivial).elim, fun h h' => (H.s7 h h').upd hu (Or.inl (Ne.symm (H.ne l0 h))), fun _ => ⟨rfl, hi⟩, fun h => (n13 h).elim, H.i14, H.i15, H.bel.trans (hu.below HR.out.2.2.2.2.2 H.bel.size)⟩
      · clear hd
        refine wpOp_step rfl (fun K hK => ?_)
        go_simp
        refine hK _ _ ⟨t4, t18, t23, t24, _, t30, t31, t32, m1, w'.heap.size, rfl, ?_⟩
        simp only [Nat.reduceEqDiff, false_or, true_or]
        have H := HH.out
        have hb := alloc_below w' #[.bool false, .slice none 0 0] 102
        have n13 : ¬ L 13 := fun h => hn (H.c13 h).1
        exact ⟨H.c6, H.c12, fun h => (n13 h).elim, H.c14, H.c15, fun h => ⟨(H.f0 h).1, (H.f0 h).2.1, Nat.lt_of_lt_of_le (H.f0 h).2.2 hb.size⟩, fun _ => ⟨rfl, H.bel.size, by simp⟩, fun h _ => Nat.ne_of_lt (H.f0 h).2.2, H.f5, H.f12, fun h h' => (H.s0 h h').below hb, fun _ _ => slot_new w', fun h => ⟨(H.i6 h).1, (H.i6 h).2.below hb⟩, fun h => (n13 h).elim, H.i14, H.i15, H.bel.trans (hb.mono H.bel.size)⟩
      · have hd := hd _ rfl
        simp [Region.binds] at hd
        have l6 : L 6 := by first | exact hd.1 | exact hd.2.2 | exact hd.2.1 | exact hd.2 | exact hd.2.2.1 | exact hd.2.2.2 | exact hd
        clear hd
        have HR : Hid (RatAt w' xb p q ∧ q ≠ 0 ∧ L 6) := ⟨HX1.out.below HH.out.bel, by have := HL.out; omega, l6⟩
        clear l6
        refine wpOp_step rfl (fun K hK => ?_)
        go_simp
        refine (den_any xb p q _ HR.out.1 HR.out.2.1).mono ?_
        rintro e wz ⟨rfl, rfl⟩
        refine hK _ _ ⟨t4, t18, t23, t24, t25, _, t31, t32, m1, m2, rfl, ?_⟩
        simp only [Nat.reduceEqDiff, false_or, true_or]
        have H := HH.out
        exact ⟨H.c6, fun _ => HR.out.2.2, fun h => ⟨(H.c13 h).1, trivial⟩, H.c14, H.c15, H.f0, H.f7, H.ne, H.f5, fun _ => rfl, H.s0, H.s7, H.i6, H.i13, H.i14, H.i15, H.bel⟩
      · have hd := hd _ rfl
        simp [Region.binds] at hd
        have l7 : L 7 := by first | exact hd.1 | exact hd.2.2 | exact hd.2.1 | exact hd.2 | exact hd.2.2.1 | exact hd.2.2.2 | exact hd
        have l12 : L 12 := by first | exact hd.1 | exact hd.2.2 | exact hd.2.1 | exact hd.2 | exact hd.2.2.1 | exact hd.2.2.2 | exact hd
        clear hd
        have l6 : L 6 := HH.out.c12 l12
        have l0 : L 0 := (HH.out.c6 l6).1
        obtain ⟨e1, g1, g2⟩ := HH.out.f7 l7
        have e2 := HH.out.f12 l12
        subst e1 e2
        have HB2 := HH.out.bel
        have HR : Hid (Slot w' m2 0 ∧ IntAt w' yb 0 r ∧ IntAt w' xb 2 q ∧ yb ≠ m2 ∧ xb ≠ m2 ∧ w1.heap.size ≤ m2) := ⟨HH.out.s7 l7 hn, HY1.out.num.below HB2, HX1.out.den.below HB2, by have := lt_of_int HY1.out.num; omega, by have := lt_of_int HX1.out.num; omega, g1⟩
        have HK : Hid (L 0 ∧ L 6 ∧ L 7 ∧ L 12) := ⟨l0, l6, l7, l12⟩
        clear l0 l6 l7 l12 g1 g2 HB2
        refine wpOp_step rfl (fun K hK => ?_)
        go_simp
        refine (imul_any m2 0 yb 0 xb 2 r q _ HR.out.1 HR.out.2.1 HR.out.2.2.1 LP.out.2.2.1 LP.out.2.1 HR.out.2.2.2.1 HR.out.2.2.2.2.1).mono ?_
        rintro e wz ⟨rfl, hi, hs, hu⟩
        refine hK _ _ ⟨t4, t18, t23, t24, _, _, _, t32, m1, m2, rfl, ?_⟩
        simp only [Nat.reduceEqDiff, false_or, true_or]
        have H := HH.out
        obtain ⟨l0, l6, l7, l12⟩ := HK.out
        exact ⟨H.c6, H.c12, fun _ => ⟨l7, l12⟩, fun _ => trivial, H.c15, fun h => ⟨(H.f0 h).1, (H.f0 h).2.1, Nat.lt_of_lt_of_le (H.f0 h).2.2 hu.size⟩, fun h => ⟨(H.f7 h).1, (H.f7 h).2.1, Nat.lt_of_lt_of_le (H.f7 h).2.2 hu.size⟩, H.ne, H.f5, H.f12, fun _ h => (h l6).elim, fun _ h => (h trivial).elim, fun h => ⟨(H.i6 h).1, (H.i6 h).2.upd HR.out.1 hu (Or.inl (H.ne l0 l7))⟩, fun _ => ⟨rfl, hi⟩, H.i14, H.i15, H.bel.trans (hu.below HR.out.2.2.2.2.2 H.bel.size)⟩
      · have hd := hd _ rfl
        simp [Region.binds] at hd
        have l6 : L 6 := by first | exact hd.1 | exact hd.2.2 | exact hd.2.1 | exact hd.2 | exact hd.2.2.1 | exact hd.2.2.2 | exact hd
        have l13 : L 13 := by first | exact hd.1 | exact hd.2.2 | exact hd.2.1 | exact hd.2 | exact hd.2.2.1 | exact hd.2.2.2 | exact hd
        clear hd
        obtain ⟨e2, k1⟩ := HH.out.i6 l6
        obtain ⟨e3, k2⟩ := HH.out.i13 l13
        subst e2 e3
        have HR : Hid (IntAt w' m1 0 (p * s) ∧ IntAt w' m2 0 (r * q)) := ⟨k1, k2⟩
        have HK : Hid (L 13) := l13
        clear l6 l13 k1 k2
        refine wpOp_step rfl (fun K hK => ?_)
        go_simp
        refine (icmp_any m1 0 m2 0 (p * s) (r * q) _ HR.out.1 HR.out.2).mono ?_
        rintro e wz ⟨rfl, hb⟩
        refine hK _ _ ⟨t4, t18, t23, _, t25, t30, _, _, m1, m2, rfl, ?_⟩
        simp only [Nat.reduceEqDiff, false_or, true_or]
        have H := HH.out
        exact ⟨H.c6, H.c12, H.c13, fun _ => HK.out, fun _ => trivial, fun h => ⟨(H.f0 h).1, (H.f0 h).2.1, Nat.lt_of_lt_of_le (H.f0 h).2.2 hb.size⟩, fun h => ⟨(H.f7 h).1, (H.f7 h).2.1, Nat.lt_of_lt_of_le (H.f7 h).2.2 hb.size⟩, H.ne, H.f5, H.f12, fun h h' => (H.s0 h h').below hb, fun h h' => (H.s7 h h').below hb, fun h => ⟨(H.i6 h).1, (H.i6 h).2.below hb⟩, fun h => ⟨(H.i13 h).1, (H.i13 h).2.below hb⟩, fun _ => rfl, H.i15, H.bel.trans (hb.mono H.bel.size)⟩
      · have hd := hd _ rfl
        simp [Region.binds] at hd
        have l14 : L 14 := by first | exact hd.1 | exact hd.2.2 | exact hd.2.1 | exact hd.2 | exact hd.2.2.1 | exact hd.2.2.2 | exact hd
        clear hd
        have e1 := HH.out.i14 l14
        subst e1
        have HR : Hid (L 14) := l14
        clear l14
        refine wpOp_step rfl (fun K hK => ?_)
        go_simp
        refine hK _ _ ⟨_, t18, t23, t24, t25, t30, t31, _, m1, m2, rfl, ?_⟩
        simp only [Nat.reduceEqDiff, false_or, true_or]
        have H := HH.out
        exact ⟨H.c6, H.c12, H.c13, H.c14, fun _ => HR.out, H.f0, H.f7, H.ne, H.f5, H.f12, H.s0, H.s7, H.i6, H.i13, H.i14, fun _ => rfl, H.bel⟩
    · rintro L a w' hL ⟨t4, t18, t23, t24, t25, t30, t31, t32, m1, m2, rfl, H⟩
      have h3 := H.i15 (hL 15 (by simp))
      have HE : Hid (Below w1.heap.size w1 w') := H.bel
      subst h3
      clear H
      go_wp2
      go_ret
      exact ⟨rfl, HB.out.trans (HE.out.mono HB.out.size)⟩
end Go.Proofs.YtnppmigncjakeaaGreatDoor
