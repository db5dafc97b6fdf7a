/-
  millracebig's Rat: Mul of two fractions: what lies behind the call, and what stays. Conditions: lower parts of at least 1, products below 2^1600.
-/
import Derived.Test.YtnppmigncjakeaaGreatDoorRat11
namespace Go.Proofs.YtnppmigncjakeaaGreatDoor
open Go.RowKit Go.Deep

/-- What holds at every point of Mul's drawing. -/
structure MulB (w : World) (b xb yb : Nat) (p q r s : Int) (l1 l8 l9 l11 l13 l14 l15 l16 : Prop) (t6 t8 t15 t16 t18 t20 t21 t22 : Value) (pa pb : Nat) (w' : World) : Prop where
  c8 : l8 → l1
  c11 : l11 → l8
  c13 : l13 → l11
  c14 : l14 → l9 ∧ l13
  c15 : l15 → l14
  c16 : l16 → l15
  f11 : l11 → t18 = .pointer (some ⟨xb, 2, none⟩)
  f13 : l13 → t20 = .pointer (some ⟨yb, 2, none⟩)
  f1 : l1 → t8 = .pointer (some ⟨pa, 0, none⟩) ∧ w.heap.size ≤ pa ∧ pa < w'.heap.size
  f9 : l9 → t16 = .pointer (some ⟨pb, 0, none⟩) ∧ w.heap.size ≤ pb ∧ pb < w'.heap.size
  ne : l1 → l9 → pa ≠ pb
  bel : ¬ l15 → Below w.heap.size w w'
  s1 : l1 → ¬ l8 → Slot w' pa 0
  s9 : l9 → ¬ l14 → Slot w' pb 0
  i8 : l8 → t15 = .pointer (some ⟨pa, 0, none⟩) ∧ (¬ l15 → IntAt w' pa 0 (p * r))
  i14 : l14 → t21 = .pointer (some ⟨pb, 0, none⟩) ∧ (¬ l15 → IntAt w' pb 0 (q * s))
  i15 : l15 → t22 = .pointer (some ⟨b, 0, none⟩) ∧ RatAt w' b (p * r / (gcdOf (p * r) (q * s) : Int)) (q * s / (gcdOf (p * r) (q * s) : Int)) ∧ UpdR b w w'
  i16 : l16 → t6 = .pointer (some ⟨b, 0, none⟩)

set_option maxHeartbeats 4000000 in
theorem rmul_big (b xb yb : Nat) (p q r s : Int) (w : World) (hs1 : Slot w b 0) (hs2 : Slot w b 2) (hx : RatAt w xb p q) (hy : RatAt w yb r s) (hq : 1 ≤ q) (hsn : 1 ≤ s) (l1 : p.natAbs < 4294967296 ^ 50) (l2 : q.natAbs < 4294967296 ^ 50) (l3 : r.natAbs < 4294967296 ^ 50) (l4 : s.natAbs < 4294967296 ^ 50) (lp : (p * r).natAbs < 4294967296 ^ 50) (lq : (q * s).natAbs < 4294967296 ^ 50) :
    Calls Tryz.prog 60 #[.pointer (some ⟨b, 0, none⟩), .pointer (some ⟨xb, 0, none⟩), .pointer (some ⟨yb, 0, none⟩)] w fun e w' => e = .returned (.pointer (some ⟨b, 0, none⟩)) ∧ RatAt w' b (p * r / (gcdOf (p * r) (q * s) : Int)) (q * s / (gcdOf (p * r) (q * s) : Int)) ∧ UpdR b w w' := by
  have HS : Hid (Slot w b 0 ∧ Slot w b 2) := ⟨hs1, hs2⟩
  have HX : Hid (RatAt w xb p q) := hx
  have HY : Hid (RatAt w yb r s) := hy
  have HL : Hid (1 ≤ q ∧ 1 ≤ s ∧ (p * r).natAbs < 4294967296 ^ 50 ∧ (q * s).natAbs < 4294967296 ^ 50 ∧ 1 ≤ q * s) := ⟨hq, hsn, lp, lq, Int.mul_pos (by omega) (by omega)⟩
  have LP : Hid (p.natAbs < 4294967296 ^ 100 ∧ q.natAbs < 4294967296 ^ 100 ∧ r.natAbs < 4294967296 ^ 100 ∧ s.natAbs < 4294967296 ^ 100) := ⟨lt_50_100 l1, lt_50_100 l2, lt_50_100 l3, lt_50_100 l4⟩
  clear hs1 hs2 hx hy hq hsn lp lq l1 l2 l3 l4
  go_enter Tryz.func60, Tryz.ntmps60
  go_wp2_with fail
  refine wp_region_any (by kernel_rfl) ?_
  change wpAny _ _ _ _ _ _ _ (World.drew _)
  refine wpAny_take (i := 0) (v := ?_) rfl (by kernel_rfl) (by kernel_rfl) (by kernel_rfl) (fun _ _ _ h => h) (Or.inl ⟨by rfl, ?_⟩) ?_
  rotate_left
  · intro w; go_simp; try with_reducible rfl
  simp only [Act.put, List.getElem_toArray, List.getElem_cons_zero, List.setIfInBounds_toArray, List.set_cons_zero, List.set_cons_succ]
  refine wpAny_take (i := 2) (v := ?_) rfl (by kernel_rfl) (by kernel_rfl) (by kernel_rfl) (fun _ _ _ h => h) (Or.inl ⟨by rfl, ?_⟩) ?_
  rotate_left
  · intro w; go_simp; try with_reducible rfl
  simp only [Act.put, List.getElem_toArray, List.getElem_cons_zero, List.getElem_cons_succ, List.setIfInBounds_toArray, List.set_cons_zero, List.set_cons_succ]
  refine wpAny_take (i := 3) (v := ?_) rfl (by kernel_rfl) (by kernel_rfl) (by kernel_rfl) (fun _ _ _ h => h) (Or.inl ⟨by rfl, ?_⟩) ?_
  rotate_left
  · intro w; go_simp; try with_reducible rfl
  simp only [Act.put, List.getElem_toArray, List.getElem_cons_zero, List.getElem_cons_succ, List.setIfInBounds_toArray, List.set_cons_zero, List.set_cons_succ]
  refine wpAny_take (i := 4) (v := ?_) rfl (by kernel_rfl) (by kernel_rfl) (by kernel_rfl) (fun _ _ _ h => h) (Or.inl ⟨by rfl, ?_⟩) ?_
  rotate_left
  · intro w; go_simp; try with_reducible rfl
  simp only [Act.put, List.getElem_toArray, List.getElem_cons_zero, List.getElem_cons_succ, List.setIfInBounds_toArray, List.set_cons_zero, List.set_cons_succ]
  refine wpAny_take (i := 5) (v := ?_) rfl (by kernel_rfl) (by kernel_rfl) (by kernel_rfl) (fun _ _ _ h => h) (Or.inl ⟨by rfl, ?_⟩) ?_
  rotate_left
  · intro w; go_simp; try with_reducible rfl
  simp only [Act.put, List.getElem_toArray, List.getElem_cons_zero, List.getElem_cons_succ, List.setIfInBounds_toArray, List.set_cons_zero, List.set_cons_succ]
  refine wpAny_take (i := 6) (v := ?_) rfl (by kernel_rfl) (by kernel_rfl) (by kernel_rfl) (fun _ _ _ h => h) (Or.inl ⟨by rfl, ?_⟩) ?_
  rotate_left
  · intro w; go_simp; try with_reducible rfl
  simp only [Act.put, List.getElem_toArray, List.getElem_cons_zero, List.getElem_cons_succ, List.setIfInBounds_toArray, List.set_cons_zero, List.set_cons_succ]
  refine wpAny_take (i := 7) (v := ?_) rfl (by kernel_rfl) (by kernel_rfl) (by kernel_rfl) (fun _ _ _ h => h) (Or.inl ⟨by rfl, ?_⟩) ?_
  rotate_left
  · intro w; go_simp; try with_reducible rfl
  simp only [Act.put, List.getElem_toArray, List.getElem_cons_zero, List.getElem_cons_succ, List.setIfInBounds_toArray, List.set_cons_zero, List.set_cons_succ]
  refine wpAny_take (i := 10) (v := ?_) rfl (by kernel_rfl) (by kernel_rfl) (by kernel_rfl) (fun _ _ _ h => h) (Or.inl ⟨by rfl, ?_⟩) ?_
  rotate_left
  · intro w; go_simp; try with_reducible rfl
  simp only [Act.put, List.getElem_toArray, List.getElem_cons_zero, List.getElem_cons_succ, List.setIfInBounds_toArray, List.set_cons_zero, List.set_cons_succ]
  refine wpAny_take (i := 12) (v := ?_) rfl (by kernel_rfl) (by kernel_rfl) (by kernel_rfl) (fun _ _ _ h => h) (Or.inl ⟨by rfl, ?_⟩) ?_
  rotate_left
  · intro w; go_simp; try with_reducible rfl
  simp only [Act.put, List.getElem_toArray, List.getElem_cons_zero, List.getElem_cons_succ, List.setIfInBounds_toArray, List.set_cons_zero, List.set_cons_succ]
  refine wpAny_by (fun L a w' => ∃ (t6 t8 t15 t16 t18 t20 t21 t22 : Value) (pa pb : Nat), a = { tmps := #[.pointer (some ⟨b, 0, none⟩), .pointer (some ⟨xb, 0, none⟩), .pointer (some ⟨yb, 0, none⟩), undef, undef, undef, t6, .pointer (some ⟨b, 0, none⟩), t8, .pointer (some ⟨xb, 0, none⟩), .pointer (some ⟨xb, 0, none⟩), .pointer (some ⟨xb, 0, none⟩), .pointer (some ⟨yb, 0, none⟩), .pointer (some ⟨yb, 0, none⟩), .pointer (some ⟨yb, 0, none⟩), t15, t16, .pointer (some ⟨xb, 0, none⟩), t18, .pointer (some ⟨yb, 0, none⟩), t20, t21, t22], defers := [] } ∧ MulB w b xb yb p q r s (L 1) (L 8) (L 9) (L 11) (L 13) (L 14) (L 15) (L 16) t6 t8 t15 t16 t18 t20 t21 t22 pa pb w') [1, 8, 9, 11, 13, 14, 15, 16] (by kernel_rfl) (by kernel_rfl) (by decide) ?_ ?_ ?_
  · intro L hL
    have n : ∀ i, i ∈ [1, 8, 9, 11, 13, 14, 15, 16] → L i → False := hL
    refine ⟨.pointer none, undef, undef, undef, undef, undef, undef, undef, 0, 0, rfl, ?_⟩
    have n1 := n 1 (by simp)
    have n8 := n 8 (by simp)
    have n9 := n 9 (by simp)
    have n11 := n 11 (by simp)
    have n13 := n 13 (by simp)
    have n14 := n 14 (by simp)
    have n15 := n 15 (by simp)
    have n16 := n 16 (by simp)
    exact ⟨fun h => (n8 h).elim, fun h => (n11 h).elim, fun h => (n13 h).elim, fun h => (n14 h).elim, fun h => (n15 h).elim, fun h => (n16 h).elim, fun h => (n11 h).elim, fun h => (n13 h).elim, fun h => (n1 h).elim, fun h => (n9 h).elim, fun h => (n1 h).elim, fun _ => (Below.refl _ w).drew, fun h => (n1 h).elim, fun h => (n9 h).elim, fun h => (n8 h).elim, fun h => (n14 h).elim, fun h => (n15 h).elim, fun h => (n16 h).elim⟩
  · rintro i L a w' hi hn hd ⟨t6, t8, t15, t16, t18, t20, t21, t22, pa, pb, rfl, H⟩
    simp only [List.mem_cons, List.not_mem_nil, or_false] at hi
    have HH : Hid (MulB w b xb yb p q r s (L 1) (L 8) (L 9) (L 11) (L 13) (L 14) (L 15) (L 16) t6 t8 t15 t16 t18 t20 t21 t22 pa pb w') := H
    clear H
    rcases hi with rfl | rfl | rfl | rfl | rfl | rfl | rfl | rfl
    · clear hd
      refine wpOp_step rfl (fun K hK => ?_)
      go_simp
      refine hK _ _ ⟨t6, _, t15, t16, t18, t20, t21, t22, w'.heap.size, pb, rfl, ?_⟩
      simp only [Nat.reduceEqDiff, false_or, true_or]
      have H := HH.out
      have n8 : ¬ L 8 := fun h => hn (H.c8 h)
      have n11 : ¬ L 11 := fun h => n8 (H.c11 h)
      have n13 : ¬ L 13 := fun h => n11 (H.c13 h)
      have n14 : ¬ L 14 := fun h => n13 (H.c14 h).2
      have n15 : ¬ L 15 := fun h => n14 (H.c15 h)
      have hb := alloc_below w' #[.bool false, .slice none 0 0] 102
      exact ⟨fun _ => trivial, H.c11, H.c13, H.c14, H.c15, H.c16, H.f11, H.f13, fun _ => ⟨rfl, (H.bel n15).size, by simp⟩, fun h => ⟨(H.f9 h).1, (H.f9 h).2.1, Nat.lt_of_lt_of_le (H.f9 h).2.2 hb.size⟩, fun _ h => Nat.ne_of_gt (H.f9 h).2.2, fun h => (H.bel h).trans (hb.mono (H.bel h).size), fun _ _ => slot_new w', fun h h' => (H.s9 h h').below hb, fun h => (n8 h).elim, fun h => (n14 h).elim, fun h => (n15 h).elim, H.i16⟩
    · have hd := hd _ rfl
      simp [Region.binds] at hd
      have l1 : L 1 := hd.1
      clear hd
      have n11 : ¬ L 11 := fun h => hn (HH.out.c11 h)
      have n13 : ¬ L 13 := fun h => n11 (HH.out.c13 h)
      have n14 : ¬ L 14 := fun h => n13 (HH.out.c14 h).2
      have n15 : ¬ L 15 := fun h => n14 (HH.out.c15 h)
      obtain ⟨e1, g1, g2⟩ := HH.out.f1 l1
      subst e1
      have HB := HH.out.bel n15
      have HR : Hid (Slot w' pa 0 ∧ IntAt w' xb 0 p ∧ IntAt w' yb 0 r ∧ xb ≠ pa ∧ yb ≠ pa ∧ w.heap.size ≤ pa ∧ Below w.heap.size w w') := ⟨HH.out.s1 l1 hn, HX.out.num.below HB, HY.out.num.below HB, by have := lt_of_int HX.out.num; omega, by have := lt_of_int HY.out.num; omega, g1, HB⟩
      have HK : Hid (L 1 ∧ ¬ L 11 ∧ ¬ L 13 ∧ ¬ L 14 ∧ ¬ L 15) := ⟨l1, n11, n13, n14, n15⟩
      clear l1 n11 n13 n14 n15 g1 g2 HB
      refine wpOp_step rfl (fun K hK => ?_)
      go_simp
      refine (imul_any pa 0 xb 0 yb 0 p r _ HR.out.1 HR.out.2.1 HR.out.2.2.1 LP.out.1 LP.out.2.2.1 HR.out.2.2.2.1 HR.out.2.2.2.2.1).mono ?_
      rintro e w1 ⟨rfl, hi, hs, hu⟩
      refine hK _ _ ⟨t6, _, _, t16, t18, t20, t21, t22, pa, pb, rfl, ?_⟩
      simp only [Nat.reduceEqDiff, false_or, true_or]
      have H := HH.out
      obtain ⟨l1, n11, n13, n14, n15⟩ := HK.out
      have hb1 : Below w.heap.size w w1 := HR.out.2.2.2.2.2.2.trans (hu.below HR.out.2.2.2.2.2.1 HR.out.2.2.2.2.2.2.size)
      exact ⟨fun _ => l1, fun _ => trivial, H.c13, H.c14, H.c15, H.c16, H.f11, H.f13, fun h => ⟨(H.f1 h).1, (H.f1 h).2.1, Nat.lt_of_lt_of_le (H.f1 h).2.2 hu.size⟩, fun h => ⟨(H.f9 h).1, (H.f9 h).2.1, Nat.lt_of_lt_of_le (H.f9 h).2.2 hu.size⟩, H.ne, fun _ => hb1, fun _ h => (h trivial).elim, fun h h' => (H.s9 h h').upd hu (Or.inl (Ne.symm (H.ne l1 h))), fun _ => ⟨rfl, fun _ => hi⟩, fun h => (n14 h).elim, fun h => (n15 h).elim, H.i16⟩
    · clear hd
      refine wpOp_step rfl (fun K hK => ?_)
      go_simp
      refine hK _ _ ⟨t6, t8, t15, _, t18, t20, t21, t22, pa, w'.heap.size, rfl, ?_⟩
      simp only [Nat.reduceEqDiff, false_or, true_or]
      have H := HH.out
      have n14 : ¬ L 14 := fun h => hn (H.c14 h).1
      have n15 : ¬ L 15 := fun h => n14 (H.c15 h)
      have hb := alloc_below w' #[.bool false, .slice none 0 0] 102
      exact ⟨H.c8, H.c11, H.c13, fun h => (n14 h).elim, H.c15, H.c16, H.f11, H.f13, fun h => ⟨(H.f1 h).1, (H.f1 h).2.1, Nat.lt_of_lt_of_le (H.f1 h).2.2 hb.size⟩, fun _ => ⟨rfl, (H.bel n15).size, by simp⟩, fun h _ => Nat.ne_of_lt (H.f1 h).2.2, fun h => (H.bel h).trans (hb.mono (H.bel h).size), fun h h' => (H.s1 h h').below hb, fun _ _ => slot_new w', fun h => ⟨(H.i8 h).1, fun h' => ((H.i8 h).2 h').below hb⟩, fun h => (n14 h).elim, fun h => (n15 h).elim, H.i16⟩
    · have hd := hd _ rfl
      simp [Region.binds] at hd
      have l8 : L 8 := hd.2
      clear hd
      have n15 : ¬ L 15 := fun h => hn (HH.out.c13 (HH.out.c14 (HH.out.c15 h)).2)
      have HR : Hid (RatAt w' xb p q ∧ q ≠ 0 ∧ L 8) := ⟨HX.out.below (HH.out.bel n15), by have := HL.out; omega, l8⟩
      clear l8
      refine wpOp_step rfl (fun K hK => ?_)
      go_simp
      refine (den_any xb p q _ HR.out.1 HR.out.2.1).mono ?_
      rintro e w1 ⟨rfl, rfl⟩
      refine hK _ _ ⟨t6, t8, t15, t16, _, t20, t21, t22, pa, pb, rfl, ?_⟩
      simp only [Nat.reduceEqDiff, false_or, true_or]
      have H := HH.out
      exact ⟨H.c8, fun _ => HR.out.2.2, fun _ => trivial, H.c14, H.c15, H.c16, fun _ => rfl, H.f13, H.f1, H.f9, H.ne, H.bel, H.s1, H.s9, H.i8, H.i14, H.i15, H.i16⟩
    · have hd := hd _ rfl
      simp [Region.binds] at hd
      have l11 : L 11 := hd.2
      clear hd
      have n15 : ¬ L 15 := fun h => hn (HH.out.c14 (HH.out.c15 h)).2
      have HR : Hid (RatAt w' yb r s ∧ s ≠ 0 ∧ L 11) := ⟨HY.out.below (HH.out.bel n15), by have := HL.out; omega, l11⟩
      clear l11
      refine wpOp_step rfl (fun K hK => ?_)
      go_simp
      refine (den_any yb r s _ HR.out.1 HR.out.2.1).mono ?_
      rintro e w1 ⟨rfl, rfl⟩
      refine hK _ _ ⟨t6, t8, t15, t16, t18, _, t21, t22, pa, pb, rfl, ?_⟩
      simp only [Nat.reduceEqDiff, false_or, true_or]
      have H := HH.out
      exact ⟨H.c8, H.c11, fun _ => HR.out.2.2, fun h => ⟨(H.c14 h).1, trivial⟩, H.c15, H.c16, H.f11, fun _ => rfl, H.f1, H.f9, H.ne, H.bel, H.s1, H.s9, H.i8, H.i14, H.i15, H.i16⟩
    · have hd := hd _ rfl
      simp [Region.binds] at hd
      have l9 : L 9 := hd.1
      have l13 : L 13 := hd.2.2
      clear hd
      have l11 : L 11 := HH.out.c13 l13
      have l8 : L 8 := HH.out.c11 l11
      have l1 : L 1 := HH.out.c8 l8
      have n15 : ¬ L 15 := fun h => hn (HH.out.c15 h)
      obtain ⟨e1, g1, g2⟩ := HH.out.f9 l9
      have e2 := HH.out.f11 l11
      have e3 := HH.out.f13 l13
      subst e1 e2 e3
      have HB := HH.out.bel n15
      have HR : Hid (Slot w' pb 0 ∧ IntAt w' xb 2 q ∧ IntAt w' yb 2 s ∧ xb ≠ pb ∧ yb ≠ pb ∧ w.heap.size ≤ pb ∧ Below w.heap.size w w') := ⟨HH.out.s9 l9 hn, HX.out.den.below HB, HY.out.den.below HB, by have := lt_of_int HX.out.num; omega, by have := lt_of_int HY.out.num; omega, g1, HB⟩
      have HK : Hid (L 9 ∧ L 13 ∧ L 1 ∧ ¬ L 15) := ⟨l9, l13, l1, n15⟩
      clear l1 l8 l9 l11 l13 n15 g1 g2 HB
      refine wpOp_step rfl (fun K hK => ?_)
      go_simp
      refine (imul_any pb 0 xb 2 yb 2 q s _ HR.out.1 HR.out.2.1 HR.out.2.2.1 LP.out.2.1 LP.out.2.2.2 HR.out.2.2.2.1 HR.out.2.2.2.2.1).mono ?_
      rintro e w1 ⟨rfl, hi, hs, hu⟩
      refine hK _ _ ⟨t6, t8, t15, _, _, _, _, t22, pa, pb, rfl, ?_⟩
      simp only [Nat.reduceEqDiff, false_or, true_or]
      have H := HH.out
      obtain ⟨l9, l13, l1, n15⟩ := HK.out
      have hb1 : Below w.heap.size w w1 := HR.out.2.2.2.2.2.2.trans (hu.below HR.out.2.2.2.2.2.1 HR.out.2.2.2.2.2.2.size)
      exact ⟨H.c8, H.c11, H.c13, fun _ => ⟨l9, l13⟩, fun _ => trivial, H.c16, H.f11, H.f13, fun h => ⟨(H.f1 h).1, (H.f1 h).2.1, Nat.lt_of_lt_of_le (H.f1 h).2.2 hu.size⟩, fun h => ⟨(H.f9 h).1, (H.f9 h).2.1, Nat.lt_of_lt_of_le (H.f9 h).2.2 hu.size⟩, H.ne, fun _ => hb1, fun h h' => (H.s1 h h').upd hu (Or.inl (H.ne l1 l9)), fun _ h => (h trivial).elim, fun h => ⟨(H.i8 h).1, fun h' => ((H.i8 h).2 h').upd HR.out.1 hu (Or.inl (H.ne l1 l9))⟩, fun _ => ⟨rfl, fun _ => hi⟩, fun h => (n15 h).elim, H.i16⟩
    · have hd := hd _ rfl
      simp [Region.binds] at hd
      have l8 : L 8 := hd.2.1
      have l14 : L 14 := hd.2.2
      clear hd
      obtain ⟨e1, g1⟩ := HH.out.i8 l8
      obtain ⟨e2, g2⟩ := HH.out.i14 l14
      subst e1 e2
      have HB := HH.out.bel hn
      have HR : Hid (Slot w' b 0 ∧ Slot w' b 2 ∧ IntAt w' pa 0 (p * r) ∧ IntAt w' pb 0 (q * s) ∧ Below w.heap.size w w' ∧ L 14) := ⟨HS.out.1.below HB, HS.out.2.below HB, g1 hn, g2 hn, HB, l14⟩
      clear l8 l14 g1 g2 HB
      refine wpOp_step rfl (fun K hK => ?_)
      go_simp
      refine (setFrac_big b pa 0 pb 0 (p * r) (q * s) _ HR.out.1 HR.out.2.1 HR.out.2.2.1 HR.out.2.2.2.1 HL.out.2.2.2.2 HL.out.2.2.1 HL.out.2.2.2.1).mono ?_
      rintro e w1 ⟨rfl, hrat, hu⟩
      refine hK _ _ ⟨t6, t8, _, t16, t18, t20, _, _, pa, pb, rfl, ?_⟩
      simp only [Nat.reduceEqDiff, false_or, true_or]
      have H := HH.out
      have l14 := HR.out.2.2.2.2.2
      have l8 := H.c11 (H.c13 (H.c14 l14).2)
      exact ⟨H.c8, H.c11, H.c13, H.c14, fun _ => l14, fun _ => trivial, H.f11, H.f13, fun h => ⟨(H.f1 h).1, (H.f1 h).2.1, Nat.lt_of_lt_of_le (H.f1 h).2.2 hu.size⟩, fun h => ⟨(H.f9 h).1, (H.f9 h).2.1, Nat.lt_of_lt_of_le (H.f9 h).2.2 hu.size⟩, H.ne, fun h => (h trivial).elim, fun _ h => (h l8).elim, fun _ h => (h l14).elim, fun h => ⟨(H.i8 h).1, fun h' => (h' trivial).elim⟩, fun h => ⟨(H.i14 h).1, fun h' => (h' trivial).elim⟩, fun _ => ⟨rfl, hrat, (UpdR.of_below HR.out.2.2.2.2.1).trans hu⟩, H.i16⟩
    · have hd := hd _ rfl
      simp [Region.binds] at hd
      have l15 : L 15 := by exact hd.1
      clear hd
      have e1 := (HH.out.i15 l15).1
      subst e1
      have HR : Hid (L 15) := l15
      clear l15
      refine wpOp_step rfl (fun K hK => ?_)
      go_simp
      refine hK _ _ ⟨_, t8, t15, t16, t18, t20, t21, _, pa, pb, rfl, ?_⟩
      simp only [Nat.reduceEqDiff, false_or, true_or]
      have H := HH.out
      exact ⟨H.c8, H.c11, H.c13, H.c14, H.c15, fun _ => HR.out, H.f11, H.f13, H.f1, H.f9, H.ne, H.bel, H.s1, H.s9, H.i8, H.i14, H.i15, fun _ => rfl⟩
  · rintro L a w' hL ⟨t6, t8, t15, t16, t18, t20, t21, t22, pa, pb, rfl, H⟩
    obtain ⟨_, h1, h2⟩ := H.i15 (hL 15 (by simp))
    have h3 := H.i16 (hL 16 (by simp))
    subst h3
    have HE : Hid (RatAt w' b (p * r / (gcdOf (p * r) (q * s) : Int)) (q * s / (gcdOf (p * r) (q * s) : Int)) ∧ UpdR b w w') := ⟨h1, h2⟩
    clear H h1 h2
    go_wp2
    go_ret
    exact ⟨rfl, HE.out.1, HE.out.2⟩

end Go.Proofs.YtnppmigncjakeaaGreatDoor
