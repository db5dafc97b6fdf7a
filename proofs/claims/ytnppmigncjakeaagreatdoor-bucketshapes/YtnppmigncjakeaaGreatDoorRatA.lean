/-
  millracebig's Rat: Add and Sub of two fractions: what lies behind the call, and what stays. Conditions: lower parts of at least 1, products below 2^1600.
-/
import Derived.Test.YtnppmigncjakeaaGreatDoorRat8
import Derived.Test.YtnppmigncjakeaaGreatDoorRat11
namespace Go.Proofs.YtnppmigncjakeaaGreatDoor
open Go.RowKit Go.Deep

/-- What holds at every point of the drawing: two products, and what is made of them. -/
structure AddI (w : World) (xb yb : Nat) (u v z : Int) (l0 l1 l6 l7 l8 l13 l14 l15 l16 : Prop) (t7 t8 t9 t14 t15 t16 t21 t22 t23 : Value) (n0 m1 m2 : Nat) (w' : World) : Prop where
  c7 : l7 → l1 ∧ l6
  c13 : l13 → l7
  c14 : l14 → l8 ∧ l13
  c15 : l15 → l0 ∧ l14
  c16 : l16 → l15
  f0 : l0 → t8 = .pointer (some ⟨n0, 0, none⟩) ∧ w.heap.size ≤ n0 ∧ n0 < w'.heap.size
  f1 : l1 → t9 = .pointer (some ⟨m1, 0, none⟩) ∧ w.heap.size ≤ m1 ∧ m1 < w'.heap.size
  f8 : l8 → t16 = .pointer (some ⟨m2, 0, none⟩) ∧ w.heap.size ≤ m2 ∧ m2 < w'.heap.size
  ne01 : l0 → l1 → n0 ≠ m1
  ne08 : l0 → l8 → n0 ≠ m2
  ne18 : l1 → l8 → m1 ≠ m2
  f6 : l6 → t14 = .pointer (some ⟨yb, 2, none⟩)
  f13 : l13 → t21 = .pointer (some ⟨xb, 2, none⟩)
  s0 : l0 → ¬ l15 → Slot w' n0 0
  s1 : l1 → ¬ l7 → Slot w' m1 0
  s8 : l8 → ¬ l14 → Slot w' m2 0
  i7 : l7 → t15 = .pointer (some ⟨m1, 0, none⟩) ∧ (¬ l15 → IntAt w' m1 0 u)
  i14 : l14 → t22 = .pointer (some ⟨m2, 0, none⟩) ∧ (¬ l15 → IntAt w' m2 0 v)
  i15 : l15 → t23 = .pointer (some ⟨n0, 0, none⟩) ∧ IntAt w' n0 0 z
  i16 : l16 → t7 = .pointer (some ⟨n0, 0, none⟩)
  bel : Below w.heap.size w w'

set_option maxHeartbeats 4000000 in
theorem radd_any (b xb yb : Nat) (p q r s : Int) (w : World) (hs1 : Slot w b 0) (hs2 : Slot w b 2) (hx : RatAt w xb p q) (hy : RatAt w yb r s) (hq : 1 ≤ q) (hsn : 1 ≤ s) (l1 : p.natAbs < 4294967296 ^ 50) (l2 : q.natAbs < 4294967296 ^ 50) (l3 : r.natAbs < 4294967296 ^ 50) (l4 : s.natAbs < 4294967296 ^ 50) (lu : (p * s).natAbs < 4294967296 ^ 50) (lv : (r * q).natAbs < 4294967296 ^ 50) (lz : (p * s + r * q).natAbs < 4294967296 ^ 50) (lq : (q * s).natAbs < 4294967296 ^ 50) :
    Calls Tryz.prog 59 #[.pointer (some ⟨b, 0, none⟩), .pointer (some ⟨xb, 0, none⟩), .pointer (some ⟨yb, 0, none⟩)] w fun e w' => e = .returned (.pointer (some ⟨b, 0, none⟩)) ∧ RatAt w' b ((p * s + r * q) / (gcdOf (p * s + r * q) (q * s) : Int)) (q * s / (gcdOf (p * s + r * q) (q * s) : Int)) ∧ UpdR b w w' := by
  have HS : Hid (Slot w b 0 ∧ Slot w b 2) := ⟨hs1, hs2⟩
  have HX : Hid (RatAt w xb p q) := hx
  have HY : Hid (RatAt w yb r s) := hy
  have HL : Hid (1 ≤ q ∧ 1 ≤ s ∧ (p * s + r * q).natAbs < 4294967296 ^ 50 ∧ (q * s).natAbs < 4294967296 ^ 50 ∧ 1 ≤ q * s) := ⟨hq, hsn, lz, lq, Int.mul_pos (by omega) (by omega)⟩
  have LP : Hid ((p.natAbs < 4294967296 ^ 100 ∧ q.natAbs < 4294967296 ^ 100 ∧ r.natAbs < 4294967296 ^ 100 ∧ s.natAbs < 4294967296 ^ 100) ∧ (p * s).natAbs < 4294967296 ^ 100 ∧ (r * q).natAbs < 4294967296 ^ 100) := ⟨⟨lt_50_100 l1, lt_50_100 l2, lt_50_100 l3, lt_50_100 l4⟩, lt_50_100 lu, lt_50_100 lv⟩
  clear hs1 hs2 hx hy hq hsn lz lq l1 l2 l3 l4 lu lv
  go_enter Tryz.func59, Tryz.ntmps59
  go_wp2_with fail
  refine wp_region_any (by kernel_rfl) ?_
  change wpAny _ _ _ _ _ _ _ (World.drew _)
  refine wpAny_take (i := 2) (v := ?_) rfl (by kernel_rfl) (by kernel_rfl) (by kernel_rfl) (fun _ _ _ h => h) (Or.inl ⟨by rfl, ?_⟩) ?_
  rotate_left
  · intro w; go_simp; try with_reducible rfl
  simp only [Act.put, List.getElem_toArray, List.getElem_cons_zero, List.getElem_cons_succ, List.setIfInBounds_toArray, List.set_cons_zero, List.set_cons_succ]
  refine wpAny_take (i := 3) (v := ?_) rfl (by kernel_rfl) (by kernel_rfl) (by kernel_rfl) (fun _ _ _ h => h) (Or.inl ⟨by rfl, ?_⟩) ?_
  rotate_left
  · intro w; go_simp; try with_reducible rfl
  simp only [Act.put, List.getElem_toArray, List.getElem_cons_zero, List.getElem_cons_succ, List.setIfInBounds_toArray, List.set_cons_zero, List.set_cons_succ]
  refine wpAny_take (i := 4) (v := ?_) rfl (by kernel_rfl) (by kernel_rfl) (by kernel_rfl) (fun _ _ _ h => h) (Or.inl ⟨by rfl, ?_⟩) ?_
  rotate_left
  · intro w; go_simp; try with_reducible rfl
  simp only [Act.put, List.getElem_toArray, List.getElem_cons_zero, List.getElem_cons_succ, List.setIfInBounds_toArray, List.set_cons_zero, List.set_cons_succ]
  refine wpAny_take (i := 5) (v := ?_) rfl (by kernel_rfl) (by kernel_rfl) (by kernel_rfl) (fun _ _ _ h => h) (Or.inl ⟨by rfl, ?_⟩) ?_
  rotate_left
  · intro w; go_simp; try with_reducible rfl
  simp only [Act.put, List.getElem_toArray, List.getElem_cons_zero, List.getElem_cons_succ, List.setIfInBounds_toArray, List.set_cons_zero, List.set_cons_succ]
  refine wpAny_take (i := 9) (v := ?_) rfl (by kernel_rfl) (by kernel_rfl) (by kernel_rfl) (fun _ _ _ h => h) (Or.inl ⟨by rfl, ?_⟩) ?_
  rotate_left
  · intro w; go_simp; try with_reducible rfl
  simp only [Act.put, List.getElem_toArray, List.getElem_cons_zero, List.getElem_cons_succ, List.setIfInBounds_toArray, List.set_cons_zero, List.set_cons_succ]
  refine wpAny_take (i := 10) (v := ?_) rfl (by kernel_rfl) (by kernel_rfl) (by kernel_rfl) (fun _ _ _ h => h) (Or.inl ⟨by rfl, ?_⟩) ?_
  rotate_left
  · intro w; go_simp; try with_reducible rfl
  simp only [Act.put, List.getElem_toArray, List.getElem_cons_zero, List.getElem_cons_succ, List.setIfInBounds_toArray, List.set_cons_zero, List.set_cons_succ]
  refine wpAny_take (i := 11) (v := ?_) rfl (by kernel_rfl) (by kernel_rfl) (by kernel_rfl) (fun _ _ _ h => h) (Or.inl ⟨by rfl, ?_⟩) ?_
  rotate_left
  · intro w; go_simp; try with_reducible rfl
  simp only [Act.put, List.getElem_toArray, List.getElem_cons_zero, List.getElem_cons_succ, List.setIfInBounds_toArray, List.set_cons_zero, List.set_cons_succ]
  refine wpAny_take (i := 12) (v := ?_) rfl (by kernel_rfl) (by kernel_rfl) (by kernel_rfl) (fun _ _ _ h => h) (Or.inl ⟨by rfl, ?_⟩) ?_
  rotate_left
  · intro w; go_simp; try with_reducible rfl
  simp only [Act.put, List.getElem_toArray, List.getElem_cons_zero, List.getElem_cons_succ, List.setIfInBounds_toArray, List.set_cons_zero, List.set_cons_succ]
  refine wpAny_by (fun L a w' => ∃ (t7 t8 t9 t14 t15 t16 t21 t22 t23 : Value) (n0 m1 m2 : Nat), a = { tmps := #[.pointer (some ⟨b, 0, none⟩), .pointer (some ⟨xb, 0, none⟩), .pointer (some ⟨yb, 0, none⟩), undef, undef, undef, .pointer none, t7, t8, t9, .pointer (some ⟨xb, 0, none⟩), .pointer (some ⟨xb, 0, none⟩), .pointer (some ⟨xb, 0, none⟩), .pointer (some ⟨yb, 0, none⟩), t14, t15, t16, .pointer (some ⟨yb, 0, none⟩), .pointer (some ⟨yb, 0, none⟩), .pointer (some ⟨yb, 0, none⟩), .pointer (some ⟨xb, 0, none⟩), t21, t22, t23, undef, undef, undef, undef, undef, undef, undef, undef, undef], defers := [] } ∧ AddI w xb yb (p * s) (r * q) (p * s + r * q) (L 0) (L 1) (L 6) (L 7) (L 8) (L 13) (L 14) (L 15) (L 16) t7 t8 t9 t14 t15 t16 t21 t22 t23 n0 m1 m2 w') [0, 1, 6, 7, 8, 13, 14, 15, 16] (by kernel_rfl) (by kernel_rfl) (by decide) ?_ ?_ ?_
  · intro L hL
    have n : ∀ i, i ∈ [0, 1, 6, 7, 8, 13, 14, 15, 16] → L i → False := hL
    refine ⟨undef, undef, undef, undef, undef, undef, undef, undef, undef, 0, 0, 0, rfl, ?_⟩
    have n0 := n 0 (by simp)
    have n1 := n 1 (by simp)
    have n6 := n 6 (by simp)
    have n7 := n 7 (by simp)
    have n8 := n 8 (by simp)
    have n13 := n 13 (by simp)
    have n14 := n 14 (by simp)
    have n15 := n 15 (by simp)
    have n16 := n 16 (by simp)
    exact ⟨fun h => (n7 h).elim, fun h => (n13 h).elim, fun h => (n14 h).elim, fun h => (n15 h).elim, fun h => (n16 h).elim, fun h => (n0 h).elim, fun h => (n1 h).elim, fun h => (n8 h).elim, fun h => (n0 h).elim, fun h => (n0 h).elim, fun h => (n1 h).elim, fun h => (n6 h).elim, fun h => (n13 h).elim, fun h => (n0 h).elim, fun h => (n1 h).elim, fun h => (n8 h).elim, fun h => (n7 h).elim, fun h => (n14 h).elim, fun h => (n15 h).elim, fun h => (n16 h).elim, (Below.refl _ w).drew⟩
  · rintro i L a w' hi hn hd ⟨t7, t8, t9, t14, t15, t16, t21, t22, t23, n0, m1, m2, rfl, H⟩
    simp only [List.mem_cons, List.not_mem_nil, or_false] at hi
    have HH : Hid (AddI w xb yb (p * s) (r * q) (p * s + r * q) (L 0) (L 1) (L 6) (L 7) (L 8) (L 13) (L 14) (L 15) (L 16) t7 t8 t9 t14 t15 t16 t21 t22 t23 n0 m1 m2 w') := H
    clear H
    rcases hi with rfl | rfl | rfl | rfl | rfl | rfl | rfl | rfl | rfl
    · clear hd
      refine wpOp_step rfl (fun K hK => ?_)
      go_simp
      refine hK _ _ ⟨t7, _, t9, t14, t15, t16, t21, t22, t23, w'.heap.size, m1, m2, rfl, ?_⟩
      simp only [Nat.reduceEqDiff, false_or, true_or]
      have H := HH.out
      have hb := alloc_below w' #[.bool false, .slice none 0 0] 102
      have n15 : ¬ L 15 := fun h => hn (H.c15 h).1
      have n16 : ¬ L 16 := fun h => n15 (H.c16 h)
      exact ⟨H.c7, H.c13, H.c14, fun h => (n15 h).elim, H.c16, fun _ => ⟨rfl, H.bel.size, by simp⟩, fun h => ⟨(H.f1 h).1, (H.f1 h).2.1, Nat.lt_of_lt_of_le (H.f1 h).2.2 hb.size⟩, fun h => ⟨(H.f8 h).1, (H.f8 h).2.1, Nat.lt_of_lt_of_le (H.f8 h).2.2 hb.size⟩, fun _ h => Nat.ne_of_gt (H.f1 h).2.2, fun _ h => Nat.ne_of_gt (H.f8 h).2.2, H.ne18, H.f6, H.f13, fun _ _ => slot_new w', fun h h' => (H.s1 h h').below hb, fun h h' => (H.s8 h h').below hb, fun h => ⟨(H.i7 h).1, fun h' => ((H.i7 h).2 h').below hb⟩, fun h => ⟨(H.i14 h).1, fun h' => ((H.i14 h).2 h').below hb⟩, fun h => (n15 h).elim, fun h => (n16 h).elim, H.bel.trans (hb.mono H.bel.size)⟩
    · clear hd
      refine wpOp_step rfl (fun K hK => ?_)
      go_simp
      refine hK _ _ ⟨t7, t8, _, t14, t15, t16, t21, t22, t23, n0, w'.heap.size, m2, rfl, ?_⟩
      simp only [Nat.reduceEqDiff, false_or, true_or]
      have H := HH.out
      have hb := alloc_below w' #[.bool false, .slice none 0 0] 102
      have n7 : ¬ L 7 := fun h => hn (H.c7 h).1
      have n13 : ¬ L 13 := fun h => n7 (H.c13 h)
      have n14 : ¬ L 14 := fun h => n13 (H.c14 h).2
      have n15 : ¬ L 15 := fun h => n14 (H.c15 h).2
      exact ⟨fun h => (n7 h).elim, H.c13, H.c14, H.c15, H.c16, fun h => ⟨(H.f0 h).1, (H.f0 h).2.1, Nat.lt_of_lt_of_le (H.f0 h).2.2 hb.size⟩, fun _ => ⟨rfl, H.bel.size, by simp⟩, fun h => ⟨(H.f8 h).1, (H.f8 h).2.1, Nat.lt_of_lt_of_le (H.f8 h).2.2 hb.size⟩, fun h _ => Nat.ne_of_lt (H.f0 h).2.2, H.ne08, fun _ h => Nat.ne_of_gt (H.f8 h).2.2, H.f6, H.f13, fun h h' => (H.s0 h h').below hb, fun _ _ => slot_new w', fun h h' => (H.s8 h h').below hb, fun h => (n7 h).elim, fun h => (n14 h).elim, fun h => (n15 h).elim, H.i16, H.bel.trans (hb.mono H.bel.size)⟩
    · clear hd
      have HR : Hid (RatAt w' yb r s ∧ s ≠ 0) := ⟨HY.out.below HH.out.bel, by have := HL.out; omega⟩
      refine wpOp_step rfl (fun K hK => ?_)
      go_simp
      refine (den_any yb r s _ HR.out.1 HR.out.2).mono ?_
      rintro e w1 ⟨rfl, rfl⟩
      refine hK _ _ ⟨t7, t8, t9, _, t15, t16, t21, t22, t23, n0, m1, m2, rfl, ?_⟩
      simp only [Nat.reduceEqDiff, false_or, true_or]
      have H := HH.out
      exact ⟨fun h => ⟨(H.c7 h).1, trivial⟩, H.c13, H.c14, H.c15, H.c16, H.f0, H.f1, H.f8, H.ne01, H.ne08, H.ne18, fun _ => rfl, H.f13, H.s0, H.s1, H.s8, H.i7, H.i14, H.i15, H.i16, H.bel⟩
    · have hd := hd _ rfl
      simp [Region.binds] at hd
      have l1 : L 1 := by first | exact hd.1 | exact hd.2.2 | exact hd.2.1 | exact hd.2 | exact hd.2.2.1 | exact hd.2.2.2 | exact hd
      have l6 : L 6 := by first | exact hd.1 | exact hd.2.2 | exact hd.2.1 | exact hd.2 | exact hd.2.2.1 | exact hd.2.2.2 | exact hd
      clear hd
      have n13 : ¬ L 13 := fun h => hn (HH.out.c13 h)
      have n14 : ¬ L 14 := fun h => n13 (HH.out.c14 h).2
      have n15 : ¬ L 15 := fun h => n14 (HH.out.c15 h).2
      obtain ⟨e1, g1, g2⟩ := HH.out.f1 l1
      have e2 := HH.out.f6 l6
      subst e1 e2
      have HB := HH.out.bel
      have HR : Hid (Slot w' m1 0 ∧ IntAt w' xb 0 p ∧ IntAt w' yb 2 s ∧ xb ≠ m1 ∧ yb ≠ m1 ∧ w.heap.size ≤ m1 ∧ Below w.heap.size w w') := ⟨HH.out.s1 l1 hn, HX.out.num.below HB, HY.out.den.below HB, by have := lt_of_int HX.out.num; omega, by have := lt_of_int HY.out.num; omega, g1, HB⟩
      have HK : Hid (L 1 ∧ L 6 ∧ ¬ L 13 ∧ ¬ L 14 ∧ ¬ L 15) := ⟨l1, l6, n13, n14, n15⟩
      clear l1 l6 n13 n14 n15 g1 g2 HB
      refine wpOp_step rfl (fun K hK => ?_)
      go_simp
      refine (imul_any m1 0 xb 0 yb 2 p s _ HR.out.1 HR.out.2.1 HR.out.2.2.1 LP.out.1.1 LP.out.1.2.2.2 HR.out.2.2.2.1 HR.out.2.2.2.2.1).mono ?_
      rintro e w1 ⟨rfl, hi, hs, hu⟩
      refine hK _ _ ⟨t7, t8, _, _, _, t16, t21, t22, t23, n0, m1, m2, rfl, ?_⟩
      simp only [Nat.reduceEqDiff, false_or, true_or]
      have H := HH.out
      obtain ⟨l1, l6, n13, n14, n15⟩ := HK.out
      exact ⟨fun _ => ⟨l1, l6⟩, fun _ => trivial, H.c14, H.c15, H.c16, fun h => ⟨(H.f0 h).1, (H.f0 h).2.1, Nat.lt_of_lt_of_le (H.f0 h).2.2 hu.size⟩, fun h => ⟨(H.f1 h).1, (H.f1 h).2.1, Nat.lt_of_lt_of_le (H.f1 h).2.2 hu.size⟩, fun h => ⟨(H.f8 h).1, (H.f8 h).2.1, Nat.lt_of_lt_of_le (H.f8 h).2.2 hu.size⟩, H.ne01, H.ne08, H.ne18, H.f6, H.f13, fun h h' => (H.s0 h h').upd hu (Or.inl (H.ne01 h l1)), fun _ h => (h trivial).elim, fun h h' => (H.s8 h h').upd hu (Or.inl (Ne.symm (H.ne18 l1 h))), fun _ => ⟨rfl, fun _ => hi⟩, fun h => (n14 h).elim, fun h => (n15 h).elim, H.i16, H.bel.trans (hu.below HR.out.2.2.2.2.2.1 H.bel.size)⟩
    · clear hd
      refine wpOp_step rfl (fun K hK => ?_)
      go_simp
      refine hK _ _ ⟨t7, t8, t9, t14, t15, _, t21, t22, t23, n0, m1, w'.heap.size, rfl, ?_⟩
      simp only [Nat.reduceEqDiff, false_or, true_or]
      have H := HH.out
      have hb := alloc_below w' #[.bool false, .slice none 0 0] 102
      have n14 : ¬ L 14 := fun h => hn (H.c14 h).1
      have n15 : ¬ L 15 := fun h => n14 (H.c15 h).2
      exact ⟨H.c7, H.c13, fun h => (n14 h).elim, H.c15, H.c16, fun h => ⟨(H.f0 h).1, (H.f0 h).2.1, Nat.lt_of_lt_of_le (H.f0 h).2.2 hb.size⟩, fun h => ⟨(H.f1 h).1, (H.f1 h).2.1, Nat.lt_of_lt_of_le (H.f1 h).2.2 hb.size⟩, fun _ => ⟨rfl, H.bel.size, by simp⟩, H.ne01, fun h _ => Nat.ne_of_lt (H.f0 h).2.2, fun h _ => Nat.ne_of_lt (H.f1 h).2.2, H.f6, H.f13, fun h h' => (H.s0 h h').below hb, fun h h' => (H.s1 h h').below hb, fun _ _ => slot_new w', fun h => ⟨(H.i7 h).1, fun h' => ((H.i7 h).2 h').below hb⟩, fun h => (n14 h).elim, fun h => (n15 h).elim, H.i16, H.bel.trans (hb.mono H.bel.size)⟩
    · have hd := hd _ rfl
      simp [Region.binds] at hd
      have l7 : L 7 := by first | exact hd.1 | exact hd.2.2 | exact hd.2.1 | exact hd.2 | exact hd.2.2.1 | exact hd.2.2.2 | exact hd
      clear hd
      have HR : Hid (RatAt w' xb p q ∧ q ≠ 0 ∧ L 7) := ⟨HX.out.below HH.out.bel, by have := HL.out; omega, l7⟩
      clear l7
      refine wpOp_step rfl (fun K hK => ?_)
      go_simp
      refine (den_any xb p q _ HR.out.1 HR.out.2.1).mono ?_
      rintro e w1 ⟨rfl, rfl⟩
      refine hK _ _ ⟨t7, t8, t9, t14, t15, t16, _, t22, t23, n0, m1, m2, rfl, ?_⟩
      simp only [Nat.reduceEqDiff, false_or, true_or]
      have H := HH.out
      exact ⟨H.c7, fun _ => HR.out.2.2, fun h => ⟨(H.c14 h).1, trivial⟩, H.c15, H.c16, H.f0, H.f1, H.f8, H.ne01, H.ne08, H.ne18, H.f6, fun _ => rfl, H.s0, H.s1, H.s8, H.i7, H.i14, H.i15, H.i16, H.bel⟩
    · have hd := hd _ rfl
      simp [Region.binds] at hd
      have l8 : L 8 := by first | exact hd.1 | exact hd.2.2 | exact hd.2.1 | exact hd.2 | exact hd.2.2.1 | exact hd.2.2.2 | exact hd
      have l13 : L 13 := by first | exact hd.1 | exact hd.2.2 | exact hd.2.1 | exact hd.2 | exact hd.2.2.1 | exact hd.2.2.2 | exact hd
      clear hd
      have l7 : L 7 := HH.out.c13 l13
      have l1 : L 1 := (HH.out.c7 l7).1
      have n15 : ¬ L 15 := fun h => hn (HH.out.c15 h).2
      obtain ⟨e1, g1, g2⟩ := HH.out.f8 l8
      have e2 := HH.out.f13 l13
      subst e1 e2
      have HB := HH.out.bel
      have HR : Hid (Slot w' m2 0 ∧ IntAt w' yb 0 r ∧ IntAt w' xb 2 q ∧ yb ≠ m2 ∧ xb ≠ m2 ∧ w.heap.size ≤ m2 ∧ Below w.heap.size w w') := ⟨HH.out.s8 l8 hn, HY.out.num.below HB, HX.out.den.below HB, by have := lt_of_int HY.out.num; omega, by have := lt_of_int HX.out.num; omega, g1, HB⟩
      have HK : Hid (L 1 ∧ L 7 ∧ L 8 ∧ L 13 ∧ ¬ L 15) := ⟨l1, l7, l8, l13, n15⟩
      clear l1 l7 l8 l13 n15 g1 g2 HB
      refine wpOp_step rfl (fun K hK => ?_)
      go_simp
      refine (imul_any m2 0 yb 0 xb 2 r q _ HR.out.1 HR.out.2.1 HR.out.2.2.1 LP.out.1.2.2.1 LP.out.1.2.1 HR.out.2.2.2.1 HR.out.2.2.2.2.1).mono ?_
      rintro e w1 ⟨rfl, hi, hs, hu⟩
      refine hK _ _ ⟨t7, t8, t9, t14, t15, _, _, _, t23, n0, m1, m2, rfl, ?_⟩
      simp only [Nat.reduceEqDiff, false_or, true_or]
      have H := HH.out
      obtain ⟨l1, l7, l8, l13, n15⟩ := HK.out
      exact ⟨H.c7, H.c13, fun _ => ⟨l8, l13⟩, fun h => (n15 h).elim, H.c16, fun h => ⟨(H.f0 h).1, (H.f0 h).2.1, Nat.lt_of_lt_of_le (H.f0 h).2.2 hu.size⟩, fun h => ⟨(H.f1 h).1, (H.f1 h).2.1, Nat.lt_of_lt_of_le (H.f1 h).2.2 hu.size⟩, fun h => ⟨(H.f8 h).1, (H.f8 h).2.1, Nat.lt_of_lt_of_le (H.f8 h).2.2 hu.size⟩, H.ne01, H.ne08, H.ne18, H.f6, H.f13, fun h h' => (H.s0 h h').upd hu (Or.inl (H.ne08 h l8)), fun _ h => (h l7).elim, fun _ h => (h trivial).elim, fun h => ⟨(H.i7 h).1, fun h' => ((H.i7 h).2 h').upd HR.out.1 hu (Or.inl (H.ne18 l1 l8))⟩, fun _ => ⟨rfl, fun _ => hi⟩, fun h => (n15 h).elim, H.i16, H.bel.trans (hu.below HR.out.2.2.2.2.2.1 H.bel.size)⟩
    · have hd := hd _ rfl
      simp [Region.binds] at hd
      have l0 : L 0 := by first | exact hd.1 | exact hd.2.2 | exact hd.2.1 | exact hd.2 | exact hd.2.2.1 | exact hd.2.2.2 | exact hd
      have l7 : L 7 := by first | exact hd.1 | exact hd.2.2 | exact hd.2.1 | exact hd.2 | exact hd.2.2.1 | exact hd.2.2.2 | exact hd
      have l14 : L 14 := by first | exact hd.1 | exact hd.2.2 | exact hd.2.1 | exact hd.2 | exact hd.2.2.1 | exact hd.2.2.2 | exact hd
      clear hd
      obtain ⟨e1, g1, g2⟩ := HH.out.f0 l0
      obtain ⟨e2, k1⟩ := HH.out.i7 l7
      obtain ⟨e3, k2⟩ := HH.out.i14 l14
      subst e1 e2 e3
      have HR : Hid (Slot w' n0 0 ∧ IntAt w' m1 0 (p * s) ∧ IntAt w' m2 0 (r * q) ∧ w.heap.size ≤ n0) := ⟨HH.out.s0 l0 hn, k1 hn, k2 hn, g1⟩
      have HK : Hid (L 0 ∧ L 7 ∧ L 14) := ⟨l0, l7, l14⟩
      clear l0 l7 l14 g1 g2 k1 k2
      refine wpOp_step rfl (fun K hK => ?_)
      go_simp
      refine (iadd_any n0 0 m1 0 m2 0 (p * s) (r * q) _ HR.out.1 HR.out.2.1 HR.out.2.2.1 LP.out.2.1 LP.out.2.2).mono ?_
      rintro e w1 ⟨rfl, hi, hs, hu⟩
      refine hK _ _ ⟨t7, _, t9, t14, _, t16, t21, _, _, n0, m1, m2, rfl, ?_⟩
      simp only [Nat.reduceEqDiff, false_or, true_or]
      have H := HH.out
      obtain ⟨l0, l7, l14⟩ := HK.out
      exact ⟨H.c7, H.c13, H.c14, fun _ => ⟨l0, l14⟩, fun _ => trivial, fun h => ⟨(H.f0 h).1, (H.f0 h).2.1, Nat.lt_of_lt_of_le (H.f0 h).2.2 hu.size⟩, fun h => ⟨(H.f1 h).1, (H.f1 h).2.1, Nat.lt_of_lt_of_le (H.f1 h).2.2 hu.size⟩, fun h => ⟨(H.f8 h).1, (H.f8 h).2.1, Nat.lt_of_lt_of_le (H.f8 h).2.2 hu.size⟩, H.ne01, H.ne08, H.ne18, H.f6, H.f13, fun _ h => (h trivial).elim, fun _ h => (h l7).elim, fun _ h => (h l14).elim, fun h => ⟨(H.i7 h).1, fun h' => (h' trivial).elim⟩, fun h => ⟨(H.i14 h).1, fun h' => (h' trivial).elim⟩, fun _ => ⟨rfl, hi⟩, H.i16, H.bel.trans (hu.below HR.out.2.2.2 H.bel.size)⟩
    · have hd := hd _ rfl
      simp [Region.binds] at hd
      have l15 : L 15 := by first | exact hd.1 | exact hd.2.2 | exact hd.2.1 | exact hd.2 | exact hd.2.2.1 | exact hd.2.2.2 | exact hd
      clear hd
      have e1 := (HH.out.i15 l15).1
      subst e1
      have HR : Hid (L 15) := l15
      clear l15
      refine wpOp_step rfl (fun K hK => ?_)
      go_simp
      refine hK _ _ ⟨_, t8, t9, t14, t15, t16, t21, t22, _, n0, m1, m2, rfl, ?_⟩
      simp only [Nat.reduceEqDiff, false_or, true_or]
      have H := HH.out
      exact ⟨H.c7, H.c13, H.c14, H.c15, fun _ => HR.out, H.f0, H.f1, H.f8, H.ne01, H.ne08, H.ne18, H.f6, H.f13, H.s0, H.s1, H.s8, H.i7, H.i14, H.i15, fun _ => rfl, H.bel⟩
  · rintro L a w' hL ⟨t7, t8, t9, t14, t15, t16, t21, t22, t23, n0, m1, m2, rfl, H⟩
    obtain ⟨_, h1⟩ := H.i15 (hL 15 (by simp))
    have h3 := H.i16 (hL 16 (by simp))
    have hn0 := (H.f0 (hL 0 (by simp))).2.1
    subst h3
    have HE : Hid (IntAt w' n0 0 (p * s + r * q) ∧ Below w.heap.size w w' ∧ w.heap.size ≤ n0) := ⟨h1, H.bel, hn0⟩
    clear H h1 hn0
    have hb1 := alloc_below w' #[.bool false, .slice none 0 0] 102
    have HB1 : Hid (Below w'.heap.size w' (w'.alloc (.cells #[.bool false, .slice none 0 0] 102)) ∧ Slot (w'.alloc (.cells #[.bool false, .slice none 0 0] 102)) w'.heap.size 0) := ⟨hb1, slot_new w'⟩
    clear hb1
    go_wp2_with fail
    generalize w'.alloc (.cells #[.bool false, .slice none 0 0] 102) = w2 at *
    have HBW : Hid (Below w.heap.size w w2) := HE.out.2.1.trans (HB1.out.1.mono HE.out.2.1.size)
    refine (den_any xb p q _ (HX.out.below HBW.out) (by have := HL.out; omega)).mono ?_
    rintro e w3 ⟨rfl, rfl⟩
    go_wp2_with fail
    refine (den_any yb r s _ (HY.out.below HBW.out) (by have := HL.out; omega)).mono ?_
    rintro e w4 ⟨rfl, rfl⟩
    go_wp2_with fail
    refine (imul_any w'.heap.size 0 xb 2 yb 2 q s _ HB1.out.2 (HX.out.den.below HBW.out) (HY.out.den.below HBW.out) LP.out.1.2.1 LP.out.1.2.2.2 (by have := lt_of_int HX.out.num; have := HE.out.2.1.size; omega) (by have := lt_of_int HY.out.num; have := HE.out.2.1.size; omega)).mono ?_
    rintro e w5 ⟨rfl, hi, hs, hu⟩
    have HI : Hid (IntAt w5 w'.heap.size 0 (q * s) ∧ IntAt w5 n0 0 (p * s + r * q) ∧ Below w.heap.size w w5) := ⟨hi, (HE.out.1.below HB1.out.1).upd HB1.out.2 hu (Or.inl (by have := lt_of_int HE.out.1; omega)), HBW.out.trans (hu.below HE.out.2.1.size HBW.out.size)⟩
    clear hi hs hu
    go_wp2_with fail
    refine (setFrac_big b n0 0 w'.heap.size 0 (p * s + r * q) (q * s) _ (HS.out.1.below HI.out.2.2) (HS.out.2.below HI.out.2.2) HI.out.2.1 HI.out.1 HL.out.2.2.2.2 HL.out.2.2.1 HL.out.2.2.2.1).mono ?_
    rintro e w6 ⟨rfl, hrat, hu⟩
    have HF : Hid (RatAt w6 b ((p * s + r * q) / (gcdOf (p * s + r * q) (q * s) : Int)) (q * s / (gcdOf (p * s + r * q) (q * s) : Int)) ∧ UpdR b w w6) := ⟨hrat, (UpdR.of_below HI.out.2.2).trans hu⟩
    clear hrat hu
    go_wp2
    go_ret
    exact ⟨rfl, HF.out.1, HF.out.2⟩
set_option maxHeartbeats 4000000 in
theorem rsub_any (b xb yb : Nat) (p q r s : Int) (w : World) (hs1 : Slot w b 0) (hs2 : Slot w b 2) (hx : RatAt w xb p q) (hy : RatAt w yb r s) (hq : 1 ≤ q) (hsn : 1 ≤ s) (l1 : p.natAbs < 4294967296 ^ 50) (l2 : q.natAbs < 4294967296 ^ 50) (l3 : r.natAbs < 4294967296 ^ 50) (l4 : s.natAbs < 4294967296 ^ 50) (lu : (p * s).natAbs < 4294967296 ^ 50) (lv : (r * q).natAbs < 4294967296 ^ 50) (lz : (p * s - r * q).natAbs < 4294967296 ^ 50) (lq : (q * s).natAbs < 4294967296 ^ 50) :
    Calls Tryz.prog 65 #[.pointer (some ⟨b, 0, none⟩), .pointer (some ⟨xb, 0, none⟩), .pointer (some ⟨yb, 0, none⟩)] w fun e w' => e = .returned (.pointer (some ⟨b, 0, none⟩)) ∧ RatAt w' b ((p * s - r * q) / (gcdOf (p * s - r * q) (q * s) : Int)) (q * s / (gcdOf (p * s - r * q) (q * s) : Int)) ∧ UpdR b w w' := by
  have HS : Hid (Slot w b 0 ∧ Slot w b 2) := ⟨hs1, hs2⟩
  have HX : Hid (RatAt w xb p q) := hx
  have HY : Hid (RatAt w yb r s) := hy
  have HL : Hid (1 ≤ q ∧ 1 ≤ s ∧ (p * s - r * q).natAbs < 4294967296 ^ 50 ∧ (q * s).natAbs < 4294967296 ^ 50 ∧ 1 ≤ q * s) := ⟨hq, hsn, lz, lq, Int.mul_pos (by omega) (by omega)⟩
  have LP : Hid ((p.natAbs < 4294967296 ^ 100 ∧ q.natAbs < 4294967296 ^ 100 ∧ r.natAbs < 4294967296 ^ 100 ∧ s.natAbs < 4294967296 ^ 100) ∧ (p * s).natAbs < 4294967296 ^ 100 ∧ (r * q).natAbs < 4294967296 ^ 100) := ⟨⟨lt_50_100 l1, lt_50_100 l2, lt_50_100 l3, lt_50_100 l4⟩, lt_50_100 lu, lt_50_100 lv⟩
  clear hs1 hs2 hx hy hq hsn lz lq l1 l2 l3 l4 lu lv
  go_enter Tryz.func65, Tryz.ntmps65
  go_wp2_with fail
  refine wp_region_any (by kernel_rfl) ?_
  change wpAny _ _ _ _ _ _ _ (World.drew _)
  refine wpAny_take (i := 2) (v := ?_) rfl (by kernel_rfl) (by kernel_rfl) (by kernel_rfl) (fun _ _ _ h => h) (Or.inl ⟨by rfl, ?_⟩) ?_
  rotate_left
  · intro w; go_simp; try with_reducible rfl
  simp only [Act.put, List.getElem_toArray, List.getElem_cons_zero, List.getElem_cons_succ, List.setIfInBounds_toArray, List.set_cons_zero, List.set_cons_succ]
  refine wpAny_take (i := 3) (v := ?_) rfl (by kernel_rfl) (by kernel_rfl) (by kernel_rfl) (fun _ _ _ h => h) (Or.inl ⟨by rfl, ?_⟩) ?_
  rotate_left
  · intro w; go_simp; try with_reducible rfl
  simp only [Act.put, List.getElem_toArray, List.getElem_cons_zero, List.getElem_cons_succ, List.setIfInBounds_toArray, List.set_cons_zero, List.set_cons_succ]
  refine wpAny_take (i := 4) (v := ?_) rfl (by kernel_rfl) (by kernel_rfl) (by kernel_rfl) (fun _ _ _ h => h) (Or.inl ⟨by rfl, ?_⟩) ?_
  rotate_left
  · intro w; go_simp; try with_reducible rfl
  simp only [Act.put, List.getElem_toArray, List.getElem_cons_zero, List.getElem_cons_succ, List.setIfInBounds_toArray, List.set_cons_zero, List.set_cons_succ]
  refine wpAny_take (i := 5) (v := ?_) rfl (by kernel_rfl) (by kernel_rfl) (by kernel_rfl) (fun _ _ _ h => h) (Or.inl ⟨by rfl, ?_⟩) ?_
  rotate_left
  · intro w; go_simp; try with_reducible rfl
  simp only [Act.put, List.getElem_toArray, List.getElem_cons_zero, List.getElem_cons_succ, List.setIfInBounds_toArray, List.set_cons_zero, List.set_cons_succ]
  refine wpAny_take (i := 9) (v := ?_) rfl (by kernel_rfl) (by kernel_rfl) (by kernel_rfl) (fun _ _ _ h => h) (Or.inl ⟨by rfl, ?_⟩) ?_
  rotate_left
  · intro w; go_simp; try with_reducible rfl
  simp only [Act.put, List.getElem_toArray, List.getElem_cons_zero, List.getElem_cons_succ, List.setIfInBounds_toArray, List.set_cons_zero, List.set_cons_succ]
  refine wpAny_take (i := 10) (v := ?_) rfl (by kernel_rfl) (by kernel_rfl) (by kernel_rfl) (fun _ _ _ h => h) (Or.inl ⟨by rfl, ?_⟩) ?_
  rotate_left
  · intro w; go_simp; try with_reducible rfl
  simp only [Act.put, List.getElem_toArray, List.getElem_cons_zero, List.getElem_cons_succ, List.setIfInBounds_toArray, List.set_cons_zero, List.set_cons_succ]
  refine wpAny_take (i := 11) (v := ?_) rfl (by kernel_rfl) (by kernel_rfl) (by kernel_rfl) (fun _ _ _ h => h) (Or.inl ⟨by rfl, ?_⟩) ?_
  rotate_left
  · intro w; go_simp; try with_reducible rfl
  simp only [Act.put, List.getElem_toArray, List.getElem_cons_zero, List.getElem_cons_succ, List.setIfInBounds_toArray, List.set_cons_zero, List.set_cons_succ]
  refine wpAny_take (i := 12) (v := ?_) rfl (by kernel_rfl) (by kernel_rfl) (by kernel_rfl) (fun _ _ _ h => h) (Or.inl ⟨by rfl, ?_⟩) ?_
  rotate_left
  · intro w; go_simp; try with_reducible rfl
  simp only [Act.put, List.getElem_toArray, List.getElem_cons_zero, List.getElem_cons_succ, List.setIfInBounds_toArray, List.set_cons_zero, List.set_cons_succ]
  refine wpAny_by (fun L a w' => ∃ (t7 t8 t9 t14 t15 t16 t21 t22 t23 : Value) (n0 m1 m2 : Nat), a = { tmps := #[.pointer (some ⟨b, 0, none⟩), .pointer (some ⟨xb, 0, none⟩), .pointer (some ⟨yb, 0, none⟩), undef, undef, undef, .pointer none, t7, t8, t9, .pointer (some ⟨xb, 0, none⟩), .pointer (some ⟨xb, 0, none⟩), .pointer (some ⟨xb, 0, none⟩), .pointer (some ⟨yb, 0, none⟩), t14, t15, t16, .pointer (some ⟨yb, 0, none⟩), .pointer (some ⟨yb, 0, none⟩), .pointer (some ⟨yb, 0, none⟩), .pointer (some ⟨xb, 0, none⟩), t21, t22, t23, undef, undef, undef, undef, undef, undef, undef, undef, undef], defers := [] } ∧ AddI w xb yb (p * s) (r * q) (p * s - r * q) (L 0) (L 1) (L 6) (L 7) (L 8) (L 13) (L 14) (L 15) (L 16) t7 t8 t9 t14 t15 t16 t21 t22 t23 n0 m1 m2 w') [0, 1, 6, 7, 8, 13, 14, 15, 16] (by kernel_rfl) (by kernel_rfl) (by decide) ?_ ?_ ?_
  · intro L hL
    have n : ∀ i, i ∈ [0, 1, 6, 7, 8, 13, 14, 15, 16] → L i → False := hL
    refine ⟨undef, undef, undef, undef, undef, undef, undef, undef, undef, 0, 0, 0, rfl, ?_⟩
    have n0 := n 0 (by simp)
    have n1 := n 1 (by simp)
    have n6 := n 6 (by simp)
    have n7 := n 7 (by simp)
    have n8 := n 8 (by simp)
    have n13 := n 13 (by simp)
    have n14 := n 14 (by simp)
    have n15 := n 15 (by simp)
    have n16 := n 16 (by simp)
    exact ⟨fun h => (n7 h).elim, fun h => (n13 h).elim, fun h => (n14 h).elim, fun h => (n15 h).elim, fun h => (n16 h).elim, fun h => (n0 h).elim, fun h => (n1 h).elim, fun h => (n8 h).elim, fun h => (n0 h).elim, fun h => (n0 h).elim, fun h => (n1 h).elim, fun h => (n6 h).elim, fun h => (n13 h).elim, fun h => (n0 h).elim, fun h => (n1 h).elim, fun h => (n8 h).elim, fun h => (n7 h).elim, fun h => (n14 h).elim, fun h => (n15 h).elim, fun h => (n16 h).elim, (Below.refl _ w).drew⟩
  · rintro i L a w' hi hn hd ⟨t7, t8, t9, t14, t15, t16, t21, t22, t23, n0, m1, m2, rfl, H⟩
    simp only [List.mem_cons, List.not_mem_nil, or_false] at hi
    have HH : Hid (AddI w xb yb (p * s) (r * q) (p * s - r * q) (L 0) (L 1) (L 6) (L 7) (L 8) (L 13) (L 14) (L 15) (L 16) t7 t8 t9 t14 t15 t16 t21 t22 t23 n0 m1 m2 w') := H
    clear H
    rcases hi with rfl | rfl | rfl | rfl | rfl | rfl | rfl | rfl | rfl
    · clear hd
      refine wpOp_step rfl (fun K hK => ?_)
      go_simp
      refine hK _ _ ⟨t7, _, t9, t14, t15, t16, t21, t22, t23, w'.heap.size, m1, m2, rfl, ?_⟩
      simp only [Nat.reduceEqDiff, false_or, true_or]
      have H := HH.out
      have hb := alloc_below w' #[.bool false, .slice none 0 0] 102
      have n15 : ¬ L 15 := fun h => hn (H.c15 h).1
      have n16 : ¬ L 16 := fun h => n15 (H.c16 h)
      exact ⟨H.c7, H.c13, H.c14, fun h => (n15 h).elim, H.c16, fun _ => ⟨rfl, H.bel.size, by simp⟩, fun h => ⟨(H.f1 h).1, (H.f1 h).2.1, Nat.lt_of_lt_of_le (H.f1 h).2.2 hb.size⟩, fun h => ⟨(H.f8 h).1, (H.f8 h).2.1, Nat.lt_of_lt_of_le (H.f8 h).2.2 hb.size⟩, fun _ h => Nat.ne_of_gt (H.f1 h).2.2, fun _ h => Nat.ne_of_gt (H.f8 h).2.2, H.ne18, H.f6, H.f13, fun _ _ => slot_new w', fun h h' => (H.s1 h h').below hb, fun h h' => (H.s8 h h').below hb, fun h => ⟨(H.i7 h).1, fun h' => ((H.i7 h).2 h').below hb⟩, fun h => ⟨(H.i14 h).1, fun h' => ((H.i14 h).2 h').below hb⟩, fun h => (n15 h).elim, fun h => (n16 h).elim, H.bel.trans (hb.mono H.bel.size)⟩
    · clear hd
      refine wpOp_step rfl (fun K hK => ?_)
      go_simp
      refine hK _ _ ⟨t7, t8, _, t14, t15, t16, t21, t22, t23, n0, w'.heap.size, m2, rfl, ?_⟩
      simp only [Nat.reduceEqDiff, false_or, true_or]
      have H := HH.out
      have hb := alloc_below w' #[.bool false, .slice none 0 0] 102
      have n7 : ¬ L 7 := fun h => hn (H.c7 h).1
      have n13 : ¬ L 13 := fun h => n7 (H.c13 h)
      have n14 : ¬ L 14 := fun h => n13 (H.c14 h).2
      have n15 : ¬ L 15 := fun h => n14 (H.c15 h).2
      exact ⟨fun h => (n7 h).elim, H.c13, H.c14, H.c15, H.c16, fun h => ⟨(H.f0 h).1, (H.f0 h).2.1, Nat.lt_of_lt_of_le (H.f0 h).2.2 hb.size⟩, fun _ => ⟨rfl, H.bel.size, by simp⟩, fun h => ⟨(H.f8 h).1, (H.f8 h).2.1, Nat.lt_of_lt_of_le (H.f8 h).2.2 hb.size⟩, fun h _ => Nat.ne_of_lt (H.f0 h).2.2, H.ne08, fun _ h => Nat.ne_of_gt (H.f8 h).2.2, H.f6, H.f13, fun h h' => (H.s0 h h').below hb, fun _ _ => slot_new w', fun h h' => (H.s8 h h').below hb, fun h => (n7 h).elim, fun h => (n14 h).elim, fun h => (n15 h).elim, H.i16, H.bel.trans (hb.mono H.bel.size)⟩
    · clear hd
      have HR : Hid (RatAt w' yb r s ∧ s ≠ 0) := ⟨HY.out.below HH.out.bel, by have := HL.out; omega⟩
      refine wpOp_step rfl (fun K hK => ?_)
      go_simp
      refine (den_any yb r s _ HR.out.1 HR.out.2).mono ?_
      rintro e w1 ⟨rfl, rfl⟩
      refine hK _ _ ⟨t7, t8, t9, _, t15, t16, t21, t22, t23, n0, m1, m2, rfl, ?_⟩
      simp only [Nat.reduceEqDiff, false_or, true_or]
      have H := HH.out
      exact ⟨fun h => ⟨(H.c7 h).1, trivial⟩, H.c13, H.c14, H.c15, H.c16, H.f0, H.f1, H.f8, H.ne01, H.ne08, H.ne18, fun _ => rfl, H.f13, H.s0, H.s1, H.s8, H.i7, H.i14, H.i15, H.i16, H.bel⟩
    · have hd := hd _ rfl
      simp [Region.binds] at hd
      have l1 : L 1 := by first | exact hd.1 | exact hd.2.2 | exact hd.2.1 | exact hd.2 | exact hd.2.2.1 | exact hd.2.2.2 | exact hd
      have l6 : L 6 := by first | exact hd.1 | exact hd.2.2 | exact hd.2.1 | exact hd.2 | exact hd.2.2.1 | exact hd.2.2.2 | exact hd
      clear hd
      have n13 : ¬ L 13 := fun h => hn (HH.out.c13 h)
      have n14 : ¬ L 14 := fun h => n13 (HH.out.c14 h).2
      have n15 : ¬ L 15 := fun h => n14 (HH.out.c15 h).2
      obtain ⟨e1, g1, g2⟩ := HH.out.f1 l1
      have e2 := HH.out.f6 l6
      subst e1 e2
      have HB := HH.out.bel
      have HR : Hid (Slot w' m1 0 ∧ IntAt w' xb 0 p ∧ IntAt w' yb 2 s ∧ xb ≠ m1 ∧ yb ≠ m1 ∧ w.heap.size ≤ m1 ∧ Below w.heap.size w w') := ⟨HH.out.s1 l1 hn, HX.out.num.below HB, HY.out.den.below HB, by have := lt_of_int HX.out.num; omega, by have := lt_of_int HY.out.num; omega, g1, HB⟩
      have HK : Hid (L 1 ∧ L 6 ∧ ¬ L 13 ∧ ¬ L 14 ∧ ¬ L 15) := ⟨l1, l6, n13, n14, n15⟩
      clear l1 l6 n13 n14 n15 g1 g2 HB
      refine wpOp_step rfl (fun K hK => ?_)
      go_simp
      refine (imul_any m1 0 xb 0 yb 2 p s _ HR.out.1 HR.out.2.1 HR.out.2.2.1 LP.out.1.1 LP.out.1.2.2.2 HR.out.2.2.2.1 HR.out.2.2.2.2.1).mono ?_
      rintro e w1 ⟨rfl, hi, hs, hu⟩
      refine hK _ _ ⟨t7, t8, _, _, _, t16, t21, t22, t23, n0, m1, m2, rfl, ?_⟩
      simp only [Nat.reduceEqDiff, false_or, true_or]
      have H := HH.out
      obtain ⟨l1, l6, n13, n14, n15⟩ := HK.out
      exact ⟨fun _ => ⟨l1, l6⟩, fun _ => trivial, H.c14, H.c15, H.c16, fun h => ⟨(H.f0 h).1, (H.f0 h).2.1, Nat.lt_of_lt_of_le (H.f0 h).2.2 hu.size⟩, fun h => ⟨(H.f1 h).1, (H.f1 h).2.1, Nat.lt_of_lt_of_le (H.f1 h).2.2 hu.size⟩, fun h => ⟨(H.f8 h).1, (H.f8 h).2.1, Nat.lt_of_lt_of_le (H.f8 h).2.2 hu.size⟩, H.ne01, H.ne08, H.ne18, H.f6, H.f13, fun h h' => (H.s0 h h').upd hu (Or.inl (H.ne01 h l1)), fun _ h => (h trivial).elim, fun h h' => (H.s8 h h').upd hu (Or.inl (Ne.symm (H.ne18 l1 h))), fun _ => ⟨rfl, fun _ => hi⟩, fun h => (n14 h).elim, fun h => (n15 h).elim, H.i16, H.bel.trans (hu.below HR.out.2.2.2.2.2.1 H.bel.size)⟩
    · clear hd
      refine wpOp_step rfl (fun K hK => ?_)
      go_simp
      refine hK _ _ ⟨t7, t8, t9, t14, t15, _, t21, t22, t23, n0, m1, w'.heap.size, rfl, ?_⟩
      simp only [Nat.reduceEqDiff, false_or, true_or]
      have H := HH.out
      have hb := alloc_below w' #[.bool false, .slice none 0 0] 102
      have n14 : ¬ L 14 := fun h => hn (H.c14 h).1
      have n15 : ¬ L 15 := fun h => n14 (H.c15 h).2
      exact ⟨H.c7, H.c13, fun h => (n14 h).elim, H.c15, H.c16, fun h => ⟨(H.f0 h).1, (H.f0 h).2.1, Nat.lt_of_lt_of_le (H.f0 h).2.2 hb.size⟩, fun h => ⟨(H.f1 h).1, (H.f1 h).2.1, Nat.lt_of_lt_of_le (H.f1 h).2.2 hb.size⟩, fun _ => ⟨rfl, H.bel.size, by simp⟩, H.ne01, fun h _ => Nat.ne_of_lt (H.f0 h).2.2, fun h _ => Nat.ne_of_lt (H.f1 h).2.2, H.f6, H.f13, fun h h' => (H.s0 h h').below hb, fun h h' => (H.s1 h h').below hb, fun _ _ => slot_new w', fun h => ⟨(H.i7 h).1, fun h' => ((H.i7 h).2 h').below hb⟩, fun h => (n14 h).elim, fun h => (n15 h).elim, H.i16, H.bel.trans (hb.mono H.bel.size)⟩
    · have hd := hd _ rfl
      simp [Region.binds] at hd
      have l7 : L 7 := by first | exact hd.1 | exact hd.2.2 | exact hd.2.1 | exact hd.2 | exact hd.2.2.1 | exact hd.2.2.2 | exact hd
      clear hd
      have HR : Hid (RatAt w' xb p q ∧ q ≠ 0 ∧ L 7) := ⟨HX.out.below HH.out.bel, by have := HL.out; omega, l7⟩
      clear l7
      refine wpOp_step rfl (fun K hK => ?_)
      go_simp
      refine (den_any xb p q _ HR.out.1 HR.out.2.1).mono ?_
      rintro e w1 ⟨rfl, rfl⟩
      refine hK _ _ ⟨t7, t8, t9, t14, t15, t16, _, t22, t23, n0, m1, m2, rfl, ?_⟩
      simp only [Nat.reduceEqDiff, false_or, true_or]
      have H := HH.out
      exact ⟨H.c7, fun _ => HR.out.2.2, fun h => ⟨(H.c14 h).1, trivial⟩, H.c15, H.c16, H.f0, H.f1, H.f8, H.ne01, H.ne08, H.ne18, H.f6, fun _ => rfl, H.s0, H.s1, H.s8, H.i7, H.i14, H.i15, H.i16, H.bel⟩
    · have hd := hd _ rfl
      simp [Region.binds] at hd
      have l8 : L 8 := by first | exact hd.1 | exact hd.2.2 | exact hd.2.1 | exact hd.2 | exact hd.2.2.1 | exact hd.2.2.2 | exact hd
      have l13 : L 13 := by first | exact hd.1 | exact hd.2.2 | exact hd.2.1 | exact hd.2 | exact hd.2.2.1 | exact hd.2.2.2 | exact hd
      clear hd
      have l7 : L 7 := HH.out.c13 l13
      have l1 : L 1 := (HH.out.c7 l7).1
      have n15 : ¬ L 15 := fun h => hn (HH.out.c15 h).2
      obtain ⟨e1, g1, g2⟩ := HH.out.f8 l8
      have e2 := HH.out.f13 l13
      subst e1 e2
      have HB := HH.out.bel
      have HR : Hid (Slot w' m2 0 ∧ IntAt w' yb 0 r ∧ IntAt w' xb 2 q ∧ yb ≠ m2 ∧ xb ≠ m2 ∧ w.heap.size ≤ m2 ∧ Below w.heap.size w w') := ⟨HH.out.s8 l8 hn, HY.out.num.below HB, HX.out.den.below HB, by have := lt_of_int HY.out.num; omega, by have := lt_of_int HX.out.num; omega, g1, HB⟩
      have HK : Hid (L 1 ∧ L 7 ∧ L 8 ∧ L 13 ∧ ¬ L 15) := ⟨l1, l7, l8, l13, n15⟩
      clear l1 l7 l8 l13 n15 g1 g2 HB
      refine wpOp_step rfl (fun K hK => ?_)
      go_simp
      refine (imul_any m2 0 yb 0 xb 2 r q _ HR.out.1 HR.out.2.1 HR.out.2.2.1 LP.out.1.2.2.1 LP.out.1.2.1 HR.out.2.2.2.1 HR.out.2.2.2.2.1).mono ?_
      rintro e w1 ⟨rfl, hi, hs, hu⟩
      refine hK _ _ ⟨t7, t8, t9, t14, t15, _, _, _, t23, n0, m1, m2, rfl, ?_⟩
      simp only [Nat.reduceEqDiff, false_or, true_or]
      have H := HH.out
      obtain ⟨l1, l7, l8, l13, n15⟩ := HK.out
      exact ⟨H.c7, H.c13, fun _ => ⟨l8, l13⟩, fun h => (n15 h).elim, H.c16, fun h => ⟨(H.f0 h).1, (H.f0 h).2.1, Nat.lt_of_lt_of_le (H.f0 h).2.2 hu.size⟩, fun h => ⟨(H.f1 h).1, (H.f1 h).2.1, Nat.lt_of_lt_of_le (H.f1 h).2.2 hu.size⟩, fun h => ⟨(H.f8 h).1, (H.f8 h).2.1, Nat.lt_of_lt_of_le (H.f8 h).2.2 hu.size⟩, H.ne01, H.ne08, H.ne18, H.f6, H.f13, fun h h' => (H.s0 h h').upd hu (Or.inl (H.ne08 h l8)), fun _ h => (h l7).elim, fun _ h => (h trivial).elim, fun h => ⟨(H.i7 h).1, fun h' => ((H.i7 h).2 h').upd HR.out.1 hu (Or.inl (H.ne18 l1 l8))⟩, fun _ => ⟨rfl, fun _ => hi⟩, fun h => (n15 h).elim, H.i16, H.bel.trans (hu.below HR.out.2.2.2.2.2.1 H.bel.size)⟩
    · have hd := hd _ rfl
      simp [Region.binds] at hd
      have l0 : L 0 := by first | exact hd.1 | exact hd.2.2 | exact hd.2.1 | exact hd.2 | exact hd.2.2.1 | exact hd.2.2.2 | exact hd
      have l7 : L 7 := by first | exact hd.1 | exact hd.2.2 | exact hd.2.1 | exact hd.2 | exact hd.2.2.1 | exact hd.2.2.2 | exact hd
      have l14 : L 14 := by first | exact hd.1 | exact hd.2.2 | exact hd.2.1 | exact hd.2 | exact hd.2.2.1 | exact hd.2.2.2 | exact hd
      clear hd
      obtain ⟨e1, g1, g2⟩ := HH.out.f0 l0
      obtain ⟨e2, k1⟩ := HH.out.i7 l7
      obtain ⟨e3, k2⟩ := HH.out.i14 l14
      subst e1 e2 e3
      have HR : Hid (Slot w' n0 0 ∧ IntAt w' m1 0 (p * s) ∧ IntAt w' m2 0 (r * q) ∧ w.heap.size ≤ n0) := ⟨HH.out.s0 l0 hn, k1 hn, k2 hn, g1⟩
      have HK : Hid (L 0 ∧ L 7 ∧ L 14) := ⟨l0, l7, l14⟩
      clear l0 l7 l14 g1 g2 k1 k2
      refine wpOp_step rfl (fun K hK => ?_)
      go_simp
      refine (isub_any n0 0 m1 0 m2 0 (p * s) (r * q) _ HR.out.1 HR.out.2.1 HR.out.2.2.1 LP.out.2.1 LP.out.2.2).mono ?_
      rintro e w1 ⟨rfl, hi, hs, hu⟩
      refine hK _ _ ⟨t7, _, t9, t14, _, t16, t21, _, _, n0, m1, m2, rfl, ?_⟩
      simp only [Nat.reduceEqDiff, false_or, true_or]
      have H := HH.out
      obtain ⟨l0, l7, l14⟩ := HK.out
      exact ⟨H.c7, H.c13, H.c14, fun _ => ⟨l0, l14⟩, fun _ => trivial, fun h => ⟨(H.f0 h).1, (H.f0 h).2.1, Nat.lt_of_lt_of_le (H.f0 h).2.2 hu.size⟩, fun h => ⟨(H.f1 h).1, (H.f1 h).2.1, Nat.lt_of_lt_of_le (H.f1 h).2.2 hu.size⟩, fun h => ⟨(H.f8 h).1, (H.f8 h).2.1, Nat.lt_of_lt_of_le (H.f8 h).2.2 hu.size⟩, H.ne01, H.ne08, H.ne18, H.f6, H.f13, fun _ h => (h trivial).elim, fun _ h => (h l7).elim, fun _ h => (h l14).elim, fun h => ⟨(H.i7 h).1, fun h' => (h' trivial).elim⟩, fun h => ⟨(H.i14 h).1, fun h' => (h' trivial).elim⟩, fun _ => ⟨rfl, hi⟩, H.i16, H.bel.trans (hu.below HR.out.2.2.2 H.bel.size)⟩
    · have hd := hd _ rfl
      simp [Region.binds] at hd
      have l15 : L 15 := by first | exact hd.1 | exact hd.2.2 | exact hd.2.1 | exact hd.2 | exact hd.2.2.1 | exact hd.2.2.2 | exact hd
      clear hd
      have e1 := (HH.out.i15 l15).1
      subst e1
      have HR : Hid (L 15) := l15
      clear l15
      refine wpOp_step rfl (fun K hK => ?_)
      go_simp
      refine hK _ _ ⟨_, t8, t9, t14, t15, t16, t21, t22, _, n0, m1, m2, rfl, ?_⟩
      simp only [Nat.reduceEqDiff, false_or, true_or]
      have H := HH.out
      exact ⟨H.c7, H.c13, H.c14, H.c15, fun _ => HR.out, H.f0, H.f1, H.f8, H.ne01, H.ne08, H.ne18, H.f6, H.f13, H.s0, H.s1, H.s8, H.i7, H.i14, H.i15, fun _ => rfl, H.bel⟩
  · rintro L a w' hL ⟨t7, t8, t9, t14, t15, t16, t21, t22, t23, n0, m1, m2, rfl, H⟩
    obtain ⟨_, h1⟩ := H.i15 (hL 15 (by simp))
    have h3 := H.i16 (hL 16 (by simp))
    have hn0 := (H.f0 (hL 0 (by simp))).2.1
    subst h3
    have HE : Hid (IntAt w' n0 0 (p * s - r * q) ∧ Below w.heap.size w w' ∧ w.heap.size ≤ n0) := ⟨h1, H.bel, hn0⟩
    clear H h1 hn0
    have hb1 := alloc_below w' #[.bool false, .slice none 0 0] 102
    have HB1 : Hid (Below w'.heap.size w' (w'.alloc (.cells #[.bool false, .slice none 0 0] 102)) ∧ Slot (w'.alloc (.cells #[.bool false, .slice none 0 0] 102)) w'.heap.size 0) := ⟨hb1, slot_new w'⟩
    clear hb1
    go_wp2_with fail
    generalize w'.alloc (.cells #[.bool false, .slice none 0 0] 102) = w2 at *
    have HBW : Hid (Below w.heap.size w w2) := HE.out.2.1.trans (HB1.out.1.mono HE.out.2.1.size)
    refine (den_any xb p q _ (HX.out.below HBW.out) (by have := HL.out; omega)).mono ?_
    rintro e w3 ⟨rfl, rfl⟩
    go_wp2_with fail
    refine (den_any yb r s _ (HY.out.below HBW.out) (by have := HL.out; omega)).mono ?_
    rintro e w4 ⟨rfl, rfl⟩
    go_wp2_with fail
    refine (imul_any w'.heap.size 0 xb 2 yb 2 q s _ HB1.out.2 (HX.out.den.below HBW.out) (HY.out.den.below HBW.out) LP.out.1.2.1 LP.out.1.2.2.2 (by have := lt_of_int HX.out.num; have := HE.out.2.1.size; omega) (by have := lt_of_int HY.out.num; have := HE.out.2.1.size; omega)).mono ?_
    rintro e w5 ⟨rfl, hi, hs, hu⟩
    have HI : Hid (IntAt w5 w'.heap.size 0 (q * s) ∧ IntAt w5 n0 0 (p * s - r * q) ∧ Below w.heap.size w w5) := ⟨hi, (HE.out.1.below HB1.out.1).upd HB1.out.2 hu (Or.inl (by have := lt_of_int HE.out.1; omega)), HBW.out.trans (hu.below HE.out.2.1.size HBW.out.size)⟩
    clear hi hs hu
    go_wp2_with fail
    refine (setFrac_big b n0 0 w'.heap.size 0 (p * s - r * q) (q * s) _ (HS.out.1.below HI.out.2.2) (HS.out.2.below HI.out.2.2) HI.out.2.1 HI.out.1 HL.out.2.2.2.2 HL.out.2.2.1 HL.out.2.2.2.1).mono ?_
    rintro e w6 ⟨rfl, hrat, hu⟩
    have HF : Hid (RatAt w6 b ((p * s - r * q) / (gcdOf (p * s - r * q) (q * s) : Int)) (q * s / (gcdOf (p * s - r * q) (q * s) : Int)) ∧ UpdR b w w6) := ⟨hrat, (UpdR.of_below HI.out.2.2).trans hu⟩
    clear hrat hu
    go_wp2
    go_ret
    exact ⟨rfl, HF.out.1, HF.out.2⟩
end Go.Proofs.YtnppmigncjakeaaGreatDoor
