/-
  millracebig's Rat: Quo of two fractions: what lies behind the call, and what stays.
-/
import Derived.Test.YtnppmigncjakeaaGreatDoorRat10
import Derived.Test.YtnppmigncjakeaaGreatDoorOrd
namespace Go.Proofs.YtnppmigncjakeaaGreatDoor
open Go.RowKit Go.Deep

/-- What holds at every point of Quo's drawing. -/
structure QuoI (w : World) (b xb yb : Nat) (p q r s : Int) (l1 l6 l7 l8 l10 l14 l15 l16 : Prop) (t6 t8 t13 t14 t15 t17 t21 t22 : Value) (pa pb : Nat) (w' : World) : Prop where
  c7 : l7 → l1 ∧ l6
  c10 : l10 → l7
  c14 : l14 → l8 ∧ l10
  c15 : l15 → l14
  c16 : l16 → l15
  f6 : l6 → t13 = .pointer (some ⟨yb, 2, none⟩)
  f10 : l10 → t17 = .pointer (some ⟨xb, 2, none⟩)
  f1 : l1 → t8 = .pointer (some ⟨pa, 0, none⟩) ∧ w.heap.size ≤ pa ∧ pa < w'.heap.size
  f8 : l8 → t15 = .pointer (some ⟨pb, 0, none⟩) ∧ w.heap.size ≤ pb ∧ pb < w'.heap.size
  ne : l1 → l8 → pa ≠ pb
  bel : ¬ l15 → Below w.heap.size w w'
  s1 : l1 → ¬ l7 → Slot w' pa 0
  s8 : l8 → ¬ l14 → Slot w' pb 0
  i7 : l7 → t14 = .pointer (some ⟨pa, 0, none⟩) ∧ (¬ l15 → IntAt w' pa 0 (p * s))
  i14 : l14 → t21 = .pointer (some ⟨pb, 0, none⟩) ∧ (¬ l15 → IntAt w' pb 0 (q * r))
  i15 : l15 → t22 = .pointer (some ⟨b, 0, none⟩) ∧ RatAt w' b (p * s / (gcdOf (p * s) (q * r) : Int)) (q * r / (gcdOf (p * s) (q * r) : Int)) ∧ UpdR b w w'
  i16 : l16 → t6 = .pointer (some ⟨b, 0, none⟩)

theorem alloc_below (w : World) (c : Array Value) (t : TypeId) : Below w.heap.size w (w.alloc (.cells c t)) := (Below.refl _ _).alloc (Nat.le_refl _) _
theorem lt_of_slot {w : World} {b o : Nat} (h : Slot w b o) : b < w.heap.size := by
  obtain ⟨⟨c, h1⟩, _⟩ := h
  exact lt_of_cell h1
theorem lt_of_int {w : World} {b o : Nat} {z : Int} (h : IntAt w b o z) : b < w.heap.size := lt_of_cell h.1

set_option maxHeartbeats 4000000 in
theorem rquo_any (b xb yb : Nat) (p q r s : Int) (w : World) (hs1 : Slot w b 0) (hs2 : Slot w b 2) (hx : RatAt w xb p q) (hy : RatAt w yb r s) (hq : 1 ≤ q) (hr : 1 ≤ r) (hsn : 1 ≤ s) (ls : s.natAbs < 18446744073709551616) (lp : (p * s).natAbs < 18446744073709551616) (lq : (q * r).natAbs < 18446744073709551616) :
    Calls Tryz.prog 72 #[.pointer (some ⟨b, 0, none⟩), .pointer (some ⟨xb, 0, none⟩), .pointer (some ⟨yb, 0, none⟩)] w fun e w' => e = .returned (.pointer (some ⟨b, 0, none⟩)) ∧ RatAt w' b (p * s / (gcdOf (p * s) (q * r) : Int)) (q * r / (gcdOf (p * s) (q * r) : Int)) ∧ UpdR b w w' := by
  have HS : Hid (Slot w b 0 ∧ Slot w b 2) := ⟨hs1, hs2⟩
  have HX : Hid (RatAt w xb p q) := hx
  have HY : Hid (RatAt w yb r s) := hy
  have HL : Hid (1 ≤ q ∧ 1 ≤ r ∧ 1 ≤ s ∧ (p * s).natAbs < 18446744073709551616 ∧ (q * r).natAbs < 18446744073709551616 ∧ 1 ≤ q * r) := ⟨hq, hr, hsn, lp, lq, Int.mul_pos (by omega) (by omega)⟩
  have LP : Hid (p.natAbs < 4294967296 ^ 100 ∧ q.natAbs < 4294967296 ^ 100 ∧ r.natAbs < 4294967296 ^ 100 ∧ s.natAbs < 4294967296 ^ 100) := by
    have h1 : p.natAbs ≤ (p * s).natAbs := by rw [Int.natAbs_mul]; exact Nat.le_mul_of_pos_right _ (by omega)
    have h2 : q.natAbs ≤ (q * r).natAbs := by rw [Int.natAbs_mul]; exact Nat.le_mul_of_pos_right _ (by omega)
    have h3 : r.natAbs ≤ (q * r).natAbs := by rw [Int.natAbs_mul]; exact Nat.le_mul_of_pos_left _ (by omega)
    exact ⟨lt_100 (by omega), lt_100 (by omega), lt_100 (by omega), lt_100 ls⟩
  clear hs1 hs2 hx hy hq hr hsn ls lp lq
  go_enter Tryz.func72, Tryz.ntmps72
  go_wp2_with fail
  refine wp_region_any (by kernel_rfl) ?_
  change wpAny _ _ _ _ _ _ _ (World.drew _)
  refine wpAny_take (i := 0) (v := ?_) rfl (by kernel_rfl) (by kernel_rfl) (by kernel_rfl) (fun _ _ _ h => h) (Or.inl ⟨by rfl, ?_⟩) ?_
  rotate_left
  · intro w; go_simp; try with_reducible rfl
  simp only [Act.put, List.getElem_toArray, List.getElem_cons_zero, List.setIfInBounds_toArray, List.set_cons_zero, List.set_cons_succ]
  refine wpAny_take (i := 2) (v := ?_) rfl (by kernel_rfl) (by kernel_rfl) (by kernel_rfl) (fun _ _ _ h => h) (Or.inl ⟨by rfl, ?_⟩) ?_
  rotate_left
  · intro w; go_simp; try with_reducible rfl
  simp only [Act.put, List.getElem_toArray, List.getElem_cons_zero, List.getElem_cons_succ, List.setIfInBounds_toArray, List.set_cons_zero, List.set_cons_succ]
  refine wpAny_take (i := 3) (v := ?_) rfl (by kernel_rfl) (by kernel_rfl) (by kernel_rfl) (fun _ _ _ h => h) (Or.inl ⟨by rfl, ?_⟩) ?_
  rotate_left
  · intro w; go_simp; try with_reducible rfl
  simp only [Act.put, List.getElem_toArray, List.getElem_cons_zero, List.getElem_cons_succ, List.setIfInBounds_toArray, List.set_cons_zero, List.set_cons_succ]
  refine wpAny_take (i := 4) (v := ?_) rfl (by kernel_rfl) (by kernel_rfl) (by kernel_rfl) (fun _ _ _ h => h) (Or.inl ⟨by rfl, ?_⟩) ?_
  rotate_left
  · intro w; go_simp; try with_reducible rfl
  simp only [Act.put, List.getElem_toArray, List.getElem_cons_zero, List.getElem_cons_succ, List.setIfInBounds_toArray, List.set_cons_zero, List.set_cons_succ]
  refine wpAny_take (i := 5) (v := ?_) rfl (by kernel_rfl) (by kernel_rfl) (by kernel_rfl) (fun _ _ _ h => h) (Or.inl ⟨by rfl, ?_⟩) ?_
  rotate_left
  · intro w; go_simp; try with_reducible rfl
  simp only [Act.put, List.getElem_toArray, List.getElem_cons_zero, List.getElem_cons_succ, List.setIfInBounds_toArray, List.set_cons_zero, List.set_cons_succ]
  refine wpAny_take (i := 9) (v := ?_) rfl (by kernel_rfl) (by kernel_rfl) (by kernel_rfl) (fun _ _ _ h => h) (Or.inl ⟨by rfl, ?_⟩) ?_
  rotate_left
  · intro w; go_simp; try with_reducible rfl
  simp only [Act.put, List.getElem_toArray, List.getElem_cons_zero, List.getElem_cons_succ, List.setIfInBounds_toArray, List.set_cons_zero, List.set_cons_succ]
  refine wpAny_take (i := 11) (v := ?_) rfl (by kernel_rfl) (by kernel_rfl) (by kernel_rfl) (fun _ _ _ h => h) (Or.inl ⟨by rfl, ?_⟩) ?_
  rotate_left
  · intro w; go_simp; try with_reducible rfl
  simp only [Act.put, List.getElem_toArray, List.getElem_cons_zero, List.getElem_cons_succ, List.setIfInBounds_toArray, List.set_cons_zero, List.set_cons_succ]
  refine wpAny_take (i := 12) (v := ?_) rfl (by kernel_rfl) (by kernel_rfl) (by kernel_rfl) (fun _ _ _ h => h) (Or.inl ⟨by rfl, ?_⟩) ?_
  rotate_left
  · intro w; go_simp; try with_reducible rfl
  simp only [Act.put, List.getElem_toArray, List.getElem_cons_zero, List.getElem_cons_succ, List.setIfInBounds_toArray, List.set_cons_zero, List.set_cons_succ]
  refine wpAny_take (i := 13) (v := ?_) rfl (by kernel_rfl) (by kernel_rfl) (by kernel_rfl) (fun _ _ _ h => h) (Or.inl ⟨by rfl, ?_⟩) ?_
  rotate_left
  · intro w; go_simp; try with_reducible rfl
  simp only [Act.put, List.getElem_toArray, List.getElem_cons_zero, List.getElem_cons_succ, List.setIfInBounds_toArray, List.set_cons_zero, List.set_cons_succ]
  refine wpAny_by (fun L a w' => ∃ (t6 t8 t13 t14 t15 t17 t21 t22 : Value) (pa pb : Nat), a = { tmps := #[.pointer (some ⟨b, 0, none⟩), .pointer (some ⟨xb, 0, none⟩), .pointer (some ⟨yb, 0, none⟩), undef, undef, undef, t6, .pointer (some ⟨b, 0, none⟩), t8, .pointer (some ⟨xb, 0, none⟩), .pointer (some ⟨xb, 0, none⟩), .pointer (some ⟨xb, 0, none⟩), .pointer (some ⟨yb, 0, none⟩), t13, t14, t15, .pointer (some ⟨xb, 0, none⟩), t17, .pointer (some ⟨yb, 0, none⟩), .pointer (some ⟨yb, 0, none⟩), .pointer (some ⟨yb, 0, none⟩), t21, t22], defers := [] } ∧ QuoI w b xb yb p q r s (L 1) (L 6) (L 7) (L 8) (L 10) (L 14) (L 15) (L 16) t6 t8 t13 t14 t15 t17 t21 t22 pa pb w') [1, 6, 7, 8, 10, 14, 15, 16] (by kernel_rfl) (by kernel_rfl) (by decide) ?_ ?_ ?_
  · intro L hL
    have n : ∀ i, i ∈ [1, 6, 7, 8, 10, 14, 15, 16] → L i → False := hL
    refine ⟨.pointer none, undef, undef, undef, undef, undef, undef, undef, 0, 0, rfl, ?_⟩
    have n1 := n 1 (by simp)
    have n6 := n 6 (by simp)
    have n7 := n 7 (by simp)
    have n8 := n 8 (by simp)
    have n10 := n 10 (by simp)
    have n14 := n 14 (by simp)
    have n15 := n 15 (by simp)
    have n16 := n 16 (by simp)
    exact ⟨fun h => (n7 h).elim, fun h => (n10 h).elim, fun h => (n14 h).elim, fun h => (n15 h).elim, fun h => (n16 h).elim, fun h => (n6 h).elim, fun h => (n10 h).elim, fun h => (n1 h).elim, fun h => (n8 h).elim, fun h => (n1 h).elim, fun _ => (Below.refl _ w).drew, fun h => (n1 h).elim, fun h => (n8 h).elim, fun h => (n7 h).elim, fun h => (n14 h).elim, fun h => (n15 h).elim, fun h => (n16 h).elim⟩
  · rintro i L a w' hi hn hd ⟨t6, t8, t13, t14, t15, t17, t21, t22, pa, pb, rfl, H⟩
    simp only [List.mem_cons, List.not_mem_nil, or_false] at hi
    have HH : Hid (QuoI w b xb yb p q r s (L 1) (L 6) (L 7) (L 8) (L 10) (L 14) (L 15) (L 16) t6 t8 t13 t14 t15 t17 t21 t22 pa pb w') := H
    clear H
    rcases hi with rfl | rfl | rfl | rfl | rfl | rfl | rfl | rfl
    · clear hd
      refine wpOp_step rfl (fun K hK => ?_)
      go_simp
      refine hK _ _ ⟨t6, _, t13, t14, t15, t17, t21, t22, w'.heap.size, pb, rfl, ?_⟩
      simp only [Nat.reduceEqDiff, false_or, true_or]
      have H := HH.out
      have n7 : ¬ L 7 := fun h => hn (H.c7 h).1
      have n10 : ¬ L 10 := fun h => n7 (H.c10 h)
      have n14 : ¬ L 14 := fun h => n10 (H.c14 h).2
      have n15 : ¬ L 15 := fun h => n14 (H.c15 h)
      have hb := alloc_below w' #[.bool false, .slice none 0 0] 102
      exact ⟨fun h => (n7 h).elim, H.c10, H.c14, H.c15, H.c16, H.f6, H.f10, fun _ => ⟨rfl, (H.bel n15).size, by simp⟩, fun h => ⟨(H.f8 h).1, (H.f8 h).2.1, Nat.lt_of_lt_of_le (H.f8 h).2.2 hb.size⟩, fun _ h => Nat.ne_of_gt (H.f8 h).2.2, fun h => (H.bel h).trans (hb.mono (H.bel h).size), fun _ _ => slot_new w', fun h h' => (H.s8 h h').below hb, fun h => (n7 h).elim, fun h => (n14 h).elim, fun h => (n15 h).elim, H.i16⟩
    · clear hd
      have n15 : ¬ L 15 := fun h => hn (HH.out.c7 (HH.out.c10 (HH.out.c14 (HH.out.c15 h)).2)).2
      have HR : Hid (RatAt w' yb r s ∧ s ≠ 0) := ⟨HY.out.below (HH.out.bel n15), by have := HL.out; omega⟩
      refine wpOp_step rfl (fun K hK => ?_)
      go_simp
      refine (den_any yb r s _ HR.out.1 HR.out.2).mono ?_
      rintro e w1 ⟨rfl, rfl⟩
      refine hK _ _ ⟨t6, t8, _, t14, t15, t17, t21, t22, pa, pb, rfl, ?_⟩
      simp only [Nat.reduceEqDiff, false_or, true_or]
      have H := HH.out
      exact ⟨fun h => ⟨(H.c7 h).1, trivial⟩, H.c10, H.c14, H.c15, H.c16, fun _ => rfl, H.f10, H.f1, H.f8, H.ne, H.bel, H.s1, H.s8, H.i7, H.i14, H.i15, H.i16⟩
    · have hd := hd _ rfl
      simp [Region.binds] at hd
      have l1 : L 1 := hd.1
      have l6 : L 6 := hd.2.2
      clear hd
      have n10 : ¬ L 10 := fun h => hn (HH.out.c10 h)
      have n14 : ¬ L 14 := fun h => n10 (HH.out.c14 h).2
      have n15 : ¬ L 15 := fun h => n14 (HH.out.c15 h)
      obtain ⟨e1, g1, g2⟩ := HH.out.f1 l1
      have e2 := HH.out.f6 l6
      subst e1 e2
      have HB := HH.out.bel n15
      have HR : Hid (Slot w' pa 0 ∧ IntAt w' xb 0 p ∧ IntAt w' yb 2 s ∧ xb ≠ pa ∧ yb ≠ pa ∧ w.heap.size ≤ pa ∧ Below w.heap.size w w') := ⟨HH.out.s1 l1 hn, HX.out.num.below HB, HY.out.den.below HB, by have := lt_of_int HX.out.num; omega, by have := lt_of_int HY.out.num; omega, g1, HB⟩
      have HK : Hid (L 1 ∧ ¬ L 10 ∧ ¬ L 14 ∧ ¬ L 15 ∧ L 6) := ⟨l1, n10, n14, n15, l6⟩
      clear l1 l6 n10 n14 n15 g1 g2 HB
      refine wpOp_step rfl (fun K hK => ?_)
      go_simp
      refine (imul_any pa 0 xb 0 yb 2 p s _ HR.out.1 HR.out.2.1 HR.out.2.2.1 LP.out.1 LP.out.2.2.2 HR.out.2.2.2.1 HR.out.2.2.2.2.1).mono ?_
      rintro e w1 ⟨rfl, hi, hs, hu⟩
      refine hK _ _ ⟨t6, _, _, _, t15, t17, t21, t22, pa, pb, rfl, ?_⟩
      simp only [Nat.reduceEqDiff, false_or, true_or]
      have H := HH.out
      obtain ⟨l1, n10, n14, n15, l6⟩ := HK.out
      have hb1 : Below w.heap.size w w1 := HR.out.2.2.2.2.2.2.trans (hu.below HR.out.2.2.2.2.2.1 HR.out.2.2.2.2.2.2.size)
      exact ⟨fun _ => ⟨l1, l6⟩, fun h => (n10 h).elim, H.c14, H.c15, H.c16, H.f6, H.f10, fun h => ⟨(H.f1 h).1, (H.f1 h).2.1, Nat.lt_of_lt_of_le (H.f1 h).2.2 hu.size⟩, fun h => ⟨(H.f8 h).1, (H.f8 h).2.1, Nat.lt_of_lt_of_le (H.f8 h).2.2 hu.size⟩, H.ne, fun _ => hb1, fun _ h => (h trivial).elim, fun h h' => (H.s8 h h').upd hu (Or.inl (Ne.symm (H.ne l1 h))), fun _ => ⟨rfl, fun _ => hi⟩, fun h => (n14 h).elim, fun h => (n15 h).elim, H.i16⟩
    · clear hd
      refine wpOp_step rfl (fun K hK => ?_)
      go_simp
      refine hK _ _ ⟨t6, t8, t13, t14, _, t17, t21, t22, pa, w'.heap.size, rfl, ?_⟩
      simp only [Nat.reduceEqDiff, false_or, true_or]
      have H := HH.out
      have n14 : ¬ L 14 := fun h => hn (H.c14 h).1
      have n15 : ¬ L 15 := fun h => n14 (H.c15 h)
      have hb := alloc_below w' #[.bool false, .slice none 0 0] 102
      exact ⟨H.c7, H.c10, fun h => (n14 h).elim, H.c15, H.c16, H.f6, H.f10, fun h => ⟨(H.f1 h).1, (H.f1 h).2.1, Nat.lt_of_lt_of_le (H.f1 h).2.2 hb.size⟩, fun _ => ⟨rfl, (H.bel n15).size, by simp⟩, fun h _ => Nat.ne_of_lt (H.f1 h).2.2, fun h => (H.bel h).trans (hb.mono (H.bel h).size), fun h h' => (H.s1 h h').below hb, fun _ _ => slot_new w', fun h => ⟨(H.i7 h).1, fun h' => ((H.i7 h).2 h').below hb⟩, fun h => (n14 h).elim, fun h => (n15 h).elim, H.i16⟩
    · have hd := hd _ rfl
      simp [Region.binds] at hd
      have l7 : L 7 := hd.2
      clear hd
      have n15 : ¬ L 15 := fun h => hn (HH.out.c14 (HH.out.c15 h)).2
      have HR : Hid (RatAt w' xb p q ∧ q ≠ 0 ∧ L 7) := ⟨HX.out.below (HH.out.bel n15), by have := HL.out; omega, l7⟩
      clear l7
      refine wpOp_step rfl (fun K hK => ?_)
      go_simp
      refine (den_any xb p q _ HR.out.1 HR.out.2.1).mono ?_
      rintro e w1 ⟨rfl, rfl⟩
      refine hK _ _ ⟨t6, t8, t13, t14, t15, _, t21, t22, pa, pb, rfl, ?_⟩
      simp only [Nat.reduceEqDiff, false_or, true_or]
      have H := HH.out
      exact ⟨H.c7, fun _ => HR.out.2.2, fun h => ⟨(H.c14 h).1, trivial⟩, H.c15, H.c16, H.f6, fun _ => rfl, H.f1, H.f8, H.ne, H.bel, H.s1, H.s8, H.i7, H.i14, H.i15, H.i16⟩
    · have hd := hd _ rfl
      simp [Region.binds] at hd
      have l8 : L 8 := hd.1
      have l10 : L 10 := hd.2.1
      clear hd
      have l7 : L 7 := HH.out.c10 l10
      have l1 : L 1 := (HH.out.c7 l7).1
      have n15 : ¬ L 15 := fun h => hn (HH.out.c15 h)
      obtain ⟨e1, g1, g2⟩ := HH.out.f8 l8
      have e2 := HH.out.f10 l10
      subst e1 e2
      have HB := HH.out.bel n15
      have HR : Hid (Slot w' pb 0 ∧ IntAt w' xb 2 q ∧ IntAt w' yb 0 r ∧ xb ≠ pb ∧ yb ≠ pb ∧ w.heap.size ≤ pb ∧ Below w.heap.size w w') := ⟨HH.out.s8 l8 hn, HX.out.den.below HB, HY.out.num.below HB, by have := lt_of_int HX.out.num; omega, by have := lt_of_int HY.out.num; omega, g1, HB⟩
      have HK : Hid (L 8 ∧ L 10 ∧ L 1 ∧ ¬ L 15) := ⟨l8, l10, l1, n15⟩
      clear l1 l7 l8 l10 n15 g1 g2 HB
      refine wpOp_step rfl (fun K hK => ?_)
      go_simp
      refine (imul_any pb 0 xb 2 yb 0 q r _ HR.out.1 HR.out.2.1 HR.out.2.2.1 LP.out.2.1 LP.out.2.2.1 HR.out.2.2.2.1 HR.out.2.2.2.2.1).mono ?_
      rintro e w1 ⟨rfl, hi, hs, hu⟩
      refine hK _ _ ⟨t6, t8, t13, t14, _, _, _, t22, pa, pb, rfl, ?_⟩
      simp only [Nat.reduceEqDiff, false_or, true_or]
      have H := HH.out
      obtain ⟨l8, l10, l1, n15⟩ := HK.out
      have hb1 : Below w.heap.size w w1 := HR.out.2.2.2.2.2.2.trans (hu.below HR.out.2.2.2.2.2.1 HR.out.2.2.2.2.2.2.size)
      exact ⟨H.c7, H.c10, fun _ => ⟨l8, l10⟩, fun _ => trivial, H.c16, H.f6, H.f10, fun h => ⟨(H.f1 h).1, (H.f1 h).2.1, Nat.lt_of_lt_of_le (H.f1 h).2.2 hu.size⟩, fun h => ⟨(H.f8 h).1, (H.f8 h).2.1, Nat.lt_of_lt_of_le (H.f8 h).2.2 hu.size⟩, H.ne, fun _ => hb1, fun h h' => (H.s1 h h').upd hu (Or.inl (H.ne l1 l8)), fun _ h => (h trivial).elim, fun h => ⟨(H.i7 h).1, fun h' => ((H.i7 h).2 h').upd HR.out.1 hu (Or.inl (H.ne l1 l8))⟩, fun _ => ⟨rfl, fun _ => hi⟩, fun h => (n15 h).elim, H.i16⟩
    · have hd := hd _ rfl
      simp [Region.binds] at hd
      have l7 : L 7 := hd.2.1
      have l14 : L 14 := hd.2.2
      clear hd
      obtain ⟨e1, g1⟩ := HH.out.i7 l7
      obtain ⟨e2, g2⟩ := HH.out.i14 l14
      subst e1 e2
      have HB := HH.out.bel hn
      have HR : Hid (Slot w' b 0 ∧ Slot w' b 2 ∧ IntAt w' pa 0 (p * s) ∧ IntAt w' pb 0 (q * r) ∧ Below w.heap.size w w' ∧ L 14) := ⟨HS.out.1.below HB, HS.out.2.below HB, g1 hn, g2 hn, HB, l14⟩
      clear l7 l14 g1 g2 HB
      refine wpOp_step rfl (fun K hK => ?_)
      go_simp
      refine (setFrac_any b pa 0 pb 0 (p * s) (q * r) _ HR.out.1 HR.out.2.1 HR.out.2.2.1 HR.out.2.2.2.1 HL.out.2.2.2.2.2 HL.out.2.2.2.1 HL.out.2.2.2.2.1).mono ?_
      rintro e w1 ⟨rfl, hrat, hu⟩
      refine hK _ _ ⟨t6, t8, t13, _, t15, t17, _, _, pa, pb, rfl, ?_⟩
      simp only [Nat.reduceEqDiff, false_or, true_or]
      have H := HH.out
      have l14 := HR.out.2.2.2.2.2
      have l7 := H.c10 (H.c14 l14).2
      exact ⟨H.c7, H.c10, H.c14, fun _ => l14, fun _ => trivial, H.f6, H.f10, fun h => ⟨(H.f1 h).1, (H.f1 h).2.1, Nat.lt_of_lt_of_le (H.f1 h).2.2 hu.size⟩, fun h => ⟨(H.f8 h).1, (H.f8 h).2.1, Nat.lt_of_lt_of_le (H.f8 h).2.2 hu.size⟩, H.ne, fun h => (h trivial).elim, fun _ h => (h l7).elim, fun _ h => (h l14).elim, fun h => ⟨(H.i7 h).1, fun h' => (h' trivial).elim⟩, fun h => ⟨(H.i14 h).1, fun h' => (h' trivial).elim⟩, fun _ => ⟨rfl, hrat, (UpdR.of_below HR.out.2.2.2.2.1).trans hu⟩, H.i16⟩
    · have hd := hd _ rfl
      simp [Region.binds] at hd
      have l15 : L 15 := by exact hd.1
      clear hd
      have e1 := (HH.out.i15 l15).1
      subst e1
      have HR : Hid (L 15) := l15
      clear l15
      refine wpOp_step rfl (fun K hK => ?_)
      go_simp
      refine hK _ _ ⟨_, t8, t13, t14, t15, t17, t21, _, pa, pb, rfl, ?_⟩
      simp only [Nat.reduceEqDiff, false_or, true_or]
      have H := HH.out
      exact ⟨H.c7, H.c10, H.c14, H.c15, fun _ => HR.out, H.f6, H.f10, H.f1, H.f8, H.ne, H.bel, H.s1, H.s8, H.i7, H.i14, H.i15, fun _ => rfl⟩
  · rintro L a w' hL ⟨t6, t8, t13, t14, t15, t17, t21, t22, pa, pb, rfl, H⟩
    obtain ⟨_, h1, h2⟩ := H.i15 (hL 15 (by simp))
    have h3 := H.i16 (hL 16 (by simp))
    subst h3
    have HE : Hid (RatAt w' b (p * s / (gcdOf (p * s) (q * r) : Int)) (q * r / (gcdOf (p * s) (q * r) : Int)) ∧ UpdR b w w') := ⟨h1, h2⟩
    clear H h1 h2
    go_wp2
    go_ret
    exact ⟨rfl, HE.out.1, HE.out.2⟩
end Go.Proofs.YtnppmigncjakeaaGreatDoor
