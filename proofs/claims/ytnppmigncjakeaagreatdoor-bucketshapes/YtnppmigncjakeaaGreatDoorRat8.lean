/-
  millracebig: Sub and Add of whole numbers: what lies behind the call, and what stays. Conditions: numbers below 2^3200.
-/
import Derived.Test.YtnppmigncjakeaaGreatDoorRat10
import Derived.Test.YtnppmigncjakeaaGreatDoorOrd
namespace Go.Proofs.YtnppmigncjakeaaGreatDoor
open Go.RowKit Go.Deep

/-- What holds at every point of the drawing of Add and of Sub. -/
structure SumI (w : World) (b o : Nat) (z : Int) (xn yn : Bool) (xv yv : Value) (lx0 lx1 ly0 ly1 lk le0 le1 lg lr : Prop) (tx0 tx1 ty0 ty1 tk te0 te1 tg tr : Value) (s : Bool) (v : Value) (n : Nat) (w' : World) : Prop where
  ck : lk → lx0 ∧ lx1 ∧ ly0 ∧ ly1
  ce0 : le0 → lk
  ce1 : le1 → lk
  cg : lg → le0 ∧ le1
  cr : lr → lg
  fx0 : lx0 → tx0 = .bool xn
  fx1 : lx1 → tx1 = xv
  fy0 : ly0 → ty0 = .bool yn
  fy1 : ly1 → ty1 = yv
  same : ¬ lk → w' = w.drew
  fk : lk → tk = .tuple #[.bool s, v] ∧ sgn s n = z
  nk : lk → ¬ lg → NatAt w' v n ∧ Below w.heap.size w w'
  fe0 : le0 → te0 = .bool s
  fe1 : le1 → te1 = v
  fg : lg → tg = .pointer (some ⟨b, o, none⟩) ∧ IntAt w' b o z ∧ Slot w' b o ∧ Upd b o w w'
  fr : lr → tr = .pointer (some ⟨b, o, none⟩)

set_option maxHeartbeats 4000000 in
theorem isub_any (b o xb xo yb yo : Nat) (x y : Int) (w : World) (hs : Slot w b o) (hx : IntAt w xb xo x) (hy : IntAt w yb yo y) (lx : x.natAbs < 4294967296 ^ 100) (ly : y.natAbs < 4294967296 ^ 100) :
    Calls Tryz.prog 79 #[.pointer (some ⟨b, o, none⟩), .pointer (some ⟨xb, xo, none⟩), .pointer (some ⟨yb, yo, none⟩)] w fun e w' => e = .returned (.pointer (some ⟨b, o, none⟩)) ∧ IntAt w' b o (x - y) ∧ Slot w' b o ∧ Upd b o w w' := by
  have HS : Hid (Slot w b o) := hs
  have HL : Hid (x.natAbs < 4294967296 ^ 100 ∧ y.natAbs < 4294967296 ^ 100) := ⟨lx, ly⟩
  obtain ⟨c0, v, c1, hn⟩ := hx
  obtain ⟨x0, m, c, rfl, _, _⟩ := hn.form
  obtain ⟨d0, v', d1, hn'⟩ := hy
  obtain ⟨y0, m', c', rfl, _, _⟩ := hn'.form
  have HN : Hid (NatAt w (.slice x0 m c) x.natAbs ∧ NatAt w (.slice y0 m' c') y.natAbs) := ⟨hn, hn'⟩
  clear hn hn' hs lx ly
  go_enter Tryz.func79, Tryz.ntmps79
  go_wp2_with fail
  refine wp_region_any (by kernel_rfl) ?_
  change wpAny _ _ _ _ _ _ _ (World.drew _)
  refine wpAny_take (i := 0) (v := ?_) rfl (by kernel_rfl) (by kernel_rfl) (by kernel_rfl) (fun _ _ _ h => h) (Or.inl ⟨by rfl, ?_⟩) ?_
  rotate_left
  · intro w; go_simp; try with_reducible rfl
  simp only [Act.put, List.getElem_toArray, List.getElem_cons_zero, List.setIfInBounds_toArray, List.set_cons_zero, List.set_cons_succ]
  refine wpAny_take (i := 1) (v := ?_) rfl (by kernel_rfl) (by kernel_rfl) (by kernel_rfl) (fun _ _ _ h => h) (Or.inl ⟨by rfl, ?_⟩) ?_
  rotate_left
  · intro w; go_simp; try with_reducible rfl
  simp only [Act.put, List.getElem_toArray, List.getElem_cons_zero, List.getElem_cons_succ, List.setIfInBounds_toArray, List.set_cons_zero, List.set_cons_succ]
  refine wpAny_take (i := 2) (v := ?_) rfl (by kernel_rfl) (by kernel_rfl) (by kernel_rfl) (fun _ _ _ h => h) (Or.inl ⟨by rfl, ?_⟩) ?_
  rotate_left
  · intro w; go_simp; try with_reducible rfl
  simp only [Act.put, List.getElem_toArray, List.getElem_cons_zero, List.getElem_cons_succ, List.setIfInBounds_toArray, List.set_cons_zero, List.set_cons_succ]
  refine wpAny_take (i := 3) (v := ?_) rfl (by kernel_rfl) (by kernel_rfl) (by kernel_rfl) (fun _ _ _ h => h) (Or.inl ⟨by rfl, ?_⟩) ?_
  rotate_left
  · intro w; go_simp; try with_reducible rfl
  simp only [Act.put, List.getElem_toArray, List.getElem_cons_zero, List.getElem_cons_succ, List.setIfInBounds_toArray, List.set_cons_zero, List.set_cons_succ]
  refine wpAny_take (i := 5) (v := ?_) rfl (by kernel_rfl) (by kernel_rfl) (by kernel_rfl) (fun _ _ _ h => h) (Or.inl ⟨by rfl, ?_⟩) ?_
  rotate_left
  · intro w; go_simp; try with_reducible rfl
  simp only [Act.put, List.getElem_toArray, List.getElem_cons_zero, List.getElem_cons_succ, List.setIfInBounds_toArray, List.set_cons_zero, List.set_cons_succ]
  refine wpAny_take (i := 6) (v := ?_) rfl (by kernel_rfl) (by kernel_rfl) (by kernel_rfl) (fun _ _ _ h => h) (Or.inl ⟨by rfl, ?_⟩) ?_
  rotate_left
  · intro w; go_simp; try with_reducible rfl
  simp only [Act.put, List.getElem_toArray, List.getElem_cons_zero, List.getElem_cons_succ, List.setIfInBounds_toArray, List.set_cons_zero, List.set_cons_succ]
  refine wpAny_take (i := 7) (v := ?_) rfl (by kernel_rfl) (by kernel_rfl) (by kernel_rfl) (fun _ _ _ h => h) (Or.inl ⟨by rfl, ?_⟩) ?_
  rotate_left
  · intro w; go_simp; try with_reducible rfl
  simp only [Act.put, List.getElem_toArray, List.getElem_cons_zero, List.getElem_cons_succ, List.setIfInBounds_toArray, List.set_cons_zero, List.set_cons_succ]
  refine wpAny_take (i := 9) (v := ?_) rfl (by kernel_rfl) (by kernel_rfl) (by kernel_rfl) (fun _ _ _ h => h) (Or.inl ⟨by rfl, ?_⟩) ?_
  rotate_left
  · intro w; go_simp; try with_reducible rfl
  simp only [Act.put, List.getElem_toArray, List.getElem_cons_zero, List.getElem_cons_succ, List.setIfInBounds_toArray, List.set_cons_zero, List.set_cons_succ]
  refine wpAny_take (i := 10) (v := ?_) rfl (by kernel_rfl) (by kernel_rfl) (by kernel_rfl) (fun _ _ _ h => h) (Or.inl ⟨by rfl, ?_⟩) ?_
  rotate_left
  · intro w; go_simp; try with_reducible rfl
  simp only [Act.put, List.getElem_toArray, List.getElem_cons_zero, List.getElem_cons_succ, List.setIfInBounds_toArray, List.set_cons_zero, List.set_cons_succ]
  refine wpAny_take (i := 11) (v := ?_) rfl (by kernel_rfl) (by kernel_rfl) (by kernel_rfl) (fun _ _ _ h => h) (Or.inl ⟨by rfl, ?_⟩) ?_
  rotate_left
  · intro w; go_simp; try with_reducible rfl
  simp only [Act.put, List.getElem_toArray, List.getElem_cons_zero, List.getElem_cons_succ, List.setIfInBounds_toArray, List.set_cons_zero, List.set_cons_succ]
  refine wpAny_take (i := 14) (v := ?_) rfl (by kernel_rfl) (by kernel_rfl) (by kernel_rfl) (fun _ _ _ h => h) (Or.inl ⟨by rfl, ?_⟩) ?_
  rotate_left
  · intro w; go_simp; try with_reducible rfl
  simp only [Act.put, List.getElem_toArray, List.getElem_cons_zero, List.getElem_cons_succ, List.setIfInBounds_toArray, List.set_cons_zero, List.set_cons_succ]
  refine wpAny_take (i := 15) (v := ?_) rfl (by kernel_rfl) (by kernel_rfl) (by kernel_rfl) (fun _ _ _ h => h) (Or.inl ⟨by rfl, ?_⟩) ?_
  rotate_left
  · intro w; go_simp; try with_reducible rfl
  simp only [Act.put, List.getElem_toArray, List.getElem_cons_zero, List.getElem_cons_succ, List.setIfInBounds_toArray, List.set_cons_zero, List.set_cons_succ]
  refine wpAny_take (i := 16) (v := ?_) rfl (by kernel_rfl) (by kernel_rfl) (by kernel_rfl) (fun _ _ _ h => h) (Or.inl ⟨by rfl, ?_⟩) ?_
  rotate_left
  · intro w; go_simp; try with_reducible rfl
  simp only [Act.put, List.getElem_toArray, List.getElem_cons_zero, List.getElem_cons_succ, List.setIfInBounds_toArray, List.set_cons_zero, List.set_cons_succ]
  refine wpAny_by (fun L a w' => ∃ (tl tx0 tx1 ty0 ty1 tk te0 te1 tg tr : Value) (s : Bool) (v : Value) (n : Nat), a = { tmps := #[.pointer (some ⟨b, o, none⟩), .pointer (some ⟨xb, xo, none⟩), .pointer (some ⟨yb, yo, none⟩), undef, undef, undef, tr, .pointer (some ⟨b, o, none⟩), .pointer (some ⟨xb, xo, none⟩), .pointer (some ⟨xb, xo, none⟩), .pointer (some ⟨xb, xo, none⟩), tx0, .pointer (some ⟨xb, xo, none⟩), .pointer (some ⟨xb, xo, none⟩), .pointer (some ⟨xb, xo + 1, none⟩), tx1, .pointer (some ⟨yb, yo, none⟩), .pointer (some ⟨yb, yo, none⟩), .pointer (some ⟨yb, yo, none⟩), tl, ty0, .pointer (some ⟨yb, yo, none⟩), .pointer (some ⟨yb, yo, none⟩), .pointer (some ⟨yb, yo + 1, none⟩), ty1, tk, te0, te1, tg], defers := [] } ∧ ((L 12 → tl = .bool (decide (y < 0))) ∧ (L 13 → L 12)) ∧ SumI w b o (x - y) (decide (x < 0)) (!decide (y < 0)) (.slice x0 m c) (.slice y0 m' c') (L 4) (L 8) (L 13) (L 17) (L 18) (L 19) (L 20) (L 21) (L 22) tx0 tx1 ty0 ty1 tk te0 te1 tg tr s v n w') [4, 8, 12, 13, 17, 18, 19, 20, 21, 22] (by kernel_rfl) (by kernel_rfl) (by decide) ?_ ?_ ?_
  · intro L hL
    have n : ∀ i, i ∈ [4, 8, 12, 13, 17, 18, 19, 20, 21, 22] → L i → False := hL
    have n4 := n 4 (by simp)
    have n8 := n 8 (by simp)
    have n12 := n 12 (by simp)
    have n13 := n 13 (by simp)
    have n17 := n 17 (by simp)
    have n18 := n 18 (by simp)
    have n19 := n 19 (by simp)
    have n20 := n 20 (by simp)
    have n21 := n 21 (by simp)
    have n22 := n 22 (by simp)
    refine ⟨undef, undef, undef, undef, undef, undef, undef, undef, undef, .pointer none, false, undef, 0, rfl, ⟨fun h => (n12 h).elim, fun h => (n13 h).elim⟩, ?_⟩
    exact ⟨fun h => (n18 h).elim, fun h => (n19 h).elim, fun h => (n20 h).elim, fun h => (n21 h).elim, fun h => (n22 h).elim, fun h => (n4 h).elim, fun h => (n8 h).elim, fun h => (n13 h).elim, fun h => (n17 h).elim, fun _ => rfl, fun h => (n18 h).elim, fun h => (n18 h).elim, fun h => (n19 h).elim, fun h => (n20 h).elim, fun h => (n21 h).elim, fun h => (n22 h).elim⟩
  · rintro i L a w' hi hn hd ⟨tl, tx0, tx1, ty0, ty1, tk, te0, te1, tg, tr, s, v, n, rfl, hl, H⟩
    simp only [List.mem_cons, List.not_mem_nil, or_false] at hi
    have HH : Hid (SumI w b o (x - y) (decide (x < 0)) (!decide (y < 0)) (.slice x0 m c) (.slice y0 m' c') (L 4) (L 8) (L 13) (L 17) (L 18) (L 19) (L 20) (L 21) (L 22) tx0 tx1 ty0 ty1 tk te0 te1 tg tr s v n w') := H
    clear H
    have HT : Hid ((L 12 → tl = .bool (decide (y < 0))) ∧ (L 13 → L 12)) := hl
    clear hl
    rcases hi with rfl | rfl | rfl | rfl | rfl | rfl | rfl | rfl | rfl | rfl
    · clear hd
      have hw := HH.out.same (fun h => hn (HH.out.ck h).1)
      subst hw
      refine wpOp_step rfl (fun K hK => ?_)
      go_simp
      refine hK _ _ ⟨tl, _, tx1, ty0, ty1, tk, te0, te1, tg, tr, s, v, n, rfl, ?_⟩
      simp only [Nat.reduceEqDiff, false_or, true_or]
      have H := HH.out
      exact ⟨HT.out, ⟨fun h => ⟨trivial, (H.ck h).2⟩, H.ce0, H.ce1, H.cg, H.cr, fun _ => rfl, H.fx1, H.fy0, H.fy1, H.same, H.fk, H.nk, H.fe0, H.fe1, H.fg, H.fr⟩⟩
    · clear hd
      have hw := HH.out.same (fun h => hn (HH.out.ck h).2.1)
      subst hw
      refine wpOp_step rfl (fun K hK => ?_)
      go_simp
      refine hK _ _ ⟨tl, tx0, _, ty0, ty1, tk, te0, te1, tg, tr, s, v, n, rfl, ?_⟩
      simp only [Nat.reduceEqDiff, false_or, true_or]
      have H := HH.out
      exact ⟨HT.out, ⟨fun h => ⟨(H.ck h).1, trivial, (H.ck h).2.2⟩, H.ce0, H.ce1, H.cg, H.cr, H.fx0, fun _ => rfl, H.fy0, H.fy1, H.same, H.fk, H.nk, H.fe0, H.fe1, H.fg, H.fr⟩⟩
    · clear hd
      have hw := HH.out.same (fun h => hn (HT.out.2 (HH.out.ck h).2.2.1))
      subst hw
      refine wpOp_step rfl (fun K hK => ?_)
      go_simp
      refine hK _ _ ⟨_, tx0, tx1, ty0, ty1, tk, te0, te1, tg, tr, s, v, n, rfl, ?_⟩
      simp only [Nat.reduceEqDiff, false_or, true_or]
      have H := HH.out
      exact ⟨⟨fun _ => trivial, fun _ => trivial⟩, ⟨H.ck, H.ce0, H.ce1, H.cg, H.cr, H.fx0, H.fx1, H.fy0, H.fy1, H.same, H.fk, H.nk, H.fe0, H.fe1, H.fg, H.fr⟩⟩
    · have hd := hd _ rfl
      simp [Region.binds] at hd
      have e1 := HT.out.1 hd
      subst e1
      have HK : Hid (L 12) := hd
      clear hd
      refine wpOp_step rfl (fun K hK => ?_)
      go_simp
      refine hK _ _ ⟨_, tx0, tx1, _, ty1, tk, te0, te1, tg, tr, s, v, n, rfl, ?_⟩
      simp only [Nat.reduceEqDiff, false_or, true_or]
      have H := HH.out
      exact ⟨⟨fun _ => trivial, fun _ => HK.out⟩, ⟨fun h => ⟨(H.ck h).1, (H.ck h).2.1, trivial, (H.ck h).2.2.2⟩, H.ce0, H.ce1, H.cg, H.cr, H.fx0, H.fx1, fun _ => rfl, H.fy1, H.same, H.fk, H.nk, H.fe0, H.fe1, H.fg, H.fr⟩⟩
    · clear hd
      have hw := HH.out.same (fun h => hn (HH.out.ck h).2.2.2)
      subst hw
      refine wpOp_step rfl (fun K hK => ?_)
      go_simp
      refine hK _ _ ⟨tl, tx0, tx1, ty0, _, tk, te0, te1, tg, tr, s, v, n, rfl, ?_⟩
      simp only [Nat.reduceEqDiff, false_or, true_or]
      have H := HH.out
      exact ⟨HT.out, ⟨fun h => ⟨(H.ck h).1, (H.ck h).2.1, (H.ck h).2.2.1, trivial⟩, H.ce0, H.ce1, H.cg, H.cr, H.fx0, H.fx1, H.fy0, fun _ => rfl, H.same, H.fk, H.nk, H.fe0, H.fe1, H.fg, H.fr⟩⟩
    · have hd := hd _ rfl
      simp [Region.binds] at hd
      have HK : Hid (L 4 ∧ L 8 ∧ L 13 ∧ L 17) := hd
      have e1 := HH.out.fx0 hd.1
      have e2 := HH.out.fx1 hd.2.1
      have e3 := HH.out.fy0 hd.2.2.1
      have e4 := HH.out.fy1 hd.2.2.2
      have hw := HH.out.same hn
      subst e1 e2 e3 e4 hw
      clear hd
      refine wpOp_step rfl (fun K hK => ?_)
      go_simp
      refine (sum_any _ _ _ (by exact HN.out.1) (by exact HN.out.2) (by exact HL.out.1) (by exact HL.out.2)).mono ?_
      rintro e w1 ⟨s1, v1, k1, rfl, hv1, hk1, hb1⟩
      refine hK _ _ ⟨tl, _, _, _, _, _, te0, te1, tg, tr, s1, v1, k1, rfl, ?_⟩
      simp only [Nat.reduceEqDiff, false_or, true_or]
      have H := HH.out
      rw [sgn_abs, sgn_neg, ← Int.sub_eq_add_neg] at hk1
      have hb : Below w.heap.size w w1 := ((Below.refl _ w).drew).trans hb1
      have n1 : ∀ h : L 19, False := fun h => hn (H.ce0 h)
      have n2 : ∀ h : L 20, False := fun h => hn (H.ce1 h)
      have n3 : ∀ h : L 21, False := fun h => n1 (H.cg h).1
      exact ⟨HT.out, ⟨fun _ => HK.out, fun _ => trivial, fun _ => trivial, H.cg, H.cr, H.fx0, H.fx1, H.fy0, H.fy1, fun h => (h trivial).elim, fun _ => ⟨rfl, hk1⟩, fun _ _ => ⟨hv1, hb⟩, fun h => (n1 h).elim, fun h => (n2 h).elim, fun h => (n3 h).elim, H.fr⟩⟩
    · have hd := hd _ rfl
      simp [Region.binds] at hd
      have HK : Hid (L 18) := hd
      have e1 := (HH.out.fk hd).1
      subst e1
      clear hd
      refine wpOp_step rfl (fun K hK => ?_)
      go_simp
      refine hK _ _ ⟨tl, tx0, tx1, ty0, ty1, _, _, te1, tg, tr, s, v, n, rfl, ?_⟩
      simp only [Nat.reduceEqDiff, false_or, true_or]
      have H := HH.out
      exact ⟨HT.out, ⟨H.ck, fun _ => HK.out, H.ce1, fun h => ⟨trivial, (H.cg h).2⟩, H.cr, H.fx0, H.fx1, H.fy0, H.fy1, H.same, H.fk, H.nk, fun _ => rfl, H.fe1, H.fg, H.fr⟩⟩
    · have hd := hd _ rfl
      simp [Region.binds] at hd
      have HK : Hid (L 18) := hd
      have e1 := (HH.out.fk hd).1
      subst e1
      clear hd
      refine wpOp_step rfl (fun K hK => ?_)
      go_simp
      refine hK _ _ ⟨tl, tx0, tx1, ty0, ty1, _, te0, _, tg, tr, s, v, n, rfl, ?_⟩
      simp only [Nat.reduceEqDiff, false_or, true_or]
      have H := HH.out
      exact ⟨HT.out, ⟨H.ck, H.ce0, fun _ => HK.out, fun h => ⟨(H.cg h).1, trivial⟩, H.cr, H.fx0, H.fx1, H.fy0, H.fy1, H.same, H.fk, H.nk, H.fe0, fun _ => rfl, H.fg, H.fr⟩⟩
    · have hd := hd _ rfl
      simp [Region.binds] at hd
      have l1 : L 19 := hd.2.1
      have l2 : L 20 := hd.2.2.1
      have lk := HH.out.ce0 l1
      have e1 := HH.out.fe0 l1
      have e2 := HH.out.fe1 l2
      subst e1 e2
      have HK : Hid (L 19 ∧ L 20 ∧ L 18) := ⟨l1, l2, lk⟩
      have HB : Hid (NatAt w' te1 n ∧ Below w.heap.size w w') := HH.out.nk lk hn
      clear hd l1 l2 lk
      refine wpOp_step rfl (fun K hK => ?_)
      go_simp
      refine (give_any b o _ _ (by exact HS.out.below HB.out.2) (by exact HB.out.1)).mono ?_
      rintro e w2 ⟨rfl, hi2, hs2, hu2⟩
      refine hK _ _ ⟨tl, tx0, tx1, ty0, ty1, tk, _, _, _, tr, s, te1, n, rfl, ?_⟩
      simp only [Nat.reduceEqDiff, false_or, true_or]
      have H := HH.out
      have hz : IntAt w2 b o (sgn s n) := hi2
      rw [(H.fk HK.out.2.2).2] at hz
      exact ⟨HT.out, ⟨H.ck, H.ce0, H.ce1, fun _ => ⟨HK.out.1, HK.out.2.1⟩, fun _ => trivial, H.fx0, H.fx1, H.fy0, H.fy1, fun h => (h HK.out.2.2).elim, H.fk, fun _ h => (h trivial).elim, H.fe0, H.fe1, fun _ => ⟨rfl, hz, hs2, (Upd.of_below HB.out.2).trans hu2⟩, H.fr⟩⟩
    · have hd := hd _ rfl
      simp [Region.binds] at hd
      have lg : L 21 := by exact hd.1
      have HK : Hid (L 21) := lg
      have e1 := (HH.out.fg lg).1
      subst e1
      clear hd lg
      refine wpOp_step rfl (fun K hK => ?_)
      go_simp
      refine hK _ _ ⟨tl, tx0, tx1, ty0, ty1, tk, te0, te1, _, _, s, v, n, rfl, ?_⟩
      simp only [Nat.reduceEqDiff, false_or, true_or]
      have H := HH.out
      exact ⟨HT.out, ⟨H.ck, H.ce0, H.ce1, H.cg, fun _ => HK.out, H.fx0, H.fx1, H.fy0, H.fy1, H.same, H.fk, H.nk, H.fe0, H.fe1, H.fg, fun _ => rfl⟩⟩
  · rintro L a w' hL ⟨tl, tx0, tx1, ty0, ty1, tk, te0, te1, tg, tr, s, v, n, rfl, _, H⟩
    obtain ⟨_, h1, h2, h4⟩ := H.fg (hL 21 (by simp))
    have h3 := H.fr (hL 22 (by simp))
    subst h3
    have HE : Hid (IntAt w' b o (x - y) ∧ Slot w' b o ∧ Upd b o w w') := ⟨h1, h2, h4⟩
    clear H h1 h2 h4
    go_wp2
    go_ret
    exact ⟨rfl, HE.out⟩

set_option maxHeartbeats 4000000 in
theorem iadd_any (b o xb xo yb yo : Nat) (x y : Int) (w : World) (hs : Slot w b o) (hx : IntAt w xb xo x) (hy : IntAt w yb yo y) (lx : x.natAbs < 4294967296 ^ 100) (ly : y.natAbs < 4294967296 ^ 100) :
    Calls Tryz.prog 75 #[.pointer (some ⟨b, o, none⟩), .pointer (some ⟨xb, xo, none⟩), .pointer (some ⟨yb, yo, none⟩)] w fun e w' => e = .returned (.pointer (some ⟨b, o, none⟩)) ∧ IntAt w' b o (x + y) ∧ Slot w' b o ∧ Upd b o w w' := by
  have HS : Hid (Slot w b o) := hs
  have HL : Hid (x.natAbs < 4294967296 ^ 100 ∧ y.natAbs < 4294967296 ^ 100) := ⟨lx, ly⟩
  obtain ⟨c0, v, c1, hn⟩ := hx
  obtain ⟨x0, m, c, rfl, _, _⟩ := hn.form
  obtain ⟨d0, v', d1, hn'⟩ := hy
  obtain ⟨y0, m', c', rfl, _, _⟩ := hn'.form
  have HN : Hid (NatAt w (.slice x0 m c) x.natAbs ∧ NatAt w (.slice y0 m' c') y.natAbs) := ⟨hn, hn'⟩
  clear hn hn' hs lx ly
  go_enter Tryz.func75, Tryz.ntmps75
  go_wp2_with fail
  refine wp_region_any (by kernel_rfl) ?_
  change wpAny _ _ _ _ _ _ _ (World.drew _)
  refine wpAny_take (i := 0) (v := ?_) rfl (by kernel_rfl) (by kernel_rfl) (by kernel_rfl) (fun _ _ _ h => h) (Or.inl ⟨by rfl, ?_⟩) ?_
  rotate_left
  · intro w; go_simp; try with_reducible rfl
  simp only [Act.put, List.getElem_toArray, List.getElem_cons_zero, List.setIfInBounds_toArray, List.set_cons_zero, List.set_cons_succ]
  refine wpAny_take (i := 1) (v := ?_) rfl (by kernel_rfl) (by kernel_rfl) (by kernel_rfl) (fun _ _ _ h => h) (Or.inl ⟨by rfl, ?_⟩) ?_
  rotate_left
  · intro w; go_simp; try with_reducible rfl
  simp only [Act.put, List.getElem_toArray, List.getElem_cons_zero, List.getElem_cons_succ, List.setIfInBounds_toArray, List.set_cons_zero, List.set_cons_succ]
  refine wpAny_take (i := 2) (v := ?_) rfl (by kernel_rfl) (by kernel_rfl) (by kernel_rfl) (fun _ _ _ h => h) (Or.inl ⟨by rfl, ?_⟩) ?_
  rotate_left
  · intro w; go_simp; try with_reducible rfl
  simp only [Act.put, List.getElem_toArray, List.getElem_cons_zero, List.getElem_cons_succ, List.setIfInBounds_toArray, List.set_cons_zero, List.set_cons_succ]
  refine wpAny_take (i := 3) (v := ?_) rfl (by kernel_rfl) (by kernel_rfl) (by kernel_rfl) (fun _ _ _ h => h) (Or.inl ⟨by rfl, ?_⟩) ?_
  rotate_left
  · intro w; go_simp; try with_reducible rfl
  simp only [Act.put, List.getElem_toArray, List.getElem_cons_zero, List.getElem_cons_succ, List.setIfInBounds_toArray, List.set_cons_zero, List.set_cons_succ]
  refine wpAny_take (i := 5) (v := ?_) rfl (by kernel_rfl) (by kernel_rfl) (by kernel_rfl) (fun _ _ _ h => h) (Or.inl ⟨by rfl, ?_⟩) ?_
  rotate_left
  · intro w; go_simp; try with_reducible rfl
  simp only [Act.put, List.getElem_toArray, List.getElem_cons_zero, List.getElem_cons_succ, List.setIfInBounds_toArray, List.set_cons_zero, List.set_cons_succ]
  refine wpAny_take (i := 6) (v := ?_) rfl (by kernel_rfl) (by kernel_rfl) (by kernel_rfl) (fun _ _ _ h => h) (Or.inl ⟨by rfl, ?_⟩) ?_
  rotate_left
  · intro w; go_simp; try with_reducible rfl
  simp only [Act.put, List.getElem_toArray, List.getElem_cons_zero, List.getElem_cons_succ, List.setIfInBounds_toArray, List.set_cons_zero, List.set_cons_succ]
  refine wpAny_take (i := 7) (v := ?_) rfl (by kernel_rfl) (by kernel_rfl) (by kernel_rfl) (fun _ _ _ h => h) (Or.inl ⟨by rfl, ?_⟩) ?_
  rotate_left
  · intro w; go_simp; try with_reducible rfl
  simp only [Act.put, List.getElem_toArray, List.getElem_cons_zero, List.getElem_cons_succ, List.setIfInBounds_toArray, List.set_cons_zero, List.set_cons_succ]
  refine wpAny_take (i := 9) (v := ?_) rfl (by kernel_rfl) (by kernel_rfl) (by kernel_rfl) (fun _ _ _ h => h) (Or.inl ⟨by rfl, ?_⟩) ?_
  rotate_left
  · intro w; go_simp; try with_reducible rfl
  simp only [Act.put, List.getElem_toArray, List.getElem_cons_zero, List.getElem_cons_succ, List.setIfInBounds_toArray, List.set_cons_zero, List.set_cons_succ]
  refine wpAny_take (i := 10) (v := ?_) rfl (by kernel_rfl) (by kernel_rfl) (by kernel_rfl) (fun _ _ _ h => h) (Or.inl ⟨by rfl, ?_⟩) ?_
  rotate_left
  · intro w; go_simp; try with_reducible rfl
  simp only [Act.put, List.getElem_toArray, List.getElem_cons_zero, List.getElem_cons_succ, List.setIfInBounds_toArray, List.set_cons_zero, List.set_cons_succ]
  refine wpAny_take (i := 11) (v := ?_) rfl (by kernel_rfl) (by kernel_rfl) (by kernel_rfl) (fun _ _ _ h => h) (Or.inl ⟨by rfl, ?_⟩) ?_
  rotate_left
  · intro w; go_simp; try with_reducible rfl
  simp only [Act.put, List.getElem_toArray, List.getElem_cons_zero, List.getElem_cons_succ, List.setIfInBounds_toArray, List.set_cons_zero, List.set_cons_succ]
  refine wpAny_take (i := 13) (v := ?_) rfl (by kernel_rfl) (by kernel_rfl) (by kernel_rfl) (fun _ _ _ h => h) (Or.inl ⟨by rfl, ?_⟩) ?_
  rotate_left
  · intro w; go_simp; try with_reducible rfl
  simp only [Act.put, List.getElem_toArray, List.getElem_cons_zero, List.getElem_cons_succ, List.setIfInBounds_toArray, List.set_cons_zero, List.set_cons_succ]
  refine wpAny_take (i := 14) (v := ?_) rfl (by kernel_rfl) (by kernel_rfl) (by kernel_rfl) (fun _ _ _ h => h) (Or.inl ⟨by rfl, ?_⟩) ?_
  rotate_left
  · intro w; go_simp; try with_reducible rfl
  simp only [Act.put, List.getElem_toArray, List.getElem_cons_zero, List.getElem_cons_succ, List.setIfInBounds_toArray, List.set_cons_zero, List.set_cons_succ]
  refine wpAny_take (i := 15) (v := ?_) rfl (by kernel_rfl) (by kernel_rfl) (by kernel_rfl) (fun _ _ _ h => h) (Or.inl ⟨by rfl, ?_⟩) ?_
  rotate_left
  · intro w; go_simp; try with_reducible rfl
  simp only [Act.put, List.getElem_toArray, List.getElem_cons_zero, List.getElem_cons_succ, List.setIfInBounds_toArray, List.set_cons_zero, List.set_cons_succ]
  refine wpAny_by (fun L a w' => ∃ (tx0 tx1 ty0 ty1 tk te0 te1 tg tr : Value) (s : Bool) (v : Value) (n : Nat), a = { tmps := #[.pointer (some ⟨b, o, none⟩), .pointer (some ⟨xb, xo, none⟩), .pointer (some ⟨yb, yo, none⟩), undef, undef, undef, tr, .pointer (some ⟨b, o, none⟩), .pointer (some ⟨xb, xo, none⟩), .pointer (some ⟨xb, xo, none⟩), .pointer (some ⟨xb, xo, none⟩), tx0, .pointer (some ⟨xb, xo, none⟩), .pointer (some ⟨xb, xo, none⟩), .pointer (some ⟨xb, xo + 1, none⟩), tx1, .pointer (some ⟨yb, yo, none⟩), .pointer (some ⟨yb, yo, none⟩), .pointer (some ⟨yb, yo, none⟩), ty0, .pointer (some ⟨yb, yo, none⟩), .pointer (some ⟨yb, yo, none⟩), .pointer (some ⟨yb, yo + 1, none⟩), ty1, tk, te0, te1, tg], defers := [] } ∧ SumI w b o (x + y) (decide (x < 0)) (decide (y < 0)) (.slice x0 m c) (.slice y0 m' c') (L 4) (L 8) (L 12) (L 16) (L 17) (L 18) (L 19) (L 20) (L 21) tx0 tx1 ty0 ty1 tk te0 te1 tg tr s v n w') [4, 8, 12, 16, 17, 18, 19, 20, 21] (by kernel_rfl) (by kernel_rfl) (by decide) ?_ ?_ ?_
  · intro L hL
    have n : ∀ i, i ∈ [4, 8, 12, 16, 17, 18, 19, 20, 21] → L i → False := hL
    have n4 := n 4 (by simp)
    have n8 := n 8 (by simp)
    have n12 := n 12 (by simp)
    have n16 := n 16 (by simp)
    have n17 := n 17 (by simp)
    have n18 := n 18 (by simp)
    have n19 := n 19 (by simp)
    have n20 := n 20 (by simp)
    have n21 := n 21 (by simp)
    refine ⟨undef, undef, undef, undef, undef, undef, undef, undef, .pointer none, false, undef, 0, rfl, ?_⟩
    exact ⟨fun h => (n17 h).elim, fun h => (n18 h).elim, fun h => (n19 h).elim, fun h => (n20 h).elim, fun h => (n21 h).elim, fun h => (n4 h).elim, fun h => (n8 h).elim, fun h => (n12 h).elim, fun h => (n16 h).elim, fun _ => rfl, fun h => (n17 h).elim, fun h => (n17 h).elim, fun h => (n18 h).elim, fun h => (n19 h).elim, fun h => (n20 h).elim, fun h => (n21 h).elim⟩
  · rintro i L a w' hi hn hd ⟨tx0, tx1, ty0, ty1, tk, te0, te1, tg, tr, s, v, n, rfl, H⟩
    simp only [List.mem_cons, List.not_mem_nil, or_false] at hi
    have HH : Hid (SumI w b o (x + y) (decide (x < 0)) (decide (y < 0)) (.slice x0 m c) (.slice y0 m' c') (L 4) (L 8) (L 12) (L 16) (L 17) (L 18) (L 19) (L 20) (L 21) tx0 tx1 ty0 ty1 tk te0 te1 tg tr s v n w') := H
    clear H
    rcases hi with rfl | rfl | rfl | rfl | rfl | rfl | rfl | rfl | rfl
    · clear hd
      have hw := HH.out.same (fun h => hn (HH.out.ck h).1)
      subst hw
      refine wpOp_step rfl (fun K hK => ?_)
      go_simp
      refine hK _ _ ⟨_, tx1, ty0, ty1, tk, te0, te1, tg, tr, s, v, n, rfl, ?_⟩
      simp only [Nat.reduceEqDiff, false_or, true_or]
      have H := HH.out
      exact ⟨fun h => ⟨trivial, (H.ck h).2⟩, H.ce0, H.ce1, H.cg, H.cr, fun _ => rfl, H.fx1, H.fy0, H.fy1, H.same, H.fk, H.nk, H.fe0, H.fe1, H.fg, H.fr⟩
    · clear hd
      have hw := HH.out.same (fun h => hn (HH.out.ck h).2.1)
      subst hw
      refine wpOp_step rfl (fun K hK => ?_)
      go_simp
      refine hK _ _ ⟨tx0, _, ty0, ty1, tk, te0, te1, tg, tr, s, v, n, rfl, ?_⟩
      simp only [Nat.reduceEqDiff, false_or, true_or]
      have H := HH.out
      exact ⟨fun h => ⟨(H.ck h).1, trivial, (H.ck h).2.2⟩, H.ce0, H.ce1, H.cg, H.cr, H.fx0, fun _ => rfl, H.fy0, H.fy1, H.same, H.fk, H.nk, H.fe0, H.fe1, H.fg, H.fr⟩
    · clear hd
      have hw := HH.out.same (fun h => hn (HH.out.ck h).2.2.1)
      subst hw
      refine wpOp_step rfl (fun K hK => ?_)
      go_simp
      refine hK _ _ ⟨tx0, tx1, _, ty1, tk, te0, te1, tg, tr, s, v, n, rfl, ?_⟩
      simp only [Nat.reduceEqDiff, false_or, true_or]
      have H := HH.out
      exact ⟨fun h => ⟨(H.ck h).1, (H.ck h).2.1, trivial, (H.ck h).2.2.2⟩, H.ce0, H.ce1, H.cg, H.cr, H.fx0, H.fx1, fun _ => rfl, H.fy1, H.same, H.fk, H.nk, H.fe0, H.fe1, H.fg, H.fr⟩
    · clear hd
      have hw := HH.out.same (fun h => hn (HH.out.ck h).2.2.2)
      subst hw
      refine wpOp_step rfl (fun K hK => ?_)
      go_simp
      refine hK _ _ ⟨tx0, tx1, ty0, _, tk, te0, te1, tg, tr, s, v, n, rfl, ?_⟩
      simp only [Nat.reduceEqDiff, false_or, true_or]
      have H := HH.out
      exact ⟨fun h => ⟨(H.ck h).1, (H.ck h).2.1, (H.ck h).2.2.1, trivial⟩, H.ce0, H.ce1, H.cg, H.cr, H.fx0, H.fx1, H.fy0, fun _ => rfl, H.same, H.fk, H.nk, H.fe0, H.fe1, H.fg, H.fr⟩
    · have hd := hd _ rfl
      simp [Region.binds] at hd
      have HK : Hid (L 4 ∧ L 8 ∧ L 12 ∧ L 16) := hd
      have e1 := HH.out.fx0 hd.1
      have e2 := HH.out.fx1 hd.2.1
      have e3 := HH.out.fy0 hd.2.2.1
      have e4 := HH.out.fy1 hd.2.2.2
      have hw := HH.out.same hn
      subst e1 e2 e3 e4 hw
      clear hd
      refine wpOp_step rfl (fun K hK => ?_)
      go_simp
      refine (sum_any _ _ _ (by exact HN.out.1) (by exact HN.out.2) (by exact HL.out.1) (by exact HL.out.2)).mono ?_
      rintro e w1 ⟨s1, v1, k1, rfl, hv1, hk1, hb1⟩
      refine hK _ _ ⟨_, _, _, _, _, te0, te1, tg, tr, s1, v1, k1, rfl, ?_⟩
      simp only [Nat.reduceEqDiff, false_or, true_or]
      have H := HH.out
      rw [sgn_abs, sgn_abs] at hk1
      have hb : Below w.heap.size w w1 := ((Below.refl _ w).drew).trans hb1
      have n1 : ∀ h : L 18, False := fun h => hn (H.ce0 h)
      have n2 : ∀ h : L 19, False := fun h => hn (H.ce1 h)
      have n3 : ∀ h : L 20, False := fun h => n1 (H.cg h).1
      exact ⟨fun _ => HK.out, fun _ => trivial, fun _ => trivial, H.cg, H.cr, H.fx0, H.fx1, H.fy0, H.fy1, fun h => (h trivial).elim, fun _ => ⟨rfl, hk1⟩, fun _ _ => ⟨hv1, hb⟩, fun h => (n1 h).elim, fun h => (n2 h).elim, fun h => (n3 h).elim, H.fr⟩
    · have hd := hd _ rfl
      simp [Region.binds] at hd
      have HK : Hid (L 17) := hd
      have e1 := (HH.out.fk hd).1
      subst e1
      clear hd
      refine wpOp_step rfl (fun K hK => ?_)
      go_simp
      refine hK _ _ ⟨tx0, tx1, ty0, ty1, _, _, te1, tg, tr, s, v, n, rfl, ?_⟩
      simp only [Nat.reduceEqDiff, false_or, true_or]
      have H := HH.out
      exact ⟨H.ck, fun _ => HK.out, H.ce1, fun h => ⟨trivial, (H.cg h).2⟩, H.cr, H.fx0, H.fx1, H.fy0, H.fy1, H.same, H.fk, H.nk, fun _ => rfl, H.fe1, H.fg, H.fr⟩
    · have hd := hd _ rfl
      simp [Region.binds] at hd
      have HK : Hid (L 17) := hd
      have e1 := (HH.out.fk hd).1
      subst e1
      clear hd
      refine wpOp_step rfl (fun K hK => ?_)
      go_simp
      refine hK _ _ ⟨tx0, tx1, ty0, ty1, _, te0, _, tg, tr, s, v, n, rfl, ?_⟩
      simp only [Nat.reduceEqDiff, false_or, true_or]
      have H := HH.out
      exact ⟨H.ck, H.ce0, fun _ => HK.out, fun h => ⟨(H.cg h).1, trivial⟩, H.cr, H.fx0, H.fx1, H.fy0, H.fy1, H.same, H.fk, H.nk, H.fe0, fun _ => rfl, H.fg, H.fr⟩
    · have hd := hd _ rfl
      simp [Region.binds] at hd
      have l1 : L 18 := hd.2.1
      have l2 : L 19 := hd.2.2.1
      have lk := HH.out.ce0 l1
      have e1 := HH.out.fe0 l1
      have e2 := HH.out.fe1 l2
      subst e1 e2
      have HK : Hid (L 18 ∧ L 19 ∧ L 17) := ⟨l1, l2, lk⟩
      have HB : Hid (NatAt w' te1 n ∧ Below w.heap.size w w') := HH.out.nk lk hn
      clear hd l1 l2 lk
      refine wpOp_step rfl (fun K hK => ?_)
      go_simp
      refine (give_any b o _ _ (by exact HS.out.below HB.out.2) (by exact HB.out.1)).mono ?_
      rintro e w2 ⟨rfl, hi2, hs2, hu2⟩
      refine hK _ _ ⟨tx0, tx1, ty0, ty1, tk, _, _, _, tr, s, te1, n, rfl, ?_⟩
      simp only [Nat.reduceEqDiff, false_or, true_or]
      have H := HH.out
      have hz : IntAt w2 b o (sgn s n) := hi2
      rw [(H.fk HK.out.2.2).2] at hz
      exact ⟨H.ck, H.ce0, H.ce1, fun _ => ⟨HK.out.1, HK.out.2.1⟩, fun _ => trivial, H.fx0, H.fx1, H.fy0, H.fy1, fun h => (h HK.out.2.2).elim, H.fk, fun _ h => (h trivial).elim, H.fe0, H.fe1, fun _ => ⟨rfl, hz, hs2, (Upd.of_below HB.out.2).trans hu2⟩, H.fr⟩
    · have hd := hd _ rfl
      simp [Region.binds] at hd
      have lg : L 20 := by exact hd.1
      have HK : Hid (L 20) := lg
      have e1 := (HH.out.fg lg).1
      subst e1
      clear hd lg
      refine wpOp_step rfl (fun K hK => ?_)
      go_simp
      refine hK _ _ ⟨tx0, tx1, ty0, ty1, tk, te0, te1, _, _, s, v, n, rfl, ?_⟩
      simp only [Nat.reduceEqDiff, false_or, true_or]
      have H := HH.out
      exact ⟨H.ck, H.ce0, H.ce1, H.cg, fun _ => HK.out, H.fx0, H.fx1, H.fy0, H.fy1, H.same, H.fk, H.nk, H.fe0, H.fe1, H.fg, fun _ => rfl⟩
  · rintro L a w' hL ⟨tx0, tx1, ty0, ty1, tk, te0, te1, tg, tr, s, v, n, rfl, H⟩
    obtain ⟨_, h1, h2, h4⟩ := H.fg (hL 20 (by simp))
    have h3 := H.fr (hL 21 (by simp))
    subst h3
    have HE : Hid (IntAt w' b o (x + y) ∧ Slot w' b o ∧ Upd b o w w') := ⟨h1, h2, h4⟩
    clear H h1 h2 h4
    go_wp2
    go_ret
    exact ⟨rfl, HE.out⟩

end Go.Proofs.YtnppmigncjakeaaGreatDoor
