/-
  Program.step of Police: a bucket is asked, in a region that draws its order. Conditions: a program that may be, a packet that may be.
-/
import Derived.Test.YtnoppfgikanebaaDoorAc5
import Derived.Test.YtnoppfgikanebaaDoorOrd
namespace Go.Proofs.YtnoppfgikanebaaDoor
open Go.RowKit Go.Extern.Stop Go.Stop Go.Extern

/-- What holds at every point of the drawing in step, of Police. -/
structure PoI (W0 : World) (vb voff m vcap j s0 : Nat) (b : Bs) (sx : It) (tk : Bool) (l3 l5 l6 l7 l11 l15 l16 l17 l18 : Prop) (t64 t66 t67 t68 t72 t76 t77 t78 t9 : Value) (w' : World) : Prop where
  c6 : l6 → l3 ∧ l5
  c7 : l7 → l6
  c16 : l16 → l7 ∧ l11 ∧ l15
  c17 : l17 → l16
  c18 : l18 → l17
  f3 : l3 → t64 = .slice (some ⟨vb, voff, none⟩) m vcap
  f5 : l5 → t66 = .int .i64 j
  f6 : l6 → t67 = .pointer (some ⟨vb, voff + j, none⟩)
  f7 : l7 → t68 = .pointer (some ⟨s0, 0, none⟩)
  f11 : l11 → t72 = .int .i64 sx.a
  f15 : l15 → t76 = .int .i64 sx.l
  f16 : l16 → t77 = .bool tk
  f17 : l17 → t78 = .bool (!tk)
  f18 : l18 → t9 = .bool (!tk)
  w0 : ¬ l16 → w' = W0
  w1 : l16 → StAt w' s0 (takeB b sx.a sx.l).n (takeB b sx.a sx.l).t (takeB b sx.a sx.l).R (takeB b sx.a sx.l).lev (takeB b sx.a sx.l).lat ∧ Oth (· = s0) W0 w'
set_option maxRecDepth 100000 in
set_option maxHeartbeats 4000000 in
theorem step_9 {w : World} {H0 pb xb : Nat} {av bv : Value} {ps : List Nat} {LA : List Ac} {s : AS} {a : Ac} (h : PrAt w H0 pb av bv ps LA s.C s.B) (hx : ItAt w xb s.x) (hxo : s.x.ok = true) (hk : a.k = 9) (j : Nat) (hja : a.a = j) (hj : j < s.B.length) (hj8 : s.B.length ≤ 8) (hb0 : 0 ≤ a.b) : StepG w H0 pb xb av bv ps LA s a := by
  have hst : stepA a s = { s with i := if takeOk (s.B.getD j zeroB) s.x.a s.x.l = true then s.i + 1 else a.b.toNat, B := s.B.set j (takeB (s.B.getD j zeroB) s.x.a s.x.l) } := by simp [stepA, hk, hja]
  unfold StepG
  rw [hst]
  obtain ⟨si, sx, sC, sB⟩ := s
  obtain ⟨ak, aa, ab⟩ := a
  simp only at hk hja h hx hb0 hj hj8 hxo
  subst hk hja
  have hpb := h.lt
  have hxb := hx.lt
  have HP : Hid (PrAt w H0 pb av bv ps LA sC sB) := h
  have HX : Hid (ItAt w xb sx) := hx
  obtain ⟨x0, x1, x2, x3, x4⟩ := hx.cell
  obtain ⟨s0, vb, voff, vcap, hps, rfl, hvb, hcv, hst0, hok0⟩ := h.bucket hj
  have c1 := (h.cell (i := 1) rfl).1
  have HPS : Hid (ps[j]? = some s0) := hps
  obtain ⟨b, HBD⟩ : ∃ b, Hid (sB.getD j zeroB = b) := ⟨_, rfl⟩
  rw [HBD.out] at hst0 hok0 ⊢
  have HS0 : Hid (StAt w s0 b.n b.t b.R b.lev b.lat) := hst0
  have HOK : Hid b.ok := hok0
  have hx5 : (0 ≤ sx.l ∧ sx.l ≤ 10000) ∧ sx.a ≤ 1000000000 := by
    simp only [It.ok, Bool.and_eq_true, wth_iff] at hxo
    omega
  obtain ⟨⟨hl0, hl1⟩, ha1⟩ := hx5
  have HL : Hid ((0 ≤ sx.l ∧ sx.l ≤ 1000000) ∧ sx.a ≤ 1000000000) := ⟨⟨hl0, by omega⟩, ha1⟩
  have HB : Hid ((ab.toNat : Int) = ab) := Int.toNat_of_nonneg hb0
  clear h hx hst hst0 hok0 hps hxo
  simp only
  generalize sB.length = m at *
  obtain ⟨tk, HTK⟩ : ∃ tk, Hid (takeOk b sx.a sx.l = tk) := ⟨_, rfl⟩
  rw [HTK.out]
  obtain ⟨ni, HNI⟩ : ∃ ni, Hid ((if tk = true then si + 1 else ab.toNat) = ni) := ⟨_, rfl⟩
  rw [HNI.out]
  go_enter Tryd.func16, Tryd.ntmps16
  go_wp2_with fail
  refine wp_region_any (by kernel_rfl) ?_
  change wpAny _ _ _ _ _ _ _ (World.drew _)
  refine wpAny_take (i := 0) (v := ?_) rfl (by kernel_rfl) (by kernel_rfl) (by kernel_rfl) (fun _ _ _ h => h) (Or.inl ⟨by rfl, ?_⟩) ?_
  rotate_left
  · intro w; go_simp; try with_reducible rfl
  simp only [Act.put, List.getElem_toArray, List.getElem_cons_zero, List.setIfInBounds_toArray, List.set_cons_zero, List.set_cons_succ]
  refine wpAny_take (i := 1) (v := ?_) rfl (by kernel_rfl) (by kernel_rfl) (by kernel_rfl) (fun _ _ _ h => h) (Or.inl ⟨by rfl, ?_⟩) ?_
  rotate_left
  · intro w; go_simp; try with_reducible rfl
  simp only [Act.put, List.getElem_toArray, List.getElem_cons_zero, List.getElem_cons_succ, List.setIfInBounds_toArray, List.set_cons_zero, List.set_cons_succ]
  refine wpAny_take (i := 2) (v := ?_) rfl (by kernel_rfl) (by kernel_rfl) (by kernel_rfl) (fun _ _ _ h => h) (Or.inl ⟨by rfl, ?_⟩) ?_
  rotate_left
  · intro w; go_simp; try with_reducible rfl
  simp only [Act.put, List.getElem_toArray, List.getElem_cons_zero, List.getElem_cons_succ, List.setIfInBounds_toArray, List.set_cons_zero, List.set_cons_succ]
  refine wpAny_take (i := 4) (v := ?_) rfl (by kernel_rfl) (by kernel_rfl) (by kernel_rfl) (fun _ _ _ h => h) (Or.inl ⟨by rfl, ?_⟩) ?_
  rotate_left
  · intro w; go_simp; try with_reducible rfl
  simp only [Act.put, List.getElem_toArray, List.getElem_cons_zero, List.getElem_cons_succ, List.setIfInBounds_toArray, List.set_cons_zero, List.set_cons_succ]
  refine wpAny_take (i := 8) (v := ?_) rfl (by kernel_rfl) (by kernel_rfl) (by kernel_rfl) (fun _ _ _ h => h) (Or.inl ⟨by rfl, ?_⟩) ?_
  rotate_left
  · intro w; go_simp; try with_reducible rfl
  simp only [Act.put, List.getElem_toArray, List.getElem_cons_zero, List.getElem_cons_succ, List.setIfInBounds_toArray, List.set_cons_zero, List.set_cons_succ]
  refine wpAny_take (i := 9) (v := ?_) rfl (by kernel_rfl) (by kernel_rfl) (by kernel_rfl) (fun _ _ _ h => h) (Or.inl ⟨by rfl, ?_⟩) ?_
  rotate_left
  · intro w; go_simp; try with_reducible rfl
  simp only [Act.put, List.getElem_toArray, List.getElem_cons_zero, List.getElem_cons_succ, List.setIfInBounds_toArray, List.set_cons_zero, List.set_cons_succ]
  refine wpAny_take (i := 10) (v := ?_) rfl (by kernel_rfl) (by kernel_rfl) (by kernel_rfl) (fun _ _ _ h => h) (Or.inl ⟨by rfl, ?_⟩) ?_
  rotate_left
  · intro w; go_simp; try with_reducible rfl
  simp only [Act.put, List.getElem_toArray, List.getElem_cons_zero, List.getElem_cons_succ, List.setIfInBounds_toArray, List.set_cons_zero, List.set_cons_succ]
  refine wpAny_take (i := 12) (v := ?_) rfl (by kernel_rfl) (by kernel_rfl) (by kernel_rfl) (fun _ _ _ h => h) (Or.inl ⟨by rfl, ?_⟩) ?_
  rotate_left
  · intro w; go_simp; try with_reducible rfl
  simp only [Act.put, List.getElem_toArray, List.getElem_cons_zero, List.getElem_cons_succ, List.setIfInBounds_toArray, List.set_cons_zero, List.set_cons_succ]
  refine wpAny_take (i := 13) (v := ?_) rfl (by kernel_rfl) (by kernel_rfl) (by kernel_rfl) (fun _ _ _ h => h) (Or.inl ⟨by rfl, ?_⟩) ?_
  rotate_left
  · intro w; go_simp; try with_reducible rfl
  simp only [Act.put, List.getElem_toArray, List.getElem_cons_zero, List.getElem_cons_succ, List.setIfInBounds_toArray, List.set_cons_zero, List.set_cons_succ]
  refine wpAny_take (i := 14) (v := ?_) rfl (by kernel_rfl) (by kernel_rfl) (by kernel_rfl) (fun _ _ _ h => h) (Or.inl ⟨by rfl, ?_⟩) ?_
  rotate_left
  · intro w; go_simp; try with_reducible rfl
  simp only [Act.put, List.getElem_toArray, List.getElem_cons_zero, List.getElem_cons_succ, List.setIfInBounds_toArray, List.set_cons_zero, List.set_cons_succ]
  refine wpAny_by (fun L a w' => ∃ (t64 t66 t67 t68 t72 t76 t77 t78 t9 : Value), a = { tmps := #[.pointer (some ⟨pb, 0, none⟩), .agg #[.int .i64 9, .int .i64 j, .int .i64 ab], .pointer (some ⟨xb, 0, none⟩), .int .i64 ((si : Int) + 1), undef, .pointer (some ⟨w.heap.size, 0, none⟩), undef, undef, .int .i64 0, t9, .pointer (some ⟨w.heap.size, 0, none⟩), .int .i64 9, .bool false, .bool false, undef, undef, undef, undef, undef, .bool false, .bool false, undef, undef, undef, undef, undef, .bool false, .bool false, undef, undef, undef, undef, undef, .bool false, .bool false, undef, undef, undef, undef, undef, undef, undef, undef, undef, undef, undef, .bool false, .bool false, undef, undef, .bool false, .bool false, undef, undef, undef, undef, undef, undef, undef, .bool true, .bool true, .pointer (some ⟨pb, 0, none⟩), .pointer (some ⟨pb, 0, none⟩), .pointer (some ⟨pb, 1, none⟩), t64, .pointer (some ⟨w.heap.size, 1, none⟩), t66, t67, t68, .pointer (some ⟨xb, 0, none⟩), .pointer (some ⟨xb, 0, none⟩), .pointer (some ⟨xb, 0, none⟩), t72, .pointer (some ⟨xb, 0, none⟩), .pointer (some ⟨xb, 0, none⟩), .pointer (some ⟨xb, 1, none⟩), t76, t77, t78, undef, undef, undef, undef, undef, undef, undef, undef, undef, undef, undef, undef, undef], defers := [] } ∧ PoI ((w.alloc (.cells #[.int .i64 9, .int .i64 j, .int .i64 ab] 38)).drew) vb voff m vcap j s0 b sx tk (L 3) (L 5) (L 6) (L 7) (L 11) (L 15) (L 16) (L 17) (L 18) t64 t66 t67 t68 t72 t76 t77 t78 t9 w' ∧ (¬ L 18 → t9 = .bool false)) [3, 5, 6, 7, 11, 15, 16, 17, 18] (by kernel_rfl) (by kernel_rfl) (by decide) ?_ ?_ ?_
  · intro L hL
    have n : ∀ i, i ∈ [3, 5, 6, 7, 11, 15, 16, 17, 18] → L i → False := hL
    refine ⟨undef, undef, undef, undef, undef, undef, undef, undef, .bool false, rfl, ?_, fun _ => rfl⟩
    exact ⟨fun h => (n 6 (by simp) h).elim, fun h => (n 7 (by simp) h).elim, fun h => (n 16 (by simp) h).elim, fun h => (n 17 (by simp) h).elim, fun h => (n 18 (by simp) h).elim, fun h => (n 3 (by simp) h).elim, fun h => (n 5 (by simp) h).elim, fun h => (n 6 (by simp) h).elim, fun h => (n 7 (by simp) h).elim, fun h => (n 11 (by simp) h).elim, fun h => (n 15 (by simp) h).elim, fun h => (n 16 (by simp) h).elim, fun h => (n 17 (by simp) h).elim, fun h => (n 18 (by simp) h).elim, fun _ => rfl, fun h => (n 16 (by simp) h).elim⟩
  · rintro i L a w' hi hn hd ⟨t64, t66, t67, t68, t72, t76, t77, t78, t9, rfl, H, HZ⟩
    simp only [List.mem_cons, List.not_mem_nil, or_false] at hi
    have HH : Hid (PoI ((w.alloc (.cells #[.int .i64 9, .int .i64 j, .int .i64 ab] 38)).drew) vb voff m vcap j s0 b sx tk (L 3) (L 5) (L 6) (L 7) (L 11) (L 15) (L 16) (L 17) (L 18) t64 t66 t67 t68 t72 t76 t77 t78 t9 w') := H
    have HZ9 : Hid (¬ L 18 → t9 = .bool false) := HZ
    clear H HZ
    rcases hi with rfl | rfl | rfl | rfl | rfl | rfl | rfl | rfl | rfl
    · clear hd
      have H := HH.out
      have n6 : ¬ L 6 := fun h => hn (H.c6 h).1
      have n7 : ¬ L 7 := fun h => n6 (H.c7 h)
      have n16 : ¬ L 16 := fun h => n7 (H.c16 h).1
      have n17 : ¬ L 17 := fun h => n16 (H.c17 h)
      have n18 : ¬ L 18 := fun h => n17 (H.c18 h)
      have hw := H.w0 n16
      subst hw
      have HKn : Hid (¬ L 6 ∧ ¬ L 7 ∧ ¬ L 16 ∧ ¬ L 17 ∧ ¬ L 18) := ⟨n6, n7, n16, n17, n18⟩
      clear H n6 n7 n16 n17 n18
      refine wpOp_step rfl (fun K hK => ?_)
      go_simp
      refine hK _ _ ⟨.slice (some ⟨vb, voff, none⟩) m vcap, t66, t67, t68, t72, t76, t77, t78, t9, rfl, ?_, fun h => HZ9.out (fun h18 => h (Or.inr h18))⟩
      simp only [Nat.reduceEqDiff, false_or, true_or]
      have H := HH.out
      obtain ⟨n6, n7, n16, n17, n18⟩ := HKn.out
      exact ⟨fun h => (n6 h).elim, fun h => (n7 h).elim, fun h => (n16 h).elim, fun h => (n17 h).elim, fun h => (n18 h).elim, fun _ => rfl, H.f5, fun h => (n6 h).elim, fun h => (n7 h).elim, H.f11, H.f15, fun h => (n16 h).elim, fun h => (n17 h).elim, fun h => (n18 h).elim, H.w0, H.w1⟩
    · clear hd
      have H := HH.out
      have n6 : ¬ L 6 := fun h => hn (H.c6 h).2
      have n7 : ¬ L 7 := fun h => n6 (H.c7 h)
      have n16 : ¬ L 16 := fun h => n7 (H.c16 h).1
      have n17 : ¬ L 17 := fun h => n16 (H.c17 h)
      have n18 : ¬ L 18 := fun h => n17 (H.c18 h)
      have hw := H.w0 n16
      subst hw
      have HKn : Hid (¬ L 6 ∧ ¬ L 7 ∧ ¬ L 16 ∧ ¬ L 17 ∧ ¬ L 18) := ⟨n6, n7, n16, n17, n18⟩
      clear H n6 n7 n16 n17 n18
      refine wpOp_step rfl (fun K hK => ?_)
      go_simp
      refine hK _ _ ⟨t64, .int .i64 j, t67, t68, t72, t76, t77, t78, t9, rfl, ?_, fun h => HZ9.out (fun h18 => h (Or.inr h18))⟩
      simp only [Nat.reduceEqDiff, false_or, true_or]
      have H := HH.out
      obtain ⟨n6, n7, n16, n17, n18⟩ := HKn.out
      exact ⟨fun h => (n6 h).elim, fun h => (n7 h).elim, fun h => (n16 h).elim, fun h => (n17 h).elim, fun h => (n18 h).elim, H.f3, fun _ => rfl, fun h => (n6 h).elim, fun h => (n7 h).elim, H.f11, H.f15, fun h => (n16 h).elim, fun h => (n17 h).elim, fun h => (n18 h).elim, H.w0, H.w1⟩
    · have hd := hd _ rfl
      simp [Region.binds] at hd
      have l3 : L 3 := by first | exact hd | exact hd.1 | exact hd.2 | exact hd.2.1 | exact hd.2.2 | exact hd.2.2.1 | exact hd.2.2.2
      have l5 : L 5 := by first | exact hd | exact hd.1 | exact hd.2 | exact hd.2.1 | exact hd.2.2 | exact hd.2.2.1 | exact hd.2.2.2
      clear hd
      have H := HH.out
      have n7 : ¬ L 7 := fun h => hn (H.c7 h)
      have n16 : ¬ L 16 := fun h => n7 (H.c16 h).1
      have n17 : ¬ L 17 := fun h => n16 (H.c17 h)
      have n18 : ¬ L 18 := fun h => n17 (H.c18 h)
      have e3 := H.f3 l3
      subst e3
      have e5 := H.f5 l5
      subst e5
      have hw := H.w0 n16
      subst hw
      have HKn : Hid (¬ L 7 ∧ ¬ L 16 ∧ ¬ L 17 ∧ ¬ L 18 ∧ L 3 ∧ L 5) := ⟨n7, n16, n17, n18, l3, l5⟩
      clear H n7 n16 n17 n18 l3 l5
      refine wpOp_step rfl (fun K hK => ?_)
      go_simp
      refine hK _ _ ⟨_, _, .pointer (some ⟨vb, voff + j, none⟩), t68, t72, t76, t77, t78, t9, rfl, ?_, fun h => HZ9.out (fun h18 => h (Or.inr h18))⟩
      simp only [Nat.reduceEqDiff, false_or, true_or]
      have H := HH.out
      obtain ⟨n7, n16, n17, n18, l3, l5⟩ := HKn.out
      exact ⟨fun _ => ⟨l3, l5⟩, fun h => (n7 h).elim, fun h => (n16 h).elim, fun h => (n17 h).elim, fun h => (n18 h).elim, H.f3, H.f5, fun _ => rfl, fun h => (n7 h).elim, H.f11, H.f15, fun h => (n16 h).elim, fun h => (n17 h).elim, fun h => (n18 h).elim, H.w0, H.w1⟩
    · have hd := hd _ rfl
      simp [Region.binds] at hd
      have l6 : L 6 := by first | exact hd | exact hd.1 | exact hd.2 | exact hd.2.1 | exact hd.2.2 | exact hd.2.2.1 | exact hd.2.2.2
      clear hd
      have H := HH.out
      have n16 : ¬ L 16 := fun h => hn (H.c16 h).1
      have n17 : ¬ L 17 := fun h => n16 (H.c17 h)
      have n18 : ¬ L 18 := fun h => n17 (H.c18 h)
      have e6 := H.f6 l6
      subst e6
      have hw := H.w0 n16
      subst hw
      have HKn : Hid (¬ L 16 ∧ ¬ L 17 ∧ ¬ L 18 ∧ L 6) := ⟨n16, n17, n18, l6⟩
      clear H n16 n17 n18 l6
      refine wpOp_step rfl (fun K hK => ?_)
      go_simp
      refine hK _ _ ⟨t64, t66, _, .pointer (some ⟨s0, 0, none⟩), t72, t76, t77, t78, t9, rfl, ?_, fun h => HZ9.out (fun h18 => h (Or.inr h18))⟩
      simp only [Nat.reduceEqDiff, false_or, true_or]
      have H := HH.out
      obtain ⟨n16, n17, n18, l6⟩ := HKn.out
      exact ⟨H.c6, fun _ => l6, fun h => (n16 h).elim, fun h => (n17 h).elim, fun h => (n18 h).elim, H.f3, H.f5, H.f6, fun _ => rfl, H.f11, H.f15, fun h => (n16 h).elim, fun h => (n17 h).elim, fun h => (n18 h).elim, H.w0, H.w1⟩
    · clear hd
      have H := HH.out
      have n16 : ¬ L 16 := fun h => hn (H.c16 h).2.1
      have n17 : ¬ L 17 := fun h => n16 (H.c17 h)
      have n18 : ¬ L 18 := fun h => n17 (H.c18 h)
      have hw := H.w0 n16
      subst hw
      have HKn : Hid (¬ L 16 ∧ ¬ L 17 ∧ ¬ L 18) := ⟨n16, n17, n18⟩
      clear H n16 n17 n18
      refine wpOp_step rfl (fun K hK => ?_)
      go_simp
      refine hK _ _ ⟨t64, t66, t67, t68, .int .i64 sx.a, t76, t77, t78, t9, rfl, ?_, fun h => HZ9.out (fun h18 => h (Or.inr h18))⟩
      simp only [Nat.reduceEqDiff, false_or, true_or]
      have H := HH.out
      obtain ⟨n16, n17, n18⟩ := HKn.out
      exact ⟨H.c6, H.c7, fun h => (n16 h).elim, fun h => (n17 h).elim, fun h => (n18 h).elim, H.f3, H.f5, H.f6, H.f7, fun _ => rfl, H.f15, fun h => (n16 h).elim, fun h => (n17 h).elim, fun h => (n18 h).elim, H.w0, H.w1⟩
    · clear hd
      have H := HH.out
      have n16 : ¬ L 16 := fun h => hn (H.c16 h).2.2
      have n17 : ¬ L 17 := fun h => n16 (H.c17 h)
      have n18 : ¬ L 18 := fun h => n17 (H.c18 h)
      have hw := H.w0 n16
      subst hw
      have HKn : Hid (¬ L 16 ∧ ¬ L 17 ∧ ¬ L 18) := ⟨n16, n17, n18⟩
      clear H n16 n17 n18
      refine wpOp_step rfl (fun K hK => ?_)
      go_simp
      refine hK _ _ ⟨t64, t66, t67, t68, t72, .int .i64 sx.l, t77, t78, t9, rfl, ?_, fun h => HZ9.out (fun h18 => h (Or.inr h18))⟩
      simp only [Nat.reduceEqDiff, false_or, true_or]
      have H := HH.out
      obtain ⟨n16, n17, n18⟩ := HKn.out
      exact ⟨H.c6, H.c7, fun h => (n16 h).elim, fun h => (n17 h).elim, fun h => (n18 h).elim, H.f3, H.f5, H.f6, H.f7, H.f11, fun _ => rfl, fun h => (n16 h).elim, fun h => (n17 h).elim, fun h => (n18 h).elim, H.w0, H.w1⟩
    · have hd := hd _ rfl
      simp [Region.binds] at hd
      have l7 : L 7 := by first | exact hd | exact hd.1 | exact hd.2 | exact hd.2.1 | exact hd.2.2 | exact hd.2.2.1 | exact hd.2.2.2
      have l11 : L 11 := by first | exact hd | exact hd.1 | exact hd.2 | exact hd.2.1 | exact hd.2.2 | exact hd.2.2.1 | exact hd.2.2.2
      have l15 : L 15 := by first | exact hd | exact hd.1 | exact hd.2 | exact hd.2.1 | exact hd.2.2 | exact hd.2.2.1 | exact hd.2.2.2
      clear hd
      have H := HH.out
      have n17 : ¬ L 17 := fun h => hn (H.c17 h)
      have n18 : ¬ L 18 := fun h => n17 (H.c18 h)
      have e7 := H.f7 l7
      subst e7
      have e11 := H.f11 l11
      subst e11
      have e15 := H.f15 l15
      subst e15
      have hw := H.w0 hn
      subst hw
      have HKn : Hid (¬ L 17 ∧ ¬ L 18 ∧ L 7 ∧ L 11 ∧ L 15) := ⟨n17, n18, l7, l11, l15⟩
      clear H n17 n18 l7 l11 l15
      refine wpOp_step rfl (fun K hK => ?_)
      go_simp
      refine (take_yes _ _ _ (stg_drew (StG.alloc HS0.out _)) HOK.out.okb HOK.out.l0 HOK.out.l1 HOK.out.t0 HL.out.2 HL.out.1.1 HL.out.1.2).mono ?_
      rw [show drwB b.t (pas b.n b.t b.R b.lev b.lat sx.a) sx.l = tk from HTK.out]
      rintro e w1 ⟨rfl, hs1, ho1⟩
      refine hK _ _ ⟨t64, t66, t67, _, _, _, .bool tk, t78, t9, rfl, ?_, fun h => HZ9.out (fun h18 => h (Or.inr h18))⟩
      simp only [Nat.reduceEqDiff, false_or, true_or]
      have H := HH.out
      obtain ⟨n17, n18, l7, l11, l15⟩ := HKn.out
      exact ⟨H.c6, H.c7, fun _ => ⟨l7, l11, l15⟩, fun h => (n17 h).elim, fun h => (n18 h).elim, H.f3, H.f5, H.f6, H.f7, H.f11, H.f15, fun _ => rfl, fun h => (n17 h).elim, fun h => (n18 h).elim, fun h => (h trivial).elim, fun _ => ⟨hs1, ho1⟩⟩
    · have hd := hd _ rfl
      simp [Region.binds] at hd
      have l16 : L 16 := by first | exact hd | exact hd.1 | exact hd.2 | exact hd.2.1 | exact hd.2.2 | exact hd.2.2.1 | exact hd.2.2.2
      clear hd
      have H := HH.out
      have n18 : ¬ L 18 := fun h => hn (H.c18 h)
      have e16 := H.f16 l16
      subst e16
      have HKn : Hid (¬ L 18 ∧ L 16) := ⟨n18, l16⟩
      clear H n18 l16
      refine wpOp_step rfl (fun K hK => ?_)
      go_simp
      refine hK _ _ ⟨t64, t66, t67, t68, t72, t76, _, _, t9, rfl, ?_, fun h => HZ9.out (fun h18 => h (Or.inr h18))⟩
      simp only [Nat.reduceEqDiff, false_or, true_or]
      have H := HH.out
      obtain ⟨n18, l16⟩ := HKn.out
      exact ⟨H.c6, H.c7, H.c16, fun _ => l16, fun h => (n18 h).elim, H.f3, H.f5, H.f6, H.f7, H.f11, H.f15, H.f16, fun _ => by first | rfl | (cases tk <;> rfl), fun h => (n18 h).elim, H.w0, H.w1⟩
    · have hd := hd _ rfl
      simp [Region.binds] at hd
      have l17 : L 17 := by first | exact hd | exact hd.1 | exact hd.2 | exact hd.2.1 | exact hd.2.2 | exact hd.2.2.1 | exact hd.2.2.2
      clear hd
      have H := HH.out
      have e17 := H.f17 l17
      subst e17
      have HKn : Hid (L 17) := l17
      clear H l17
      refine wpOp_step rfl (fun K hK => ?_)
      go_simp
      refine hK _ _ ⟨t64, t66, t67, t68, t72, t76, t77, _, _, rfl, ?_, fun h => (h (Or.inl rfl)).elim⟩
      simp only [Nat.reduceEqDiff, false_or, true_or]
      have H := HH.out
      have l17 := HKn.out
      exact ⟨H.c6, H.c7, H.c16, H.c17, fun _ => l17, H.f3, H.f5, H.f6, H.f7, H.f11, H.f15, H.f16, H.f17, fun _ => by first | rfl | (cases tk <;> rfl), H.w0, H.w1⟩
  · rintro L a w' hL ⟨t64, t66, t67, t68, t72, t76, t77, t78, t9, rfl, H, _⟩
    have e9 := H.f18 (hL 18 (by simp))
    subst e9
    obtain ⟨hs1, ho1⟩ := H.w1 (hL 16 (by simp))
    have hsame := ho1.block w.heap.size (by show w.heap.size < (w.alloc _).heap.size; simp) (fun e => by have := HS0.out.lt; omega)
    have HE : Hid (PrAt w' H0 pb av (.slice (some ⟨vb, voff, none⟩) m vcap) ps LA sC (sB.set j (takeB b sx.a sx.l)) ∧ ItAt w' xb sx ∧ Ot (fun k => k = pb ∨ k ∈ ps ∨ k = xb) w w') := by
      refine ⟨PrAt.turn (PrAt.drew (HP.out.alloc _)) HPS.out (takeB_ok HOK.out _ _ HL.out.1.1) hs1 ho1, (HX.out.alloc _).kept (ho1.block xb (HX.out.alloc _).lt (noEqT HX.out HS0.out.2 (by decide))), ?_⟩
      refine ((ot_alloc _ _).drew).trans' (T := (· = s0)) ⟨ho1.os, ho1.tape, ho1.output, ho1.size, ho1.block⟩ (fun i hi _ => Or.inr (Or.inl ?_))
      subst hi
      exact List.mem_iff_getElem?.2 ⟨j, HPS.out⟩
    have b2 : w'.cell? ⟨w.heap.size, 2, none⟩ = some (.int .i64 ab) := by
      rw [World.cell?_of_block (w := ((w.alloc (.cells #[.int .i64 9, .int .i64 j, .int .i64 ab] 38)).drew)) hsame]
      show (w.alloc _).cell? _ = _
      simp
    clear hs1 ho1 H hL hsame
    cases tk with
    | true =>
      have HN2 : Hid (ni = si + 1) := HNI.out.symm
      go_wp2
      go_ret
      exact ⟨by simp only; rw [HN2.out]; go_num, HE.out.1, HE.out.2.1, HE.out.2.2⟩
    | false =>
      have HN2 : Hid (ni = ab.toNat) := HNI.out.symm
      go_wp2
      go_ret
      exact ⟨by simp only; rw [HN2.out, HB.out]; rfl, HE.out.1, HE.out.2.1, HE.out.2.2⟩
end Go.Proofs.YtnoppfgikanebaaDoor
