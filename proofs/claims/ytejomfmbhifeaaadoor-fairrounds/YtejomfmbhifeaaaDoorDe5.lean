/-
  early: what a Delay's Take does. Conditions: the queue lies in memory, few packets; times within bounds.
-/
import Derived.Test.YtejomfmbhifeaaaDoorDe4
namespace Go.Proofs.YtejomfmbhifeaaaDoor
open Go.RowKit Go.Extern.Stop Go.Stop Go.Extern

theorem ot_six {w1 w2 : World} {r b : Nat} {t : TypeId} {p0 p1 p2 p3 p4 p5 a0 a1 a2 a3 a4 a5 : Value} (hz : w1.heap[r]? = some (.cells #[p0, p1, p2, p3, p4, p5] t (0, 0))) (hne : r ≠ b) (ho : Ot (· = b) ((((((w1.setCell ⟨r, 0, none⟩ a0).setCell ⟨r, 1, none⟩ a1).setCell ⟨r, 2, none⟩ a2).setCell ⟨r, 3, none⟩ a3).setCell ⟨r, 4, none⟩ a4).setCell ⟨r, 5, none⟩ a5) w2) : w2.heap[r]? = some (.cells #[a0, a1, a2, a3, a4, a5] t (0, 0)) := by
  have h := six_set hz a0 a1 a2 a3 a4 a5
  rw [ho.block r (lt_of_block h) hne]
  exact h
theorem ot_six_alloc {w1 w2 : World} {r b : Nat} {t : TypeId} {o : Obj} {p0 p1 p2 p3 p4 p5 a0 a1 a2 a3 a4 a5 : Value} (hz : w1.heap[r]? = some (.cells #[p0, p1, p2, p3, p4, p5] t (0, 0))) (hne : r ≠ b) (ho : Ot (· = b) (((((((w1.setCell ⟨r, 0, none⟩ a0).setCell ⟨r, 1, none⟩ a1).setCell ⟨r, 2, none⟩ a2).setCell ⟨r, 3, none⟩ a3).setCell ⟨r, 4, none⟩ a4).setCell ⟨r, 5, none⟩ a5).alloc o) w2) : w2.heap[r]? = some (.cells #[a0, a1, a2, a3, a4, a5] t (0, 0)) := by
  have h := six_set hz a0 a1 a2 a3 a4 a5
  have hl := lt_of_block h
  rw [ho.block r (by rw [World.alloc]; simp at hl ⊢; omega) hne, Below.heap_alloc _ _ _ hl]
  exact h
theorem ot_new {W w2 : World} {b n : Nat} {o : Obj} (ho : Ot (· = b) (W.alloc o) w2) (hn : n = W.heap.size) (hne : n ≠ b) : w2.heap[n]? = some o := by
  subst hn
  rw [ho.block _ (by simp) hne]
  exact new_block W o
set_option maxRecDepth 20000 in
set_option maxHeartbeats 1000000 in
theorem dtake_any {b : Nat} {P R T S : Int} {v : Value} {s : DlS} (now : Int) (w : World) (h : DAt w b P R T S v s) (hF : Fit s.L) (hS : 0 ≤ S) (hS1 : S ≤ 1000000) (hn0 : 0 ≤ now) (hn1 : now ≤ 1000000) (ha : ∀ x ∈ s.L, 0 ≤ x.a ∧ x.a ≤ 1000000) (hc0 : 0 ≤ s.count) (hc1 : s.count + s.L.length ≤ 900000) (hx0 : 0 ≤ s.next) (hx1 : s.next ≤ 10000000000) :
    Calls Tryd.prog 89 #[.pointer (some ⟨b, 0, none⟩), .int .i64 now] w fun e w' => ∃ u, e = .returned (.tuple #[(takeD T S s now).2.2.1.val, u, .bool (takeD T S s now).2.2.2]) ∧ Hs w' u (takeD T S s now).2.1 ∧ ∃ v', DAt w' b P R T S v' (takeD T S s now).1 ∧ v'.ownBlock = v.ownBlock ∧ (∀ k, u.ownBlock = some k → w.heap.size ≤ k) ∧ Ot (· = b) w w' := by
  have H : Hid (DAt w b P R T S v s) := h
  have hb := LAt.lt h
  have hV := Hd.val_eq
  have HVL : Hid (∀ k, v.ownBlock = some k → k < w.heap.size) := fun k hk => h.row.lt hk
  obtain ⟨p, hp⟩ : ∃ p, pullD T S s now = p := ⟨_, rfl⟩
  obtain ⟨s1, x1, ok1, bad1⟩ := p
  have HPU : Hid (∀ (W : World) (v' : Value), DAt W b P R T S v' s → Calls Tryd.prog 90 #[.pointer (some ⟨b, 0, none⟩), .int .i64 now] W fun e w' => e = .returned (.tuple #[x1.val, .bool ok1, .bool bad1]) ∧ ∃ v'', DAt w' b P R T S v'' s1 ∧ v''.ownBlock = v'.ownBlock ∧ Ot (· = b) W w') := by
    intro W v' hD
    have := pull_any now W hD hF hS hS1 hn0 hn1 ha
    rw [hp] at this
    exact this
  obtain ⟨p1, p2, p3, p4, p5, p6, p7⟩ := pullD_same hp
  have HTL : Hid (s1.L = s.L.tail) := p4
  have HSF : Hid (∀ z ∈ s1.L, z ∈ s.L) := fun z hz => List.mem_of_mem_tail (by rw [p4] at hz; exact hz)
  have hlen : s1.L.length ≤ s.L.length := by rw [p4, List.length_tail]; omega
  have HFA : Hid (Fit s1.L ∧ ∀ x ∈ s1.L, 0 ≤ x.a ∧ x.a ≤ 1000000) := ⟨⟨by have := hF.1; omega, fun z hz => hF.2 z (HSF.out z hz)⟩, fun z hz => ha z (HSF.out z hz)⟩
  have hc : 0 ≤ s1.count ∧ s1.count + s1.L.length ≤ 900000 := by omega
  have hx : 0 ≤ s1.next ∧ s1.next ≤ 10000000000 := by omega
  clear h ha hF hc0 hc1 hx0 hx1 p1 p2 p3 p4 p5 p6 p7
  cases bad1 with
  | false =>
    have hT : takeD T S s now = ({ s1 with throws := false }, [], x1, ok1) := by simp [takeD, hp]
    rw [hT]
    clear hp hT
    go_enter Tryd.func89, Tryd.ntmps89
    go_wp2_with (go_at_call 90; refine (HPU.out _ _ (LAt.below H.out (below_alloc_ (Below.refl _ _) _))).mono ?_; rintro e w1 ⟨rfl, v1, hD1, hk1, ho1⟩; obtain ⟨hs1, hz⟩ := after_ot ho1 (by omega); obtain ⟨⟨z0, z1, z2, z3, z4, z5⟩, y0, y1, y2, y3, y4, y5⟩ := six hz; have hbs : b < w1.heap.size := Nat.lt_trans hb hs1; obtain ⟨⟨c5, c6, c7, c8, c9, c10, c11⟩, f7, f8, f9, f10, f11⟩ := hD1.cells; have HD1 : Hid (DAt w1 b P R T S v1 s1) := hD1; clear hD1; have HV1 : Hid (∀ k, v1.ownBlock = some k → k ≠ w.heap.size) := fun k hk e => by { have := HVL.out k (by rw [← hk1, hk]); omega }; have HO1 : Hid (Ot (· = b) w w1) := (Ot.of_below ((Below.refl _ _).alloc (Nat.le_refl _) _)).trans ho1)
    (try simp only [Exit.inBlock, Exit.then])
    refine bodyPost_ret (v := .tuple #[x1.val, .slice none 0 0, .bool ok1]) (ret_held2 rfl rfl (six_set (heap_other (by omega) (six_set hz _ _ _ _ _ _)) _ _ _ _ _ _) rfl rfl) rfl ⟨_, rfl, Hs.nil _, v1, LAt.six ((HD1.out.six (by omega) HV1.out _ _ _ _ _ _).rest 7 (.bool false) rfl) (by omega) HV1.out _ _ _ _ _ _, hk1, fun k hk => by simp [Value.ownBlock] at hk, ?_⟩
    have hO := HO1.out
    repeat' (first | with_reducible exact hO | with_reducible refine Ot.setCell ?_ (by simp) _)
  | true =>
    cases hth : s1.throws with
    | true =>
      obtain ⟨r, hr⟩ : ∃ r, goD T S now s1.L s1 x1 = r := ⟨_, rfl⟩
      obtain ⟨s2, l2, x2, ok2⟩ := r
      have hT : takeD T S s now = (s2, l2, x2, ok2) := by simp [takeD, hp, hth, hr]
      rw [hT]
      have HGO : Hid (∀ (W : World) (v' : Value), DAt W b P R T S v' s1 → Calls Tryd.prog 91 #[.pointer (some ⟨b, 0, none⟩), .int .i64 now, x1.val] W fun e w' => ∃ u, e = .returned (.tuple #[x2.val, u, .bool ok2]) ∧ Hs w' u l2 ∧ ∃ v'', DAt w' b P R T S v'' s2 ∧ v''.ownBlock = v'.ownBlock ∧ (∀ k, u.ownBlock = some k → W.heap.size ≤ k) ∧ Ot (· = b) W w') := by
        intro W v' hD
        have := goOn_any now x1 W hD HFA.out.1 hS hS1 hn0 hn1 HFA.out.2 hth hc.1 hc.2 hx.1 hx.2
        rw [hr] at this
        exact this
      clear hp hT hr
      go_enter Tryd.func89, Tryd.ntmps89
      go_wp2_with (first | (go_at_call 90; refine (HPU.out _ _ (LAt.below H.out (below_alloc_ (Below.refl _ _) _))).mono ?_; rintro e w1 ⟨rfl, v1, hD1, hk1, ho1⟩; obtain ⟨hs1, hz⟩ := after_ot ho1 (by omega); obtain ⟨⟨z0, z1, z2, z3, z4, z5⟩, y0, y1, y2, y3, y4, y5⟩ := six hz; have hbs : b < w1.heap.size := Nat.lt_trans hb hs1; obtain ⟨⟨c5, c6, c7, c8, c9, c10, c11⟩, f7, f8, f9, f10, f11⟩ := hD1.cells; have HD1 : Hid (DAt w1 b P R T S v1 s1) := hD1; clear hD1; have HV1 : Hid (∀ k, v1.ownBlock = some k → k ≠ w.heap.size) := fun k hk e => by { have := HVL.out k (by rw [← hk1, hk]); omega }; have HO1 : Hid (Ot (· = b) w w1) := (Ot.of_below ((Below.refl _ _).alloc (Nat.le_refl _) _)).trans ho1) | (go_at_call 91; refine (HGO.out _ _ (HD1.out.six (by omega) HV1.out _ _ _ _ _ _)).mono ?_; rintro e w2 ⟨u2, rfl, hs2, v2, hD2, hk2, hu2, ho2⟩; have hz2 := ot_six hz (by omega) ho2; obtain ⟨⟨z0', z1', z2', z3', z4', z5'⟩, y0', y1', y2', y3', y4', y5'⟩ := six hz2))
      (try simp only [Exit.inBlock, Exit.then])
      have hu2' : ∀ k, u2.ownBlock = some k → w.heap.size + 1 ≤ k := fun k hk => by have := hu2 k hk; simp at this; omega
      refine bodyPost_ret (v := .tuple #[x2.val, u2, .bool ok2]) (ret_held2 rfl rfl (six_set hz2 _ _ _ _ _ _) rfl rfl) rfl ⟨u2, rfl, Hs.six hs2 (fun k hk => by have := hu2' k hk; omega) _ _ _ _ _ _, v2, LAt.six hD2 (by omega) (fun k hk => HV1.out k (by rw [← hk2, hk])) _ _ _ _ _ _, hk2.trans hk1, fun k hk => by have := hu2' k hk; omega, ?_⟩
      have hO : Ot (· = b) w w2 := (show Ot (· = b) w _ from by have hO := HO1.out; repeat' (first | with_reducible exact hO | with_reducible refine Ot.setCell ?_ (by simp) _)).trans ho2
      repeat' (first | with_reducible exact hO | with_reducible refine Ot.setCell ?_ (by simp) _)
    | false =>
      obtain ⟨r, hr⟩ : ∃ r, pullD T S s1 now = r := ⟨_, rfl⟩
      obtain ⟨s2, x2, ok2, bad2⟩ := r
      have hT : takeD T S s now = (beginD S s2 now, [x1], x2, ok2) := by simp [takeD, hp, hth, hr]
      rw [hT]
      have HP2 : Hid (∀ (W : World) (v' : Value), DAt W b P R T S v' s1 → Calls Tryd.prog 90 #[.pointer (some ⟨b, 0, none⟩), .int .i64 now] W fun e w' => e = .returned (.tuple #[x2.val, .bool ok2, .bool bad2]) ∧ ∃ v'', DAt w' b P R T S v'' s2 ∧ v''.ownBlock = v'.ownBlock ∧ Ot (· = b) W w') := by
        intro W v' hD
        have := pull_any now W hD HFA.out.1 hS hS1 hn0 hn1 HFA.out.2
        rw [hr] at this
        exact this
      obtain ⟨p1, p2, p3, p4, p5, p6, p7⟩ := pullD_same hr
      have HBG : Hid (∀ (W : World) (v' : Value), DAt W b P R T S v' s2 → Calls Tryd.prog 92 #[.pointer (some ⟨b, 0, none⟩), .int .i64 now] W fun e w' => e = .returned (.tuple #[]) ∧ DAt w' b P R T S v' (beginD S s2 now) ∧ Ot (· = b) W w') := fun W v' hD => begin_any now W hD hS hS1 hn0 hn1 (by omega) (by omega) (by omega) (by omega)
      clear hp hT hr p1 p2 p3 p4 p5 p6 p7
      go_enter Tryd.func89, Tryd.ntmps89
      go_wp2_with (first | (go_at_call 90; refine (HP2.out _ _ (LAt.below (HD1.out.six (by omega) HV1.out _ _ _ _ _ _) (below_alloc_ (Below.refl _ _) _))).mono ?_; rintro e w3 ⟨rfl, v3, hD3, hk3, ho3⟩; have hz3 := ot_six_alloc hz (by omega) ho3; have hl3 := ot_new (n := w1.heap.size) ho3 (by simp) (by omega); obtain ⟨⟨z0', z1', z2', z3', z4', z5'⟩, y0', y1', y2', y3', y4', y5'⟩ := six hz3; have hbs3 : b < w3.heap.size := LAt.lt hD3; have hB3 := lt_of_block hz3; have HD3 : Hid (DAt w3 b P R T S v3 s2) := hD3; clear hD3; have HV3 : Hid (∀ k, v3.ownBlock = some k → k ≠ w.heap.size) := fun k hk => HV1.out k (by rw [← hk3, hk])) | (go_at_call 90; refine (HPU.out _ _ (LAt.below H.out (below_alloc_ (Below.refl _ _) _))).mono ?_; rintro e w1 ⟨rfl, v1, hD1, hk1, ho1⟩; obtain ⟨hs1, hz⟩ := after_ot ho1 (by omega); obtain ⟨⟨z0, z1, z2, z3, z4, z5⟩, y0, y1, y2, y3, y4, y5⟩ := six hz; have hbs : b < w1.heap.size := Nat.lt_trans hb hs1; obtain ⟨⟨c5, c6, c7, c8, c9, c10, c11⟩, f7, f8, f9, f10, f11⟩ := hD1.cells; have HD1 : Hid (DAt w1 b P R T S v1 s1) := hD1; clear hD1; have HV1 : Hid (∀ k, v1.ownBlock = some k → k ≠ w.heap.size) := fun k hk e => by { have := HVL.out k (by rw [← hk1, hk]); omega }; have HO1 : Hid (Ot (· = b) w w1) := (Ot.of_below ((Below.refl _ _).alloc (Nat.le_refl _) _)).trans ho1) | (go_at_call 92; refine (HBG.out _ _ (HD3.out.six (by omega) HV3.out _ _ _ _ _ _)).mono ?_; rintro e w4 ⟨rfl, hD4, ho4⟩; have hz4 := ot_six hz3 (by omega) ho4; obtain ⟨⟨z0'', z1'', z2'', z3'', z4'', z5''⟩, y0'', y1'', y2'', y3'', y4'', y5''⟩ := six hz4; have hB4 := lt_of_block hz4))
      (try simp only [Exit.inBlock, Exit.then])
      have hs1' : w.heap.size < w1.heap.size := hs1
      have hl3' : Hs w3 (.slice (some ⟨w1.heap.size, 0, none⟩) 1 1) [x1] := Hs.one hl3
      have hl4 := Hs.six (r := w.heap.size) hl3' (fun k hk => by simp [Value.ownBlock] at hk; omega) (.int .i64 x2.a) (.int .i64 x2.l) (.int .i64 x2.f) (.int .i64 x2.b) (.int .i64 x2.m) (.int .i64 x2.n)
      have hl5 : Hs w4 (.slice (some ⟨w1.heap.size, 0, none⟩) 1 1) [x1] := Seg.oth (S := (· = b)) hl4 ho4 (fun k hk => by simp [Value.ownBlock] at hk; omega)
      refine bodyPost_ret (v := .tuple #[x2.val, .slice (some ⟨w1.heap.size, 0, none⟩) 1 1, .bool ok2]) (ret_held2 rfl rfl (six_set hz4 _ _ _ _ _ _) rfl rfl) rfl ⟨_, rfl, Hs.six hl5 (fun k hk => by simp [Value.ownBlock] at hk; omega) _ _ _ _ _ _, v3, LAt.six hD4 (by omega) HV3.out _ _ _ _ _ _, hk3.trans hk1, fun k hk => by simp [Value.ownBlock] at hk; omega, ?_⟩
      have hO3 : Ot (· = b) w w3 := (show Ot (· = b) w _ from by have hO := HO1.out; repeat' (first | with_reducible exact hO | with_reducible refine Ot.alloc ?_ _ | with_reducible refine Ot.setCell ?_ (by simp) _)).trans ho3
      have hO : Ot (· = b) w w4 := (show Ot (· = b) w _ from by repeat' (first | with_reducible exact hO3 | with_reducible refine Ot.setCell ?_ (by simp) _)).trans ho4
      repeat' (first | with_reducible exact hO | with_reducible refine Ot.setCell ?_ (by simp) _)
end Go.Proofs.YtejomfmbhifeaaaDoor
