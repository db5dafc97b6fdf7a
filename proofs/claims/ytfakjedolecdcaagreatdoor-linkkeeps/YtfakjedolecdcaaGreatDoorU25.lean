/-
  early: what a Delay's Take does. Conditions: the queue lies in memory, few packets; times within bounds.
  early: a Delay is a queue as plain.Play and millracelaw.played ask it: its model; what Take parts the list into; NewDelay. Conditions: room, target and span within their bounds.
  early.NewDelay: an empty one in memory of its own, where room, target and span may be; else the error. No condition.
  A Delay neither loses nor makes a packet (out of Dg1). Mathematics alone.
-/
import Derived.Test.YtfakjedolecdcaaGreatDoorU24
import Derived.Test.YtfakjedolecdcaaGreatDoorU8
namespace Go.Proofs.YtfakjedolecdcaaGreatDoor
open Go.RowKit Go.Extern.Stop Go.Stop Go.Extern

theorem ot_six {w1 w2 : World} {r b : Nat} {t : TypeId} {p0 p1 p2 p3 p4 p5 a0 a1 a2 a3 a4 a5 : Value} (hz : w1.heap[r]? = some (.cells #[p0, p1, p2, p3, p4, p5] t (0, 0))) (hne : r ≠ b) (ho : Ot (· = b) ((((((w1.setCell ⟨r, 0, none⟩ a0).setCell ⟨r, 1, none⟩ a1).setCell ⟨r, 2, none⟩ a2).setCell ⟨r, 3, none⟩ a3).setCell ⟨r, 4, none⟩ a4).setCell ⟨r, 5, none⟩ a5) w2) : w2.heap[r]? = some (.cells #[a0, a1, a2, a3, a4, a5] t (0, 0)) := by
  have h := six_set hz a0 a1 a2 a3 a4 a5
  rw [ho.block r (lt_of_block h) hne]
  exact h
theorem ot_six_alloc {w1 w2 : World} {r b : Nat} {t : TypeId} {o : Obj} {p0 p1 p2 p3 p4 p5 a0 a1 a2 a3 a4 a5 : Value} (hz : w1.heap[r]? = some (.cells #[p0, p1, p2, p3, p4, p5] t (0, 0))) (hne : r ≠ b) (ho : Ot (· = b) (((((((w1.setCell ⟨r, 0, none⟩ a0).setCell ⟨r, 1, none⟩ a1).setCell ⟨r, 2, none⟩ a2).setCell ⟨r, 3, none⟩ a3).setCell ⟨r, 4, none⟩ a4).setCell ⟨r, 5, none⟩ a5).alloc o) w2) : w2.heap[r]? = some (.cells #[a0, a1, a2, a3, a4, a5] t (0, 0)) := by
  have h := six_set hz a0 a1 a2 a3 a4 a5
  have hl := lt_of_block h
  rw [ho.block r (by rw [World.alloc]; simp at hl ⊢; omega) hne, Below.heap_alloc _ _ _ hl]
  exact h
theorem ot_new {W w2 : World} {b n : Nat} {o : Obj} (ho : Ot (· = b) (W.alloc o) w2) (hn : n = W.heap.size) (hne : n ≠ b) : w2.heap[n]? = some o := by
  subst hn
  rw [ho.block _ (by simp) hne]
  exact new_block W o
set_option maxRecDepth 20000 in
set_option maxHeartbeats 1000000 in
theorem dtake_any {b : Nat} {P R T S : Int} {v : Value} {s : DlS} (now : Int) (w : World) (h : DAt w b P R T S v s) (hF : Fit s.L) (hS : 0 ≤ S) (hS1 : S ≤ 1000000) (hn0 : 0 ≤ now) (hn1 : now ≤ 20000000) (ha : ∀ x ∈ s.L, 0 ≤ x.a ∧ x.a ≤ 20000000) (hc0 : 0 ≤ s.count) (hc1 : s.count + s.L.length ≤ 900000) (hx0 : 0 ≤ s.next) (hx1 : s.next ≤ 10000000000) :
    Calls Tryz.prog 154 #[.pointer (some ⟨b, 0, none⟩), .int .i64 now] w fun e w' => ∃ u, e = .returned (.tuple #[(takeD T S s now).2.2.1.val, u, .bool (takeD T S s now).2.2.2]) ∧ Hs w' u (takeD T S s now).2.1 ∧ ∃ v', DAt w' b P R T S v' (takeD T S s now).1 ∧ v'.ownBlock = v.ownBlock ∧ (∀ k, u.ownBlock = some k → w.heap.size ≤ k) ∧ Ot (· = b) w w' := by
  have H : Hid (DAt w b P R T S v s) := h
  have hb := LAt.lt h
  have hV := Hd.val_eq
  have HVL : Hid (∀ k, v.ownBlock = some k → k < w.heap.size) := fun k hk => h.row.lt hk
  obtain ⟨p, hp⟩ : ∃ p, pullD T S s now = p := ⟨_, rfl⟩
  obtain ⟨s1, x1, ok1, bad1⟩ := p
  have HPU : Hid (∀ (W : World) (v' : Value), DAt W b P R T S v' s → Calls Tryz.prog 155 #[.pointer (some ⟨b, 0, none⟩), .int .i64 now] W fun e w' => e = .returned (.tuple #[x1.val, .bool ok1, .bool bad1]) ∧ ∃ v'', DAt w' b P R T S v'' s1 ∧ v''.ownBlock = v'.ownBlock ∧ Ot (· = b) W w') := by
    intro W v' hD
    have := pull_any now W hD hF hS hS1 hn0 hn1 ha
    rw [hp] at this
    exact this
  obtain ⟨p1, p2, p3, p4, p5, p6, p7⟩ := pullD_same hp
  have HTL : Hid (s1.L = s.L.tail) := p4
  have HSF : Hid (∀ z ∈ s1.L, z ∈ s.L) := fun z hz => List.mem_of_mem_tail (by rw [p4] at hz; exact hz)
  have hlen : s1.L.length ≤ s.L.length := by rw [p4, List.length_tail]; omega
  have HFA : Hid (Fit s1.L ∧ ∀ x ∈ s1.L, 0 ≤ x.a ∧ x.a ≤ 20000000) := ⟨⟨by have := hF.1; omega, fun z hz => hF.2 z (HSF.out z hz)⟩, fun z hz => ha z (HSF.out z hz)⟩
  have hc : 0 ≤ s1.count ∧ s1.count + s1.L.length ≤ 900000 := by omega
  have hx : 0 ≤ s1.next ∧ s1.next ≤ 10000000000 := by omega
  clear h ha hF hc0 hc1 hx0 hx1 p1 p2 p3 p4 p5 p6 p7
  cases bad1 with
  | false =>
    have hT : takeD T S s now = ({ s1 with throws := false }, [], x1, ok1) := by simp [takeD, hp]
    rw [hT]
    clear hp hT
    go_enter Tryz.func154, Tryz.ntmps154
    go_wp2_with (go_at_call 155; refine (HPU.out _ _ (LAt.below H.out (below_alloc_ (Below.refl _ _) _))).mono ?_; rintro e w1 ⟨rfl, v1, hD1, hk1, ho1⟩; obtain ⟨hs1, hz⟩ := after_ot ho1 (by omega); obtain ⟨⟨z0, z1, z2, z3, z4, z5⟩, y0, y1, y2, y3, y4, y5⟩ := six hz; have hbs : b < w1.heap.size := Nat.lt_trans hb hs1; obtain ⟨⟨c5, c6, c7, c8, c9, c10, c11⟩, f7, f8, f9, f10, f11⟩ := hD1.cells; have HD1 : Hid (DAt w1 b P R T S v1 s1) := hD1; clear hD1; have HV1 : Hid (∀ k, v1.ownBlock = some k → k ≠ w.heap.size) := fun k hk e => by { have := HVL.out k (by rw [← hk1, hk]); omega }; have HO1 : Hid (Ot (· = b) w w1) := (Ot.of_below ((Below.refl _ _).alloc (Nat.le_refl _) _)).trans ho1)
    (try simp only [Exit.inBlock, Exit.then])
    refine bodyPost_ret (v := .tuple #[x1.val, .slice none 0 0, .bool ok1]) (ret_held2 rfl rfl (six_set (heap_other (by omega) (six_set hz _ _ _ _ _ _)) _ _ _ _ _ _) rfl rfl) rfl ⟨_, rfl, Hs.nil _, v1, LAt.six ((HD1.out.six (by omega) HV1.out _ _ _ _ _ _).rest 7 (.bool false) rfl) (by omega) HV1.out _ _ _ _ _ _, hk1, fun k hk => by simp [Value.ownBlock] at hk, ?_⟩
    have hO := HO1.out
    repeat' (first | with_reducible exact hO | with_reducible refine Ot.setCell ?_ (by simp) _)
  | true =>
    cases hth : s1.throws with
    | true =>
      obtain ⟨r, hr⟩ : ∃ r, goD T S now s1.L s1 x1 = r := ⟨_, rfl⟩
      obtain ⟨s2, l2, x2, ok2⟩ := r
      have hT : takeD T S s now = (s2, l2, x2, ok2) := by simp [takeD, hp, hth, hr]
      rw [hT]
      have HGO : Hid (∀ (W : World) (v' : Value), DAt W b P R T S v' s1 → Calls Tryz.prog 156 #[.pointer (some ⟨b, 0, none⟩), .int .i64 now, x1.val] W fun e w' => ∃ u, e = .returned (.tuple #[x2.val, u, .bool ok2]) ∧ Hs w' u l2 ∧ ∃ v'', DAt w' b P R T S v'' s2 ∧ v''.ownBlock = v'.ownBlock ∧ (∀ k, u.ownBlock = some k → W.heap.size ≤ k) ∧ Ot (· = b) W w') := by
        intro W v' hD
        have := goOn_any now x1 W hD HFA.out.1 hS hS1 hn0 hn1 HFA.out.2 hth hc.1 hc.2 hx.1 hx.2
        rw [hr] at this
        exact this
      clear hp hT hr
      go_enter Tryz.func154, Tryz.ntmps154
      go_wp2_with (first | (go_at_call 155; refine (HPU.out _ _ (LAt.below H.out (below_alloc_ (Below.refl _ _) _))).mono ?_; rintro e w1 ⟨rfl, v1, hD1, hk1, ho1⟩; obtain ⟨hs1, hz⟩ := after_ot ho1 (by omega); obtain ⟨⟨z0, z1, z2, z3, z4, z5⟩, y0, y1, y2, y3, y4, y5⟩ := six hz; have hbs : b < w1.heap.size := Nat.lt_trans hb hs1; obtain ⟨⟨c5, c6, c7, c8, c9, c10, c11⟩, f7, f8, f9, f10, f11⟩ := hD1.cells; have HD1 : Hid (DAt w1 b P R T S v1 s1) := hD1; clear hD1; have HV1 : Hid (∀ k, v1.ownBlock = some k → k ≠ w.heap.size) := fun k hk e => by { have := HVL.out k (by rw [← hk1, hk]); omega }; have HO1 : Hid (Ot (· = b) w w1) := (Ot.of_below ((Below.refl _ _).alloc (Nat.le_refl _) _)).trans ho1) | (go_at_call 156; refine (HGO.out _ _ (HD1.out.six (by omega) HV1.out _ _ _ _ _ _)).mono ?_; rintro e w2 ⟨u2, rfl, hs2, v2, hD2, hk2, hu2, ho2⟩; have hz2 := ot_six hz (by omega) ho2; obtain ⟨⟨z0', z1', z2', z3', z4', z5'⟩, y0', y1', y2', y3', y4', y5'⟩ := six hz2))
      (try simp only [Exit.inBlock, Exit.then])
      have hu2' : ∀ k, u2.ownBlock = some k → w.heap.size + 1 ≤ k := fun k hk => by have := hu2 k hk; simp at this; omega
      refine bodyPost_ret (v := .tuple #[x2.val, u2, .bool ok2]) (ret_held2 rfl rfl (six_set hz2 _ _ _ _ _ _) rfl rfl) rfl ⟨u2, rfl, Hs.six hs2 (fun k hk => by have := hu2' k hk; omega) _ _ _ _ _ _, v2, LAt.six hD2 (by omega) (fun k hk => HV1.out k (by rw [← hk2, hk])) _ _ _ _ _ _, hk2.trans hk1, fun k hk => by have := hu2' k hk; omega, ?_⟩
      have hO : Ot (· = b) w w2 := (show Ot (· = b) w _ from by have hO := HO1.out; repeat' (first | with_reducible exact hO | with_reducible refine Ot.setCell ?_ (by simp) _)).trans ho2
      repeat' (first | with_reducible exact hO | with_reducible refine Ot.setCell ?_ (by simp) _)
    | false =>
      obtain ⟨r, hr⟩ : ∃ r, pullD T S s1 now = r := ⟨_, rfl⟩
      obtain ⟨s2, x2, ok2, bad2⟩ := r
      have hT : takeD T S s now = (beginD S s2 now, [x1], x2, ok2) := by simp [takeD, hp, hth, hr]
      rw [hT]
      have HP2 : Hid (∀ (W : World) (v' : Value), DAt W b P R T S v' s1 → Calls Tryz.prog 155 #[.pointer (some ⟨b, 0, none⟩), .int .i64 now] W fun e w' => e = .returned (.tuple #[x2.val, .bool ok2, .bool bad2]) ∧ ∃ v'', DAt w' b P R T S v'' s2 ∧ v''.ownBlock = v'.ownBlock ∧ Ot (· = b) W w') := by
        intro W v' hD
        have := pull_any now W hD HFA.out.1 hS hS1 hn0 hn1 HFA.out.2
        rw [hr] at this
        exact this
      obtain ⟨p1, p2, p3, p4, p5, p6, p7⟩ := pullD_same hr
      have HBG : Hid (∀ (W : World) (v' : Value), DAt W b P R T S v' s2 → Calls Tryz.prog 157 #[.pointer (some ⟨b, 0, none⟩), .int .i64 now] W fun e w' => e = .returned (.tuple #[]) ∧ DAt w' b P R T S v' (beginD S s2 now) ∧ Ot (· = b) W w') := fun W v' hD => begin_any now W hD hS hS1 hn0 hn1 (by omega) (by omega) (by omega) (by omega)
      clear hp hT hr p1 p2 p3 p4 p5 p6 p7
      go_enter Tryz.func154, Tryz.ntmps154
      go_wp2_with (first | (go_at_call 155; refine (HP2.out _ _ (LAt.below (HD1.out.six (by omega) HV1.out _ _ _ _ _ _) (below_alloc_ (Below.refl _ _) _))).mono ?_; rintro e w3 ⟨rfl, v3, hD3, hk3, ho3⟩; have hz3 := ot_six_alloc hz (by omega) ho3; have hl3 := ot_new (n := w1.heap.size) ho3 (by simp) (by omega); obtain ⟨⟨z0', z1', z2', z3', z4', z5'⟩, y0', y1', y2', y3', y4', y5'⟩ := six hz3; have hbs3 : b < w3.heap.size := LAt.lt hD3; have hB3 := lt_of_block hz3; have HD3 : Hid (DAt w3 b P R T S v3 s2) := hD3; clear hD3; have HV3 : Hid (∀ k, v3.ownBlock = some k → k ≠ w.heap.size) := fun k hk => HV1.out k (by rw [← hk3, hk])) | (go_at_call 155; refine (HPU.out _ _ (LAt.below H.out (below_alloc_ (Below.refl _ _) _))).mono ?_; rintro e w1 ⟨rfl, v1, hD1, hk1, ho1⟩; obtain ⟨hs1, hz⟩ := after_ot ho1 (by omega); obtain ⟨⟨z0, z1, z2, z3, z4, z5⟩, y0, y1, y2, y3, y4, y5⟩ := six hz; have hbs : b < w1.heap.size := Nat.lt_trans hb hs1; obtain ⟨⟨c5, c6, c7, c8, c9, c10, c11⟩, f7, f8, f9, f10, f11⟩ := hD1.cells; have HD1 : Hid (DAt w1 b P R T S v1 s1) := hD1; clear hD1; have HV1 : Hid (∀ k, v1.ownBlock = some k → k ≠ w.heap.size) := fun k hk e => by { have := HVL.out k (by rw [← hk1, hk]); omega }; have HO1 : Hid (Ot (· = b) w w1) := (Ot.of_below ((Below.refl _ _).alloc (Nat.le_refl _) _)).trans ho1) | (go_at_call 157; refine (HBG.out _ _ (HD3.out.six (by omega) HV3.out _ _ _ _ _ _)).mono ?_; rintro e w4 ⟨rfl, hD4, ho4⟩; have hz4 := ot_six hz3 (by omega) ho4; obtain ⟨⟨z0'', z1'', z2'', z3'', z4'', z5''⟩, y0'', y1'', y2'', y3'', y4'', y5''⟩ := six hz4; have hB4 := lt_of_block hz4))
      (try simp only [Exit.inBlock, Exit.then])
      have hs1' : w.heap.size < w1.heap.size := hs1
      have hl3' : Hs w3 (.slice (some ⟨w1.heap.size, 0, none⟩) 1 1) [x1] := Hs.one hl3
      have hl4 := Hs.six (r := w.heap.size) hl3' (fun k hk => by simp [Value.ownBlock] at hk; omega) (.int .i64 x2.a) (.int .i64 x2.l) (.int .i64 x2.f) (.int .i64 x2.b) (.int .i64 x2.m) (.int .i64 x2.n)
      have hl5 : Hs w4 (.slice (some ⟨w1.heap.size, 0, none⟩) 1 1) [x1] := Seg.oth (S := (· = b)) hl4 ho4 (fun k hk => by simp [Value.ownBlock] at hk; omega)
      refine bodyPost_ret (v := .tuple #[x2.val, .slice (some ⟨w1.heap.size, 0, none⟩) 1 1, .bool ok2]) (ret_held2 rfl rfl (six_set hz4 _ _ _ _ _ _) rfl rfl) rfl ⟨_, rfl, Hs.six hl5 (fun k hk => by simp [Value.ownBlock] at hk; omega) _ _ _ _ _ _, v3, LAt.six hD4 (by omega) HV3.out _ _ _ _ _ _, hk3.trans hk1, fun k hk => by simp [Value.ownBlock] at hk; omega, ?_⟩
      have hO3 : Ot (· = b) w w3 := (show Ot (· = b) w _ from by have hO := HO1.out; repeat' (first | with_reducible exact hO | with_reducible refine Ot.alloc ?_ _ | with_reducible refine Ot.setCell ?_ (by simp) _)).trans ho3
      have hO : Ot (· = b) w w4 := (show Ot (· = b) w _ from by repeat' (first | with_reducible exact hO3 | with_reducible refine Ot.setCell ?_ (by simp) _)).trans ho4
      repeat' (first | with_reducible exact hO | with_reducible refine Ot.setCell ?_ (by simp) _)
end Go.Proofs.YtfakjedolecdcaaGreatDoor
namespace Go.Proofs.YtfakjedolecdcaaGreatDoor
open Go.RowKit Go.Extern.Stop Go.Stop Go.Extern

/-- What went, and what is left, is what was there. -/
def Parts (L lost : List Hd) (x : Hd) (ok : Bool) (L' : List Hd) : Prop := (ok = true ∧ L = lost ++ x :: L') ∨ (ok = false ∧ L = lost ∧ L' = [] ∧ x = hd0)
theorem goD_parts {T S now : Int} (hS : 0 ≤ S) (hS1 : S ≤ 1000000) (hn1 : now ≤ 20000000) : ∀ (L : List Hd) (s : DlS) (x : Hd), s.L = L → 0 ≤ s.next → s.next ≤ 10000000000 → T ≤ now - x.a →
    Parts (x :: L) (goD T S now L s x).2.1 (goD T S now L s x).2.2.1 (goD T S now L s x).2.2.2 (goD T S now L s x).1.L ∧ (∀ y ∈ (goD T S now L s x).2.1, T ≤ now - y.a) ∧ (goD T S now L s x).1.count = s.count + (goD T S now L s x).2.1.length ∧ 0 ≤ (goD T S now L s x).1.next ∧ (goD T S now L s x).1.next ≤ 10000000000 := by
  intro L
  induction L with
  | nil =>
    intro s x hL hx0 hx1 hT
    by_cases h : now < s.next
    · have e := goD_stop (T := T) (S := S) (x := x) h
      rw [hL] at e
      rw [e]
      exact ⟨Or.inl ⟨rfl, by rw [hL]; rfl⟩, by simp, by simp, hx0, hx1⟩
    · obtain ⟨p, hp⟩ : ∃ p, pullD T S { s with count := s.count + 1 } now = p := ⟨_, rfl⟩
      obtain ⟨s3, y, ok, bad⟩ := p
      obtain ⟨e1, e2, e3, e4, e5, e6, e7⟩ := pullD_same hp
      simp only [hL] at e4 e5 e6
      have e := goD_next (x := x) h hp
      rw [hL] at e
      cases bad with
      | true => have := (e7 rfl).1; rw [e6] at this; simp at this
      | false =>
        rw [e]
        refine ⟨Or.inr ⟨by simp [e6], rfl, by show s3.L = []; rw [e4]; rfl, by show y = _; rw [e5]; rfl⟩, ?_, ?_, ?_, ?_⟩
        · intro z hz
          simp at hz
          exact hz ▸ hT
        · show s3.count = _
          rw [e2]; simp
        · show 0 ≤ s3.next
          rw [e3]; exact hx0
        · show s3.next ≤ _
          rw [e3]; exact hx1
  | cons z L ih =>
    intro s x hL hx0 hx1 hT
    by_cases h : now < s.next
    · have e := goD_stop (T := T) (S := S) (x := x) h
      rw [hL] at e
      rw [e]
      exact ⟨Or.inl ⟨rfl, by rw [hL]; rfl⟩, by simp, by simp, hx0, hx1⟩
    · obtain ⟨p, hp⟩ : ∃ p, pullD T S { s with count := s.count + 1 } now = p := ⟨_, rfl⟩
      obtain ⟨s3, y, ok, bad⟩ := p
      obtain ⟨e1, e2, e3, e4, e5, e6, e7⟩ := pullD_same hp
      simp only [hL] at e4 e5 e6
      have e := goD_next (x := x) h hp
      rw [hL] at e
      cases bad with
      | true =>
        have hlaw := lawD_le (n := s.count + 1) hS hS1 hx0
        have hi := ih { s3 with throws := true, next := lawD S (s.count + 1) s.next } y (by show s3.L = L; rw [e4]; rfl) (by show 0 ≤ lawD _ _ _; omega) (by show lawD _ _ _ ≤ _; omega) (e7 rfl).2.2
        have hL3 : s3.L = L := by rw [e4]; rfl
        rw [hL3] at e hi
        rw [e]
        simp only [if_true]
        obtain ⟨i1, i2, i3, i4, i5⟩ := hi
        have hy : y = z := by rw [e5]; rfl
        refine ⟨?_, ?_, ?_, i4, i5⟩
        · rcases i1 with ⟨j1, j2⟩ | ⟨j1, j2, j3, j4⟩
          · exact Or.inl ⟨j1, by rw [← hy, j2]; rfl⟩
          · exact Or.inr ⟨j1, by rw [← hy, j2], j3, j4⟩
        · intro q hq
          rcases List.mem_cons.1 hq with rfl | hq
          · exact hT
          · exact i2 q hq
        · rw [i3]
          show s3.count + _ = _
          rw [e2]
          simp
          omega
      | false =>
        rw [e]
        refine ⟨Or.inl ⟨by simp [e6], ?_⟩, ?_, ?_, ?_, ?_⟩
        · show _ = [x] ++ y :: s3.L
          rw [e4, e5]; rfl
        · intro q hq
          simp at hq
          exact hq ▸ hT
        · show s3.count = _
          rw [e2]; simp
        · show 0 ≤ s3.next
          rw [e3]; exact hx0
        · show s3.next ≤ _
          rw [e3]; exact hx1
theorem takeD_parts {T S now : Int} {s : DlS} (hS : 0 ≤ S) (hS1 : S ≤ 1000000) (hn0 : 0 ≤ now) (hn1 : now ≤ 20000000) (hx0 : 0 ≤ s.next) (hx1 : s.next ≤ 10000000000) (hc : 0 ≤ s.count) :
    Parts s.L (takeD T S s now).2.1 (takeD T S s now).2.2.1 (takeD T S s now).2.2.2 (takeD T S s now).1.L ∧ (∀ y ∈ (takeD T S s now).2.1, T ≤ now - y.a) ∧ 0 ≤ (takeD T S s now).1.count ∧ (takeD T S s now).1.count + (takeD T S s now).1.L.length ≤ s.count + s.L.length ∧ 0 ≤ (takeD T S s now).1.next ∧ (takeD T S s now).1.next ≤ 10000000000 := by
  obtain ⟨p, hp⟩ : ∃ p, pullD T S s now = p := ⟨_, rfl⟩
  obtain ⟨s1, x1, ok1, bad1⟩ := p
  obtain ⟨p1, p2, p3, p4, p5, p6, p7⟩ := pullD_same hp
  have hlen : s1.L.length ≤ s.L.length := by rw [p4, List.length_tail]; omega
  cases bad1 with
  | false =>
    have hT : takeD T S s now = ({ s1 with throws := false }, [], x1, ok1) := by simp [takeD, hp]
    rw [hT]
    refine ⟨?_, by simp, by show 0 ≤ s1.count; omega, by show s1.count + _ ≤ _; simp only; omega, by show 0 ≤ s1.next; omega, by show s1.next ≤ _; omega⟩
    cases hL : s.L with
    | nil => exact Or.inr ⟨by rw [p6, hL]; rfl, rfl, by show s1.L = _; rw [p4, hL]; rfl, by rw [p5, hL]; rfl⟩
    | cons z L => exact Or.inl ⟨by rw [p6, hL]; rfl, by show _ = [] ++ x1 :: s1.L; rw [p4, p5, hL]; rfl⟩
  | true =>
    obtain ⟨k1, k2, k3⟩ := p7 rfl
    obtain ⟨z, L, hL⟩ : ∃ z L, s.L = z :: L := by
      cases hL : s.L with
      | nil => rw [p6, hL] at k1; simp at k1
      | cons z L => exact ⟨z, L, rfl⟩
    have hx : x1 = z := by rw [p5, hL]; rfl
    have hL1 : s1.L = L := by rw [p4, hL]; rfl
    cases hth : s1.throws with
    | true =>
      have hT : takeD T S s now = goD T S now s1.L s1 x1 := by simp [takeD, hp, hth]
      rw [hT]
      obtain ⟨i1, i2, i3, i4, i5⟩ := goD_parts hS hS1 hn1 s1.L s1 x1 rfl (by omega) (by omega) k3
      refine ⟨?_, i2, ?_, ?_, i4, i5⟩
      · rw [hL, ← hx, ← hL1]; exact i1
      · rw [i3]; omega
      · rw [i3, p2, hL]
        have hle : (goD T S now s1.L s1 x1).2.1.length + (goD T S now s1.L s1 x1).1.L.length ≤ L.length + 1 := by
          rcases i1 with ⟨j1, j2⟩ | ⟨j1, j2, j3, j4⟩
          · have := congrArg List.length j2
            rw [hL1] at this ⊢
            simp at this ⊢
            omega
          · have := congrArg List.length j2
            rw [j3]
            rw [hL1] at this ⊢
            simp at this ⊢
            omega
        simp only [List.length_cons]
        omega
    | false =>
      obtain ⟨r, hr⟩ : ∃ r, pullD T S s1 now = r := ⟨_, rfl⟩
      obtain ⟨s2, x2, ok2, bad2⟩ := r
      obtain ⟨q1, q2, q3, q4, q5, q6, q7⟩ := pullD_same hr
      have hT : takeD T S s now = (beginD S s2 now, [x1], x2, ok2) := by simp [takeD, hp, hth, hr]
      rw [hT]
      obtain ⟨y, M, hM⟩ : ∃ y M, s1.L = y :: M := by
        cases hM : s1.L with
        | nil => exact absurd hM k2
        | cons y M => exact ⟨y, M, rfl⟩
      have hM2 : s2.L = M := by rw [q4, hM]; rfl
      have hlaw := fun n => lawD_le (n := n) hS hS1 hn0
      refine ⟨Or.inl ⟨by show ok2 = true; rw [q6, hM]; rfl, ?_⟩, ?_, ?_, ?_, (hlaw _).1, ?_⟩
      · show s.L = [x1] ++ x2 :: s2.L
        rw [hL, ← hx, ← hL1, hM, q5, q4, hM]; rfl
      · intro q hq
        simp at hq
        exact hq ▸ k3
      · simp only [beginD]; split <;> omega
      · have hlM : s.L.length = M.length + 2 := by rw [hL, ← hL1, hM]; simp
        have hb : (beginD S s2 now).L.length = M.length := by show s2.L.length = _; rw [hM2]
        have hcb : (beginD S s2 now).count ≤ s2.count + 1 := by
          simp only [beginD]; split <;> omega
        show (beginD S s2 now).count + ((beginD S s2 now).L.length : Int) ≤ _
        rw [hb, hlM]
        have : ((M.length + 2 : Nat) : Int) = M.length + 2 := by omega
        omega
      · have := (hlaw (if 2 < s2.count ∧ now - s2.next < 16 * S then s2.count - 2 else 1)).2
        show lawD S _ now ≤ _
        omega
theorem Parts.mem {L lost : List Hd} {x : Hd} {ok : Bool} {L' : List Hd} (h : Parts L lost x ok L') : (∀ y ∈ L', y ∈ L) ∧ lost.length + L'.length ≤ L.length := by
  rcases h with ⟨_, rfl⟩ | ⟨_, rfl, rfl, _⟩
  · exact ⟨fun y hy => by simp [hy], by simp⟩
  · exact ⟨by simp, by simp⟩
theorem mDelayP (a : Addr) (W : World) : (Go.method 395 119 (.pointer (some ⟨a.block, 0, none⟩)) "Put").run Tryz.prog W = .ok (140, .pointer (some ⟨a.block, 0, none⟩)) W := by kernel_rfl
theorem mDelayT (a : Addr) (W : World) : (Go.method 395 119 (.pointer (some ⟨a.block, 0, none⟩)) "Take").run Tryz.prog W = .ok (154, .pointer (some ⟨a.block, 0, none⟩)) W := by kernel_rfl
theorem mDelayW (a : Addr) (W : World) : (Go.method 395 119 (.pointer (some ⟨a.block, 0, none⟩)) "When").run Tryz.prog W = .ok (142, .pointer (some ⟨a.block, 0, none⟩)) W := by kernel_rfl
theorem mDelayL (a : Addr) (W : World) : (Go.method 395 119 (.pointer (some ⟨a.block, 0, none⟩)) "Len").run Tryz.prog W = .ok (139, .pointer (some ⟨a.block, 0, none⟩)) W := by kernel_rfl
theorem mDelayB (a : Addr) (W : World) : (Go.method 395 119 (.pointer (some ⟨a.block, 0, none⟩)) "Bytes").run Tryz.prog W = .ok (138, .pointer (some ⟨a.block, 0, none⟩)) W := by kernel_rfl
theorem eDelayT (args : Array Value) (W : World) : (callFunc 154 args).run Tryz.prog W = .ok (.enter 154 args) W := enters_of Tryz.func154 (by kernel_rfl) rfl args W
/-- A Delay in block b. -/
def DelayM (b : Nat) (P R T S : Int) : QM where
  σ := DlS
  ty := 119
  rv := .pointer (some ⟨b, 0, none⟩)
  fP := 140
  fT := 154
  fW := 142
  fL := 139
  fB := 138
  rP := .pointer (some ⟨b, 0, none⟩)
  rT := .pointer (some ⟨b, 0, none⟩)
  rW := .pointer (some ⟨b, 0, none⟩)
  rL := .pointer (some ⟨b, 0, none⟩)
  rB := .pointer (some ⟨b, 0, none⟩)
  At := fun w F s => ∃ v, DAt w b P R T S v s ∧ ∀ k, F k ↔ k = b ∨ v.ownBlock = some k
  put := fun s _ x => ({ s with L := (putF P R false s.L x).2 }, (putF P R false s.L x).1)
  take := fun s now => takeD T S s now
  when := fun s now => (s, now, !s.L.isEmpty)
  len := fun s => s.L.length
  bytes := fun s => sumL s.L
  inv := fun _ n s => (s.L.length ≤ n ∧ ∀ x ∈ s.L, x.ok = true) ∧ (∀ x ∈ s.L, 0 ≤ x.a ∧ x.a ≤ 20000000) ∧ 0 ≤ s.count ∧ s.count + s.L.length ≤ n ∧ 0 ≤ s.next ∧ s.next ≤ 10000000000
theorem delayM_fine (b : Nat) (P R T S : Int) (hP : 0 ≤ P) (hR : 0 ≤ R) (hR1 : R ≤ 1000000) (hS : 0 ≤ S) (hS1 : S ≤ 1000000) : (DelayM b P R T S).Fine where
  kept := by
    rintro w w' F s ⟨v, h, hF⟩ hk
    exact ⟨v, LAt.kept h (hk b ((hF b).2 (Or.inl rfl))) (fun k hv => hk k ((hF k).2 (Or.inr hv))), hF⟩
  low := by
    rintro w F s ⟨v, h, hF⟩ k hk
    rcases (hF k).1 hk with rfl | hv
    · exact LAt.lt h
    · exact h.row.lt hv
  mP := mDelayP ⟨b, 0, none⟩
  mT := mDelayT ⟨b, 0, none⟩
  mW := mDelayW ⟨b, 0, none⟩
  mL := mDelayL ⟨b, 0, none⟩
  mB := mDelayB ⟨b, 0, none⟩
  eP := eFifoP
  eT := eDelayT
  eW := eFifoW
  eL := eFifoL
  eB := eFifoB
  cP := by
    rintro w F (s : DlS) t n now x ⟨v, h, hF⟩ hI ht0 ht1 ht2 hok hxa hxn hn
    have hfit : Fit (s.L ++ [x]) := fit_of (n := n + 1) ⟨by simpa using hI.1.1, fun y hy => by rcases List.mem_append.1 hy with h | h; exact hI.1.2 y h; simp at h; exact h ▸ hok⟩ (by omega)
    refine (fifo_put now x w h hfit hP hR hR1).mono ?_
    rintro e w' ⟨u, v', rfl, hu, hl, hk, hn', ho⟩
    refine ⟨u, fun k => k = b ∨ v'.ownBlock = some k, rfl, hu, ⟨v', hl, fun k => Iff.rfl⟩, ?_, fun k hk => Or.inr (hn' k hk), ho.mono (fun k _ h => (hF k).2 h)⟩
    intro k hk'
    rcases hk' with rfl | h
    · exact Or.inl ((hF _).2 (Or.inl rfl))
    · rcases hk k h with h | h
      · exact Or.inl ((hF k).2 (Or.inr h))
      · exact Or.inr h
  iP := by
    intro (s : DlS) t n now x hI ht0 ht1 ht2 hok hxa hxn hn
    obtain ⟨h1, h2, h3⟩ := putF_mem (P := P) (R := R) (hd := false) (L := s.L) (x := x)
    obtain ⟨⟨i1, i2⟩, i3, i4, i5, i6, i7⟩ := hI
    refine ⟨⟨⟨?_, fun y hy => ?_⟩, fun y hy => ?_, i4, ?_, i6, i7⟩, ?_⟩
    · show (putF P R false s.L x).2.length ≤ n + 1
      omega
    · rcases List.mem_append.1 (h1 y hy) with h | h
      · exact i2 y h
      · simp at h; exact h ▸ hok
    · rcases List.mem_append.1 (h1 y hy) with h | h
      · exact i3 y h
      · simp at h; subst h; omega
    · show s.count + ((putF P R false s.L x).2.length : Int) ≤ _
      omega
    · show (putF P R false s.L x).1.length ≤ 1000000
      omega
  cT := by
    rintro w F (s : DlS) t n now ⟨v, h, hF⟩ hI ht0 ht1 ht2 hn
    obtain ⟨i1, i3, i4, i5, i6, i7⟩ := hI
    refine (dtake_any now w h (fit_of i1 (by omega)) hS hS1 (by omega) ht2 i3 i4 (by omega) i6 i7).mono ?_
    rintro e w' ⟨u, rfl, hu, v', hl, hk, hn', ho⟩
    exact ⟨u, F, rfl, hu, ⟨v', hl, fun k => by rw [hF, hk]⟩, fun k hk => Or.inl hk, fun k hk => Or.inr (hn' k hk), ho.mono (fun k _ h => (hF k).2 (Or.inl h))⟩
  iT := by
    intro (s : DlS) t n now hI ht0 ht1 ht2 hn
    obtain ⟨⟨i1, i2⟩, i3, i4, i5, i6, i7⟩ := hI
    obtain ⟨q1, q2, q3, q4, q5, q6⟩ := takeD_parts (T := T) hS hS1 (show 0 ≤ now by omega) ht2 i6 i7 i4
    obtain ⟨m1, m2⟩ := q1.mem
    exact ⟨⟨⟨by show (takeD T S s now).1.L.length ≤ n; omega, fun y hy => i2 y (m1 y hy)⟩, fun y hy => i3 y (m1 y hy), q3, by show (takeD T S s now).1.count + ((takeD T S s now).1.L.length : Int) ≤ n; omega, q5, q6⟩, by show (takeD T S s now).2.1.length ≤ _; omega⟩
  cW := by
    rintro w F (s : DlS) t n now ⟨v, h, hF⟩ hI ht0 ht1 ht2 hn
    refine (fifo_when now w h).mono ?_
    rintro e w' ⟨rfl, rfl⟩
    exact ⟨F, rfl, ⟨v, h, hF⟩, fun k hk => Or.inl hk, Ot.refl _ _⟩
  iW := by
    intro (s : DlS) t n now hI ht0 ht1 ht2 hn
    exact hI
  cL := by
    rintro w F (s : DlS) t n ⟨v, h, hF⟩ hI hn
    exact (len_any w h).mono (by rintro e w' ⟨rfl, rfl⟩; exact ⟨rfl, Below.refl _ _⟩)
  cB := by
    rintro w F (s : DlS) t n ⟨v, h, hF⟩ hI hn
    exact (bytes_any w h).mono (by rintro e w' ⟨rfl, rfl⟩; exact ⟨rfl, Below.refl _ _⟩)
/-- An empty one. -/
def dl0 : DlS := ⟨[], false, 0, false, 0, 0⟩
end Go.Proofs.YtfakjedolecdcaaGreatDoor
namespace Go.Proofs.YtfakjedolecdcaaGreatDoor
open Go.RowKit Go.Extern.Stop Go.Stop Go.Extern

set_option maxHeartbeats 1000000 in
theorem newDelay_yes (T S P : Int) (w : World) (hP : 0 ≤ P) (hP1 : P ≤ 1000000) (hT : 0 ≤ T) (hT1 : T ≤ 1000000) (hS : 1 ≤ S) (hS1 : S ≤ 1000000) :
    Calls Tryz.prog 48 #[.int .i64 T, .int .i64 S, .int .i64 P] w fun e w' => e = .returned (.tuple #[.pointer (some ⟨w.heap.size + 1, 0, none⟩), .nilIface]) ∧ DAt w' (w.heap.size + 1) P 1000000 T S (.slice none 0 0) dl0 ∧ Below w.heap.size w w' := by
  go_enter Tryz.func48, Tryz.ntmps48
  go_wp2_with (go_at_call 27; refine (newFifo_yes P 1000000 false w hP hP1 (by decide) (by decide)).mono ?_; rintro e w1 ⟨rfl, hl1, hw1⟩; subst hw1)
  go_ret2
  exact ⟨rfl, ⟨new_block_ (by simp), Hs.nil _, by simp [Value.ownBlock]⟩, below_alloc_ (below_alloc_ (Below.refl _ _) _) _⟩
set_option maxHeartbeats 1000000 in
theorem newDelay_no (T S P : Int) (w : World) (h : ¬ (0 ≤ P ∧ P ≤ 1000000 ∧ 0 ≤ T ∧ T ≤ 1000000 ∧ 1 ≤ S ∧ S ≤ 1000000)) :
    Calls Tryz.prog 48 #[.int .i64 T, .int .i64 S, .int .i64 P] w fun e w' => e = .returned (.tuple #[.pointer none, .iface 57 (.int .i64 2)]) ∧ Below w.heap.size w w' := by
  by_cases hP : 0 ≤ P ∧ P ≤ 1000000
  · have hTS : T < 0 ∨ 1000000 < T ∨ S < 1 ∨ 1000000 < S := by omega
    clear h
    rcases hTS with h1 | h1 | h1 | h1
    · go_enter Tryz.func48, Tryz.ntmps48
      go_wp2_with (go_at_call 27; refine (newFifo_yes P 1000000 false w hP.1 hP.2 (by decide) (by decide)).mono ?_; rintro e w1 ⟨rfl, hl1, hw1⟩; subst hw1)
      all_goals
        go_ret2
        exact ⟨rfl, below_alloc_ (Below.refl _ _) _⟩
    all_goals
      go_enter Tryz.func48, Tryz.ntmps48
      go_wp2_with (go_at_call 27; refine (newFifo_yes P 1000000 false w hP.1 hP.2 (by decide) (by decide)).mono ?_; rintro e w1 ⟨rfl, hl1, hw1⟩; subst hw1)
      all_goals
        go_ret2
        exact ⟨rfl, below_alloc_ (Below.refl _ _) _⟩
  · clear h
    go_enter Tryz.func48, Tryz.ntmps48
    go_wp2_with (go_at_call 27; refine (newFifo_no P 1000000 false w (by omega)).mono ?_; rintro e w1 ⟨rfl, hw1⟩; subst hw1)
    go_ret2
    exact ⟨rfl, Below.refl _ _⟩
theorem newDelay_at {w : World} {b : Nat} {P R T S : Int} (h : DAt w b P R T S (.slice none 0 0) dl0) : (DelayM b P R T S).At w (· = b) dl0 := ⟨.slice none 0 0, h, fun k => by simp [Value.ownBlock]⟩
theorem delay_inv0 (b : Nat) (P R T S : Int) : (DelayM b P R T S).inv 0 0 dl0 := ⟨⟨Nat.le_refl _, by simp [dl0]⟩, by simp [dl0], by decide, by decide, by decide, by decide⟩
end Go.Proofs.YtfakjedolecdcaaGreatDoor
namespace Go.Proofs.YtfakjedolecdcaaGreatDoor
open Go.RowKit Go.Extern.Stop Go.Stop Go.Extern

theorem goD_parts0 {T S now : Int} : ∀ (L : List Hd) (s : DlS) (x : Hd), s.L = L → Parts (x :: L) (goD T S now L s x).2.1 (goD T S now L s x).2.2.1 (goD T S now L s x).2.2.2 (goD T S now L s x).1.L := by
  intro L
  induction L with
  | nil =>
    intro s x hL
    by_cases h : now < s.next
    · have e := goD_stop (T := T) (S := S) (x := x) h
      rw [hL] at e
      rw [e]
      exact Or.inl ⟨rfl, by rw [hL]; rfl⟩
    · obtain ⟨p, hp⟩ : ∃ p, pullD T S { s with count := s.count + 1 } now = p := ⟨_, rfl⟩
      obtain ⟨s3, y, ok, bad⟩ := p
      obtain ⟨e1, e2, e3, e4, e5, e6, e7⟩ := pullD_same hp
      simp only [hL] at e4 e5 e6
      have e := goD_next (x := x) h hp
      rw [hL] at e
      cases bad with
      | true => have := (e7 rfl).1; rw [e6] at this; simp at this
      | false =>
        rw [e]
        exact Or.inr ⟨by simp [e6], rfl, by show s3.L = []; rw [e4]; rfl, by show y = _; rw [e5]; rfl⟩
  | cons z L ih =>
    intro s x hL
    by_cases h : now < s.next
    · have e := goD_stop (T := T) (S := S) (x := x) h
      rw [hL] at e
      rw [e]
      exact Or.inl ⟨rfl, by rw [hL]; rfl⟩
    · obtain ⟨p, hp⟩ : ∃ p, pullD T S { s with count := s.count + 1 } now = p := ⟨_, rfl⟩
      obtain ⟨s3, y, ok, bad⟩ := p
      obtain ⟨e1, e2, e3, e4, e5, e6, e7⟩ := pullD_same hp
      simp only [hL] at e4 e5 e6
      have e := goD_next (x := x) h hp
      rw [hL] at e
      have hy : y = z := by rw [e5]; rfl
      cases bad with
      | true =>
        have hL3 : s3.L = L := by rw [e4]; rfl
        have i1 := ih { s3 with throws := true, next := lawD S (s.count + 1) s.next } y hL3
        rw [hL3] at e i1
        rw [e]
        simp only [if_true]
        rcases i1 with ⟨j1, j2⟩ | ⟨j1, j2, j3, j4⟩
        · exact Or.inl ⟨j1, by rw [← hy, j2]; rfl⟩
        · exact Or.inr ⟨j1, by rw [← hy, j2], j3, j4⟩
      | false =>
        rw [e]
        refine Or.inl ⟨by simp [e6], ?_⟩
        show _ = [x] ++ y :: s3.L
        rw [e4, e5]; rfl
theorem takeD_parts0 {T S now : Int} {s : DlS} : Parts s.L (takeD T S s now).2.1 (takeD T S s now).2.2.1 (takeD T S s now).2.2.2 (takeD T S s now).1.L := by
  obtain ⟨p, hp⟩ : ∃ p, pullD T S s now = p := ⟨_, rfl⟩
  obtain ⟨s1, x1, ok1, bad1⟩ := p
  obtain ⟨p1, p2, p3, p4, p5, p6, p7⟩ := pullD_same hp
  cases bad1 with
  | false =>
    have hT : takeD T S s now = ({ s1 with throws := false }, [], x1, ok1) := by simp [takeD, hp]
    rw [hT]
    cases hL : s.L with
    | nil => exact Or.inr ⟨by rw [p6, hL]; rfl, rfl, by show s1.L = _; rw [p4, hL]; rfl, by rw [p5, hL]; rfl⟩
    | cons z L => exact Or.inl ⟨by rw [p6, hL]; rfl, by show _ = [] ++ x1 :: s1.L; rw [p4, p5, hL]; rfl⟩
  | true =>
    obtain ⟨k1, k2, k3⟩ := p7 rfl
    obtain ⟨z, L, hL⟩ : ∃ z L, s.L = z :: L := by
      cases hL : s.L with
      | nil => rw [p6, hL] at k1; simp at k1
      | cons z L => exact ⟨z, L, rfl⟩
    have hx : x1 = z := by rw [p5, hL]; rfl
    have hL1 : s1.L = L := by rw [p4, hL]; rfl
    cases hth : s1.throws with
    | true =>
      have hT : takeD T S s now = goD T S now s1.L s1 x1 := by simp [takeD, hp, hth]
      rw [hT, hL, ← hx, ← hL1]
      exact goD_parts0 s1.L s1 x1 rfl
    | false =>
      obtain ⟨r, hr⟩ : ∃ r, pullD T S s1 now = r := ⟨_, rfl⟩
      obtain ⟨s2, x2, ok2, bad2⟩ := r
      obtain ⟨q1, q2, q3, q4, q5, q6, q7⟩ := pullD_same hr
      have hT : takeD T S s now = (beginD S s2 now, [x1], x2, ok2) := by simp [takeD, hp, hth, hr]
      rw [hT]
      obtain ⟨y, M, hM⟩ : ∃ y M, s1.L = y :: M := by
        cases hM : s1.L with
        | nil => exact absurd hM k2
        | cons y M => exact ⟨y, M, rfl⟩
      refine Or.inl ⟨by show ok2 = true; rw [q6, hM]; rfl, ?_⟩
      show s.L = [x1] ++ x2 :: s2.L
      rw [hL, ← hx, ← hL1, hM, q5, q4, hM]; rfl
theorem delay_keeps (b : Nat) (P R T S : Int) : (DelayM b P R T S).Keeps (fun s => s.L) where
  put := by
    intro (s : DlS) now x
    show (s.L ++ [x]).Perm ((putF P R false s.L x).1 ++ (putF P R false s.L x).2)
    unfold putF
    split
    · rw [cutL_parts]
    · split
      · exact List.perm_append_comm
      · exact List.Perm.refl _
  take := by
    intro (s : DlS) now
    show s.L.Perm ((takeD T S s now).2.1 ++ (if (takeD T S s now).2.2.2 then [(takeD T S s now).2.2.1] else []) ++ (takeD T S s now).1.L)
    rcases takeD_parts0 (T := T) (S := S) (now := now) (s := s) with ⟨h1, h2⟩ | ⟨h1, h2, h3, _⟩
    · rw [h1, if_pos rfl]
      have e : (takeD T S s now).2.1 ++ [(takeD T S s now).2.2.1] ++ (takeD T S s now).1.L = s.L := by rw [h2]; simp
      rw [e]
    · rw [h1, h3, ← h2]; simp
  when := fun s now => List.Perm.refl _
  len := fun s => rfl
  bytes := fun s => rfl
end Go.Proofs.YtfakjedolecdcaaGreatDoor
