/-
  millraceref.Hashed: what Take does. Conditions: its numbers within their bounds; few packets; a list whose turn it is has some.
-/
import Derived.Test.YtejomfmbhifeaaaDoorXd
namespace Go.Proofs.YtejomfmbhifeaaaDoor
open Go.RowKit Go.Extern.Stop Go.Stop Go.Extern

/-- Behind the head nothing of it. -/
theorem Ins.tailc {w : World} {b off cap n : Nat} {x : Int} {L : List Int} (h : Ins w (.slice (some ⟨b, off, none⟩) n cap) (x :: L)) : ∀ j u, (L.map (Value.int .i64))[j]? = some u → w.cell? ⟨b, off + 1 + j, none⟩ = some u := by
  intro j u hj
  rcases h.form with ⟨h1, _, _⟩ | ⟨b', off', cap', h1, _, _, _, hc⟩
  · simp at h1
  · simp only [Value.slice.injEq, Option.some.injEq, Addr.mk.injEq, and_true] at h1
    obtain ⟨⟨rfl, rfl⟩, _⟩ := h1
    have h2 := hc (1 + j) u (by rw [Nat.add_comm]; simpa using hj)
    rwa [← Nat.add_assoc] at h2
theorem ints_ones (xs : List Int) : ∀ u ∈ xs.map (Value.int .i64), u.oneCell' = true := by
  intro u hu
  obtain ⟨x, _, rfl⟩ := List.mem_map.1 hu
  rfl
theorem RhP.newT' {w1 w' : World} {b : Nat} {p : HaC} {v tv tv' : Value} {r : RhS} {tn' : List Int} (h : RhP w1 b p v tv r) (hblk : w'.heap[b]? = some (.cells #[.int .i64 p.many, .int .i64 p.salt, .int .i64 p.room, v, tv'] 75 (0, 0))) (ho : Ot (· = b) w1 w') (hs : Ins w' tv' tn') (hn : ∀ k, tv'.ownBlock = some k → w1.heap.size ≤ k) : RhO w1 b p v tv ⟨r.L, tn'⟩ w' v tv' := by
  have hb := h.lt
  refine ⟨⟨hblk, Seg.oth h.row ho (fun k hk e => h.ne (by rw [hk, e])), hs, h.ne, fun e => by have := hn _ e; omega, fun k hk e => by have := hn _ e; have := Seg.lt h.row hk; omega⟩, fun k hk => ?_, ho.mono (fun k _ e => Or.inl e)⟩
  rcases hk with rfl | hk | hk
  · exact Or.inl (Or.inl rfl)
  · exact Or.inl (Or.inr (Or.inl hk))
  · exact Or.inr (hn k hk)
/-- The result is written. -/
theorem RhM.result {w w' : World} {b : Nat} {p : HaC} {v tv v' tv' : Value} {z : Hd} {r' : RhS} (h : RhM w b p v tv w.heap.size z r' w' v' tv') (a0 a1 a2 a3 a4 a5 : Value) : RhO w b p v tv r' ((((((w'.setCell ⟨w.heap.size, 0, none⟩ a0).setCell ⟨w.heap.size, 1, none⟩ a1).setCell ⟨w.heap.size, 2, none⟩ a2).setCell ⟨w.heap.size, 3, none⟩ a3).setCell ⟨w.heap.size, 4, none⟩ a4).setCell ⟨w.heap.size, 5, none⟩ a5) v' tv' := by
  refine ⟨h.o.pos.kept (fun k hk => ?_), h.o.own, ?_⟩
  · have e : k ≠ w.heap.size := fun e => h.nb (e ▸ hk)
    rw [Below.heap_setCell _ _ _ _ e, Below.heap_setCell _ _ _ _ e, Below.heap_setCell _ _ _ _ e, Below.heap_setCell _ _ _ _ e, Below.heap_setCell _ _ _ _ e, Below.heap_setCell _ _ _ _ e]
  · repeat' (first | with_reducible exact h.o.ot | with_reducible refine Ot.setCell ?_ (Or.inr (Nat.le_refl _)) _)
theorem RhM.start {w w' : World} {b : Nat} {p : HaC} {v tv tv' : Value} {r : RhS} {r' : RhS} (h : RhP w b p v tv r) (hO : RhO w b p v tv r' w' v tv') (hz : BxP w' w.heap.size hd0) (hn : ∀ k, tv'.ownBlock = some k → w.heap.size < k) : RhM w b p v tv w.heap.size hd0 r' w' v tv' :=
  ⟨hO, hz, fun hk => by
    rcases hk with h1 | h1 | h1
    · have := h.lt; omega
    · have := Seg.lt h.row h1; omega
    · have := hn _ h1; omega⟩
theorem iseg_empty {w : World} {b : Nat} (h : w.heap[b]? = some (.cells #[] 3 (0, 0))) : Ins w (.slice (some ⟨b, 0, none⟩) 0 0) [] := ⟨rfl, Or.inr ⟨b, 0, 0, #[], rfl, h, Nat.le_refl _, Nat.zero_le _, by simp, fun j u hj => by simp at hj⟩⟩
set_option maxRecDepth 20000 in
set_option maxHeartbeats 4000000 in
theorem rhtake_any {b : Nat} {p : HaC} {v tv : Value} {r : RhS} (now : Int) (w : World) (h : RhP w b p v tv r) (hB : RhB p r.L) (htl : r.tn.length ≤ 100000) (hne : ∀ k ∈ r.tn, ofL p r.L k ≠ []) :
    Calls Tryd.prog 129 #[.pointer (some ⟨b, 0, none⟩), .int .i64 now] w fun e w' => e = .returned (.tuple #[(takeX p r).2.2.1.val, .slice none 0 0, .bool (takeX p r).2.2.2]) ∧ ∃ v' tv', RhO w b p v tv (takeX p r).1 w' v' tv' := by
  have H : Hid (RhP w b p v tv r) := h
  have HRB : Hid (RhB p r.L) := hB
  obtain ⟨⟨a0, a1, a2, a3, a4⟩, g3, g4⟩ := h.cells
  have hb := h.lt
  have hV := Hd.val_eq
  obtain ⟨j0, gi, gz0, gz1, gz2⟩ := info_parts infoIntT
  cases ht : r.tn with
  | nil =>
    have HT : Hid (takeX p r = (r, [], hd0, false)) := by show _ = _; unfold takeX; rw [ht]
    obtain ⟨x, cap, hx⟩ := h.trow.slice
    rw [ht] at hx
    simp only [List.length_nil] at hx
    rw [hx] at a4
    clear h hB hne hx
    go_enter Tryd.func129, Tryd.ntmps129
    go_wp2
    (try simp only [Exit.inBlock, Exit.then])
    rw [HT.out]
    refine bodyPost_ret (v := .tuple #[hd0.val, .slice none 0 0, .bool false]) ?_ rfl ⟨rfl, _, _, (RhO.refl H.out).below ?_⟩
    · rw [results_cell_tmp2 rfl]
      go_simp
      exact ⟨rfl, rfl, rfl, rfl, rfl, rfl⟩
    all_goals repeat' (first | with_reducible exact Below.refl _ _ | with_reducible refine below_set_ ?_ (by simp) _ | with_reducible refine below_alloc_ ?_ _)
  | cons k B =>
    have hMne := hne k (by rw [ht]; simp)
    have HT : Hid (takeX p r = (⟨rmN r.L (hdOr (ofL p r.L k)).n, if (ofL p (rmN r.L (hdOr (ofL p r.L k)).n) k).isEmpty then B else B ++ [k]⟩, [], hdOr (ofL p r.L k), true)) := by show _ = _; unfold takeX; rw [ht]
    have hlt := h.trow
    rw [ht] at hlt
    obtain ⟨tb, tof, tc, e1, htb, hc0, _⟩ := Ins.at hlt (k := 0) (x := k) rfl
    have HTV : Hid (tv = .slice (some ⟨tb, tof, none⟩) (k :: B).length tc) := e1
    rw [e1] at a4 hlt
    have HTC : Hid (∀ j u, (B.map (Value.int .i64))[j]? = some u → w.cell? ⟨tb, tof + 1 + j, none⟩ = some u) := Ins.tailc hlt
    obtain ⟨n1, hn1⟩ : ∃ n1, B.length = n1 := ⟨_, rfl⟩
    have HN1 : Hid (B.length = n1) := hn1
    have hll : (k :: B).length = n1 + 1 := by simp [hn1]
    rw [ht] at htl
    rw [hll] at a4 htl
    have hcap : n1 + 1 ≤ tc ∧ tc ≤ 9223372036854775807 := by
      rcases hlt.form with ⟨h1, _⟩ | ⟨b', off', cap', h1, h2, h3, _⟩
      · simp at h1
      · simp only [Value.slice.injEq] at h1
        obtain ⟨_, _, rfl⟩ := h1
        unfold maxLen at h3
        simp [hn1] at h2
        omega
    rw [Nat.add_zero] at hc0
    have hne2 : tb ≠ b := fun e => h.tne (by rw [e1, e]; rfl)
    have hb1 : b < w.heap.size + 1 := by omega
    have hb2 : b < w.heap.size + 1 + 1 := by omega
    have hl1 : tb < w.heap.size + 1 := by omega
    have hl2 : tb < w.heap.size + 1 + 1 := by omega
    obtain ⟨M', x, hMx⟩ : ∃ M' x, ofL p r.L k = x :: M' := by
      cases hM : ofL p r.L k with
      | nil => exact absurd hM hMne
      | cons x M' => exact ⟨M', x, rfl⟩
    rw [hMx] at HT
    have hxx : hdOr (x :: M') = x := rfl
    rw [hxx] at HT
    have HBLK : Hid (w.heap[b]? = some (.cells #[.int .i64 p.many, .int .i64 p.salt, .int .i64 p.room, v, tv] 75 (0, 0))) := h.blk
    have HOF : Hid (∀ (W : World) (tv1 : Value), RhP W b p v tv1 ⟨r.L, B⟩ → Calls Tryd.prog 131 #[.pointer (some ⟨b, 0, none⟩), .int .i64 k] W fun e w' => ∃ ux cap, e = .returned (.slice ux (M'.length + 1) cap) ∧ OwP W.heap.size W (.slice ux (M'.length + 1) cap) (x :: M') w') := fun W tv1 hW => by
      have := HRB.out.of hW k
      rw [hMx] at this
      exact this
    have hMl : M'.length + 1 ≤ 100000 := by
      have h1 := (ofL_sub p r.L k).length_le
      rw [hMx] at h1
      have h2 := hB.len
      simp at h1
      omega
    clear h hB hne hMne hlt hn1 hll hxx e1 hMx ht
    go_enter Tryd.func129, Tryd.ntmps129
    go_upto_region 4 with (fail)
    go_cut [] (fun wx => ∃ tv1, RhM w b p v tv w.heap.size hd0 ⟨r.L, B⟩ wx v tv1)
    case first =>
      cases B with
      | nil =>
        obtain rfl : n1 = 0 := HN1.out.symm
        by_cases hc1 : tc = 1
        · subst hc1
          go_wp2
          go_meet
          case rel =>
            refine ⟨.slice (some ⟨w.heap.size + 1, 0, none⟩) 0 0, RhM.start H.out (H.out.newT' ?_ (Ot.alloc (Ot.alloc (Ot.setCell (S := (· = b)) (p := ⟨b, 4, none⟩) (Ot.refl _ _) (Or.inl rfl) _) _) _) (iseg_empty (new_block_ (by simp [World.setCell]))) (fun k hk => ?_)) ?_ (fun k hk => ?_)⟩
            · rw [Below.heap_alloc _ _ _ (by simp [World.setCell]; omega), Below.heap_alloc _ _ _ (by simpa [World.setCell] using hb), heap_setCell_here HBLK.out]
              simp
            · simp only [Value.ownBlock, Option.some.injEq] at hk; omega
            · exact (Below.heap_alloc _ _ _ (by simp [World.setCell])).trans (new_block_ (by simp [World.setCell]))
            · simp only [Value.ownBlock, Option.some.injEq] at hk; omega
        · go_wp2
          go_meet
          case rel =>
            refine ⟨.slice (some ⟨w.heap.size + 1, 0, none⟩) 0 0, RhM.start H.out (H.out.newT' ?_ (Ot.alloc (Ot.alloc (Ot.setCell (S := (· = b)) (p := ⟨b, 4, none⟩) (Ot.refl _ _) (Or.inl rfl) _) _) _) (iseg_empty (new_block_ (by simp [World.setCell]))) (fun k hk => ?_)) ?_ (fun k hk => ?_)⟩
            · rw [Below.heap_alloc _ _ _ (by simp [World.setCell]; omega), Below.heap_alloc _ _ _ (by simpa [World.setCell] using hb), heap_setCell_here HBLK.out]
              simp
            · simp only [Value.ownBlock, Option.some.injEq] at hk; omega
            · exact (Below.heap_alloc _ _ _ (by simp [World.setCell])).trans (new_block_ (by simp [World.setCell]))
            · simp only [Value.ownBlock, Option.some.injEq] at hk; omega
      | cons k2 B2 =>
        have hml : 0 < n1 := by rw [← HN1.out]; simp
        have hc1 : ¬ tc = 1 := by omega
        go_wp2_with (at_builtin; refine wpList_append_seg _ rfl (.tmp 23) (.tmp 28) 24 rfl 3 j0 _ 1 8 Tryd.underlying24 gi gz0 gz1 gz2 rfl (by decide) (.slice (some ⟨w.heap.size + 1, 0, none⟩) 0 0) 0 [] rfl (iseg_empty (new_block_ (by simp))) ⟨tb, tof + 1, none⟩ n1 (tc - 1) ((k2 :: B2).map (Value.int .i64)) rfl (by rw [List.length_map, HN1.out]; simp) (fun j u hj => by rw [Addr.add_lit, World.cell?_alloc_lt _ _ _ (by simp; omega), World.cell?_alloc_lt _ _ _ (by exact htb)]; exact HTC.out j u hj) (ints_ones _) hml (by unfold maxLen; omega) (by omega) _ rfl ?_; intro g goff gcap w1 hs1 hg1 ha1 hl1; have hblk1 : w1.heap[b]? = some (.cells #[.int .i64 p.many, .int .i64 p.salt, .int .i64 p.room, v, tv] 75 (0, 0)) := (hg1.block b (by simp; omega) (by simp [Value.ownBlock]; omega)).trans ((Below.heap_alloc _ _ _ (by simp; omega)).trans ((Below.heap_alloc _ _ _ hb).trans HBLK.out)); obtain ⟨⟨q0, q1, q2, q3, q4⟩, r3, r4⟩ := fives hblk1; have hbw := lt_of_block hblk1)
        go_meet
        case rel =>
          have hg2 : w.heap.size + 1 ≤ g := by
            rcases ha1 with h1 | h1
            · simp only [Value.ownBlock, Option.some.injEq] at h1; omega
            · simp at h1; omega
          refine ⟨.slice (some ⟨g, goff, none⟩) n1 gcap, RhM.start H.out (H.out.newT' ?_ (Ot.setCell (S := (· = b)) (p := ⟨b, 4, none⟩) (Ot.grown (row := some (w.heap.size + 1)) (Ot.alloc (Ot.alloc (Ot.refl _ _) _) _) hg1 (fun k e => Or.inr (by simp at e; omega))) (Or.inl rfl) _) (Seg.setCell (p := ⟨b, 4, none⟩) ?_ (by simp [Value.ownBlock]; omega) _) (fun k hk => ?_)) ?_ (fun k hk => ?_)⟩
          · rw [heap_setCell_here hblk1]
            simp
          · rw [List.length_cons] at HN1
            have := HN1.out
            simpa [this] using hs1
          · simp only [Value.ownBlock, Option.some.injEq] at hk; omega
          · show _ = _
            rw [Below.heap_setCell _ _ _ _ (by show w.heap.size ≠ b; omega), hg1.block _ (by simp; omega) (by simp [Value.ownBlock]), Below.heap_alloc _ _ _ (by simp)]
            exact new_block _ _
          · simp only [Value.ownBlock, Option.some.injEq] at hk; omega
    case rest =>
      obtain ⟨tv1, hm⟩ := hcut
      have HM1 : Hid (RhM w b p v tv w.heap.size hd0 ⟨r.L, B⟩ wc v tv1) := hm
      have hbc := hm.o.pos.lt
      clear hm a0 a1 a2 a3 a4 g3 g4 HTC hc0 HBLK HTV
      have HOF1 := HOF.out wc tv1 HM1.out.o.pos
      go_wp2_with (go_at_call 131; fail)
      refine HOF1.mono ?_
      rintro e w2 ⟨ux2, cap2, rfl, ho2⟩
      have HM2 : Hid (RhM w b p v tv w.heap.size hd0 ⟨r.L, B⟩ w2 v tv1) := HM1.out.below ho2.bel
      obtain ⟨b1, off1, cap1, hx1, _⟩ := Seg.some ho2.row (by simp)
      have hx1' : ux2 = some ⟨b1, off1, none⟩ := by simp at hx1; exact hx1.1
      subst hx1'
      have hb12 : b1 < w2.heap.size := Seg.lt ho2.row rfl
      obtain ⟨p0, p1, p2, p3, p4, p5⟩ := Ps.head ho2.row
      have hb2' := HM2.out.o.pos.lt
      have HX0 : Hid (RhM w2 b p v tv1 w2.heap.size x ⟨r.L, B⟩ (w2.alloc (.cells #[.int .i64 x.a, .int .i64 x.l, .int .i64 x.f, .int .i64 x.b, .int .i64 x.m, .int .i64 x.n] 99)) v tv1) := RhM.al HM2.out.o.pos x
      have HOU := rout_any x _ HX0.out.o.pos (by have := HRB.out.len; show r.L.length ≤ _; omega)
      rw [Hd.val_eq x] at HOU
      clear ho2 HOF1 HM1 hx1
      go_wp2_with (go_at_call 132; fail)
      refine HOU.mono ?_
      rintro e w3 ⟨rfl, v3, hp3, hn3, ho3⟩
      have HX3 : Hid (RhM w2 b p v tv1 w2.heap.size x ⟨rmN r.L x.n, B⟩ w3 v3 tv1) := HX0.out.step (RhO.of_out hp3 hn3 ho3)
      have HM3 : Hid (RhM w b p v tv w.heap.size hd0 ⟨rmN r.L x.n, B⟩ w3 v3 tv1) := HM2.out.step HX3.out.o
      have HRB3 : Hid (RhB p (rmN r.L x.n)) := ⟨HRB.out.m0, HRB.out.m1, HRB.out.s0, HRB.out.s1, Nat.le_trans (rmN_sub _ _).length_le HRB.out.len, fun y hy => HRB.out.flow y ((rmN_sub _ _).subset hy)⟩
      clear hp3 hn3 ho3 HOU HX0 p0 p1 p2 p3 p4 p5
      have HOF2 := HRB3.out.of HX3.out.o.pos k
      have hb3 := HX3.out.o.pos.lt
      obtain ⟨⟨y0, y1, y2, y3, y4, y5⟩, _⟩ := six HX3.out.box
      have hl3 : w2.heap.size < w3.heap.size := lt_of_block HX3.out.box
      go_wp2_with (go_at_call 131; fail)
      refine HOF2.mono ?_
      rintro e w4 ⟨ux4, cap4, rfl, ho4⟩
      have HX4 : Hid (RhM w2 b p v tv1 w2.heap.size x ⟨rmN r.L x.n, B⟩ w4 v3 tv1) := HX3.out.below ho4.bel
      have HM4 : Hid (RhM w b p v tv w.heap.size hd0 ⟨rmN r.L x.n, B⟩ w4 v3 tv1) := HM3.out.below ho4.bel
      clear ho4 HOF2 HX3 HM3 y0 y1 y2 y3 y4 y5 hl3 hb3
      obtain ⟨⟨a0, a1, a2, a3, a4⟩, g3, g4⟩ := HX4.out.o.pos.cells
      have hb4 := HX4.out.o.pos.lt
      obtain ⟨L2, hL2⟩ : ∃ L2, ofL p (rmN r.L x.n) k = L2 := ⟨_, rfl⟩
      rw [hL2] at HT ⊢
      clear hL2
      go_upto_if 44 with (fail)
      go_cut [] (fun wx => ∃ tv5, RhM w2 b p v tv1 w2.heap.size x ⟨rmN r.L x.n, if L2.isEmpty then B else B ++ [k]⟩ wx v3 tv5 ∧ RhM w b p v tv w.heap.size hd0 ⟨rmN r.L x.n, if L2.isEmpty then B else B ++ [k]⟩ wx v3 tv5)
      case first =>
        cases L2 with
        | nil =>
          go_wp2
          go_meet
          case rel => exact ⟨_, HX4.out, HM4.out⟩
        | cons z L2 =>
          have o1 : 0 < (z :: L2).length := by simp
          have o2 : decide (0 < (z :: L2).length) = true := decide_eq_true o1
          have o3 : decide ((0 : Int) < ((z :: L2).length : Int)) = true := by simp
          generalize (z :: L2).length = zl at *
          have HRW : Hid (Ins w4 tv1 B) := HX4.out.o.pos.trow
          have hBl : B.length ≤ 100000 := by rw [HN1.out]; omega
          go_wp2_with (at_builtin; refine wpList_append_seg _ rfl (.tmp 49) (.tmp 51) 24 rfl 3 j0 _ 1 8 Tryd.underlying24 gi gz0 gz1 gz2 rfl (by decide) tv1 B.length (B.map (Value.int .i64)) rfl (Seg.alloc HRW.out _) ⟨w4.heap.size, 0, none⟩ 1 1 [.int .i64 k] rfl rfl (news_of (new_block_ rfl)) (by simp [Value.oneCell']) (by decide) (by unfold maxLen; omega) (by omega) _ rfl ?_; intro g off cp w8 hs8 hg8 ha8 hl8; have hblk8 := HX4.out.o.pos.mid (below_alloc_ (Below.refl _ _) _) hg8 HX4.out.o.pos.tne; obtain ⟨⟨q0, q1, q2, q3, q4⟩, r3, r4⟩ := fives hblk8; have hb8 := lt_of_block hblk8)
          go_meet
          case rel =>
            have hps := HX4.out.o.pos.pushT (below_alloc_ (Below.refl _ _) _) hg8 (show Ins w8 _ (B ++ [k]) from by unfold Ins; simpa using hs8) ha8
            exact ⟨_, HX4.out.step hps, HM4.out.step hps⟩
      case rest =>
        obtain ⟨tv5, hx5, hm5⟩ := hcut
        have HM5 : Hid (RhM w b p v tv w.heap.size hd0 ⟨rmN r.L x.n, if L2.isEmpty then B else B ++ [k]⟩ wc v3 tv5) := hm5
        obtain ⟨⟨y0, y1, y2, y3, y4, y5⟩, _⟩ := six hx5.box
        have hl5 : w2.heap.size < wc.heap.size := lt_of_block hx5.box
        have hzb := hm5.box
        unfold BxP at hzb
        obtain ⟨⟨z0, z1, z2, z3, z4, z5⟩, t0, t1, t2, t3, t4, t5⟩ := six hzb
        have hlz : w.heap.size < wc.heap.size := lt_of_block hzb
        have HZB : Hid (BxP wc w.heap.size hd0) := hm5.box
        clear hx5 hm5 hzb a0 a1 a2 a3 a4 g3 g4
        go_wp2
        (try simp only [Exit.inBlock, Exit.then])
        rw [HT.out]
        refine bodyPost_ret (v := .tuple #[x.val, .slice none 0 0, .bool true]) ?_ rfl ⟨rfl, _, _, HM5.out.result _ _ _ _ _ _⟩
        rw [results_cell_tmp2 rfl]
        have hld := load_pack (x := x) (six_set (w := wc) HZB.out (.int .i64 x.a) (.int .i64 x.l) (.int .i64 x.f) (.int .i64 x.b) (.int .i64 x.m) (.int .i64 x.n))
        simp [asAddr, Result.andThen, hld]
end Go.Proofs.YtejomfmbhifeaaaDoor
