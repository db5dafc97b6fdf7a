/-
  millraceref.Fifo: what Put returns where the first ones are thrown away, and what it leaves; and the reference's Fifo as a queue: its model. Conditions: the list lies in memory; few packets, none of them long; room from 0 on.
-/
import Derived.Test.YtefflbibacmboaaDoorRw
namespace Go.Proofs.YtefflbibacmboaaDoor
open Go.RowKit Go.Extern.Stop Go.Stop Go.Extern

theorem below_drewN_ {b : Nat} {a w : World} (h : Below b a w) (n : Nat) : Below b a (w.drewN n) := ⟨h.os, h.tape, h.output, h.size, h.block⟩
theorem rcut_next {P R : Int} {L : List Hd} {w : World} {b : Nat} {T : TypeId} {more : List Value} {v : Value} {X Y' : List Hd} {y : Hd} {u v' u' v'' : Value} {wr wc w2 w5 : World} {o : Obj} (h : RCut P R L w b T more v X (y :: Y') u v' wr) (ho : over P R (y :: Y') = true) (hb : b < w.heap.size) (hbc : Below wr.heap.size wr wc)
    (hg : (wc.alloc o).grownBy w2 u.ownBlock) (hu : Ps w2 u' (X ++ [y])) (ha : ∀ k, u'.ownBlock = some k → u.ownBlock = some k ∨ wc.heap.size ≤ k) (hblk : w5.heap[b]? = some (.cells (.int .i64 P :: .int .i64 R :: .bool true :: v'' :: more).toArray T (0, 0))) (hp : Ps w5 v'' Y') (hn : ∀ k, v''.ownBlock = some k → w2.heap.size ≤ k) (hot : Ot (· = b) w2 w5) : RCut P R L w b T more v (X ++ [y]) Y' u' v'' w5 := by
  have h1 := h.ot.size
  have h2 := hbc.size
  have h3 : wc.heap.size < w2.heap.size := by have := hg.size; simp at this; omega
  have hnew : ∀ k, u'.ownBlock = some k → w.heap.size ≤ k := fun k hk => by
    rcases ha k hk with h' | h'
    · exact h.new k h'
    · omega
  refine ⟨by rw [h.parts]; simp, by rw [h.cut, cutL_yes ho]; simp, ⟨hblk, hp, fun e => by have := hn b e; omega⟩, Seg.oth hu hot (fun k hk e => by have := hnew k hk; omega), fun k hk => Or.inr (by have := hn k hk; omega), hnew, fun k hk e => ?_, ?_⟩
  · have := hn k e
    have := Seg.lt hu hk
    omega
  · refine ((h.ot.then_below (hbc.mono h1)).alloc o).grown hg (fun k e => Or.inr (h.new k e)) |>.trans' hot (fun k e _ => Or.inl e)
theorem RCut.mid {P R : Int} {L : List Hd} {w : World} {b : Nat} {T : TypeId} {more : List Value} {v : Value} {X Y : List Hd} {u v' : Value} {wr wc w2 : World} {o : Obj} (h : RCut P R L w b T more v X Y u v' wr) (hb : b < w.heap.size) (hbc : Below wr.heap.size wr wc) (hg : (wc.alloc o).grownBy w2 u.ownBlock) : RAt w2 b T P R true more v' Y :=
  ((h.list.below hbc).below (below_alloc_ (Below.refl _ _) o)).kept (hg.block b (by have := (h.list.below hbc).lt; simp; omega) (fun e => by have := h.new b e.symm; omega)) (fun k hk => hg.block k (by have := Seg.lt (h.list.below hbc).row hk; simp; omega) (fun e => h.apart k e.symm hk))
set_option maxRecDepth 20000 in
set_option maxHeartbeats 4000000 in
theorem rfifo_put_head {b : Nat} {T : TypeId} {P R : Int} {more : List Value} {v : Value} {L : List Hd} (now : Int) (x : Hd) (w : World) (h : RAt w b T P R true more v L) (hF : Fit (L ++ [x])) (hP : 0 ≤ P) (hR : 0 ≤ R) :
    Calls Tryd.prog 88 #[.pointer (some ⟨b, 0, none⟩), .int .i64 now, x.val] w fun e w' => ∃ u v', e = .returned u ∧ RPut w b T P R true more v (cutL P R (L ++ [x])).2 (cutL P R (L ++ [x])).1 w' v' u := by
  have H : Hid (RAt w b T P R true more v L) := h
  have hb := h.lt
  obtain ⟨c0, c1, c2, c3, f3⟩ := h.cells
  have hV := Hd.val_eq
  obtain ⟨i0, hi, hz0, hz1, hz2⟩ := info_parts infoPack
  obtain ⟨xa, cap, hv, _⟩ := h.row.shape
  have hln : L.length + 1 ≤ 1000000 := by have := hF.1; simpa using this
  obtain ⟨n, hn⟩ : ∃ n, L.length = n := ⟨_, rfl⟩
  have HN : Hid (L.length = n) := hn
  rw [hn] at hv hln
  have HV : Hid (v = .slice xa n cap) := hv
  rw [hv] at c3
  have HROW : Hid (Seg w 99 6 (.slice xa n cap) n (flt Hd.cs L)) := by
    have h1 := H.out.row
    unfold Ps at h1
    rw [HV.out, HN.out] at h1
    exact h1
  clear h hn hv
  rw [Hd.val_eq]
  go_enter Tryd.func88, Tryd.ntmps88
  go_wp2
  go_cut [] (fun wx => ∃ v', RPut w b T P R true more v (L ++ [x]) [] wx v' (.slice none 0 0))
  case first =>
    go_region_law (refine step_append_seg _ (by rfl) (.tmp 16) (.tmp 18) 36 (by rfl) 99 i0 _ 6 48 Tryd.underlying36 hi hz0 hz1 hz2 rfl (by decide) _ _ _ (by rfl) (HROW.out.below (by repeat' (first | with_reducible exact Below.refl _ _ | with_reducible refine Below.drew ?_ | with_reducible refine below_alloc_ ?_ _))) ⟨w.heap.size + 1, 0, none⟩ 1 1 x.cs (by rfl) rfl (news_of (new_block_ (by simp))) x.one (by decide) (by unfold maxLen; omega) (by omega) _ rfl ?_; intro g off cp w1 hs1 hg1 ha1 hl1; have hg2 := hg1; rw [← HV.out] at hg2 ha1; have hbx := (by repeat' (first | with_reducible exact Below.refl _ _ | with_reducible refine Below.drew ?_ | with_reducible refine below_alloc_ ?_ _) : Below (w.alloc (.cells #[.int .i64 x.a, .int .i64 x.l, .int .i64 x.f, .int .i64 x.b, .int .i64 x.m, .int .i64 x.n] 99)).heap.size (w.alloc (.cells #[.int .i64 x.a, .int .i64 x.l, .int .i64 x.f, .int .i64 x.b, .int .i64 x.m, .int .i64 x.n] 99)) (World.drew ((w.alloc (.cells #[.int .i64 x.a, .int .i64 x.l, .int .i64 x.f, .int .i64 x.b, .int .i64 x.m, .int .i64 x.n] 99)).alloc (.cells x.cs.toArray 99)))); obtain ⟨m0, m1, m2⟩ := put_mid H.out hbx hg2; obtain ⟨d0, d3⟩ := r_cells m0; have hbs : b < w1.heap.size := by omega)
    all_goals
      go_wp2
      go_meet
      case rel =>
        have hs2 : Seg w1 99 6 (.slice (some ⟨g, off, none⟩) (L.length + 1) cp) (L.length + 1) (flt Hd.cs L ++ x.cs) := by rw [HN.out]; exact hs1
        have h1 := put_grown H.out hbx hg2 hs2 ha1
        rw [HN.out] at h1
        exact ⟨_, h1⟩
  case rest =>
  obtain ⟨v1, hp1⟩ := hcut
  have HP1 : Hid (RPut w b T P R true more v (L ++ [x]) [] wc v1 (.slice none 0 0)) := hp1
  clear hp1
  go_wp2_with fail
  go_loopw [7] (fun u wr => ∃ X Y v', RCut P R (L ++ [x]) w b T more v X Y u v' wr) (fun u _ => (n + 1) - lenOf u)
  case atStart => exact ⟨[], L ++ [x], v1, rfl, rfl, HP1.out.list, Ps.nil _, HP1.out.own, fun k hk => by simp [Value.ownBlock] at hk, fun k hk => by simp [Value.ownBlock] at hk, HP1.out.ot⟩
  case round =>
    obtain ⟨X, Y, v', hr⟩ := hrel
    have HR : Hid (RCut P R (L ++ [x]) w b T more v X Y u7 v' wr) := hr
    have hFY : Fit Y := (hr.parts ▸ hF).suff
    obtain ⟨ya, ycap, hy, hyc⟩ := hr.list.row.shape
    obtain ⟨e0, e1, e2, e3, g3⟩ := hr.list.cells
    have hbr := hr.list.lt
    obtain ⟨ny, hny⟩ : ∃ ny, Y.length = ny := ⟨_, rfl⟩
    have HNY : Hid (Y.length = ny) := hny
    rw [hny] at hy hyc
    have HY : Hid (v' = .slice ya ny ycap) := hy
    rw [hy] at e3
    obtain ⟨sm, hsm⟩ : ∃ sm, sumL Y = sm := ⟨_, rfl⟩
    have HSM : Hid (sumL Y = sm) := hsm
    have HFY : Hid (Fit Y) := hFY
    have hny1 : ny ≤ 1000000 := by rw [← hny]; exact hFY.1
    clear hr hny hy hsm hFY
    have HOV : Hid (over P R Y = (decide (P < (ny : Int)) || decide (R < sm))) := by show _ = _; unfold over; rw [HNY.out, HSM.out]
    go_upto_region 4 with (fail)
    go_cut [43] (fun b wx => b = .bool (over P R Y) ∧ Below wr.heap.size wr wx)
    case first =>
      cases o1 : decide (P < (ny : Int)) with
      | true =>
        go_wp2
        go_quiet (fail)
        go_wp2
        go_meet
        case rel => exact ⟨by rw [HOV.out, o1]; rfl, below_drewN_ (Below.refl _ _) _⟩
      | false =>
        have HBY : Hid (∀ W : World, Below wr.heap.size wr W → Calls Tryd.prog 33 #[.slice ya ny ycap] W fun e w' => e = .returned (.int .i64 sm) ∧ Below W.heap.size W w') := by
          intro W hW
          have h1 := rbytes_any W (Ps.below HR.out.list.row hW) HFY.out
          rw [HY.out, HSM.out] at h1
          exact h1
        have HSS : Hid (∀ W : World, Below wr.heap.size wr W → W.cell? ⟨b, 3, none⟩ = some (.slice ya ny ycap) ∧ W.cell? ⟨b, 0, none⟩ = some (.int .i64 P) ∧ W.cell? ⟨b, 1, none⟩ = some (.int .i64 R)) := by
          intro W hW
          obtain ⟨k0, k1, _, k3, _⟩ := (HR.out.list.below hW).cells
          exact ⟨by rw [← HY.out]; exact k3, k0, k1⟩
        go_wp2
        go_region_held3 (fun W => W.cell? ⟨b, 3, none⟩ = some (.slice ya ny ycap) ∧ W.cell? ⟨b, 0, none⟩ = some (.int .i64 P) ∧ W.cell? ⟨b, 1, none⟩ = some (.int .i64 R)) ((refine HSS.out _ ?_; first | exact (Below.refl _ _).drew | assumption | exact Below.refl _ _)) ((go_at_call 33; refine (HBY.out _ (by first | exact (Below.refl _ _).drew | assumption | exact Below.refl _ _)).mono ?_; rintro e w' ⟨rfl, hbb⟩; have hbq : Below wr.heap.size wr w' := Below.trans (b := World.drew _) (Below.refl _ _).drew hbb))
        go_wp2
        go_meet
        case rel => exact ⟨by rw [HOV.out, o1, Bool.false_or], hbq⟩
    case rest =>
    obtain ⟨rfl, hbc⟩ := hcut
    cases ho : over P R Y with
    | false =>
      have HO : Hid (over P R Y = false) := ho
      clear ho
      go_wp2
      go_ret
      have hr := HR.out
      have hc : cutL P R (L ++ [x]) = (X, Y) := by rw [hr.cut, cutL_no HO.out]; simp
      rw [hc]
      exact ⟨u7, v', rfl, hr.list.below hbc, hr.lost.below hbc, hr.own, hr.new, hr.ot.then_below (hbc.mono hr.ot.size)⟩
    | true =>
      have HO : Hid (over P R Y = true) := ho
      clear ho
      obtain ⟨y, Y', rfl⟩ : ∃ y Y', Y = y :: Y' := by
        cases Y with
        | nil => have := HO.out; rw [over_nil hP hR] at this; cases this
        | cons y Y' => exact ⟨y, Y', rfl⟩
      obtain ⟨n1, hn1⟩ : ∃ n1, Y'.length = n1 := ⟨_, rfl⟩
      have HN1 : Hid (Y'.length = n1) := hn1
      have hnn : ny = n1 + 1 := by rw [← HNY.out, ← hn1]; rfl
      subst hnn
      clear hn1
      have hRc := HR.out.list.below hbc
      obtain ⟨b1, o1, c1', hyy, _, hcm, hl0, _⟩ := hRc.row.some (by simp)
      have hyy' : ya = some ⟨b1, o1, none⟩ ∧ ycap = c1' := by
        have := HY.out
        rw [hyy] at this
        simp at this
        exact ⟨this.1.symm, this.2.2.symm⟩
      obtain ⟨rfl, rfl⟩ := hyy'
      have hyy2 : v' = .slice (some ⟨b1, o1, none⟩) (n1 + 1) ycap := HY.out
      obtain ⟨k0, k1, k2, k3, k4, k5⟩ := Ps.head (by have := hRc.row; rw [hyy2] at this; exact this)
      obtain ⟨p0, p1, p2, p3, q3⟩ := hRc.cells
      rw [hyy2] at p3
      have hbw := hRc.lt
      obtain ⟨na, hna⟩ : ∃ na, X.length = na := ⟨_, rfl⟩
      have HNA : Hid (X.length = na) := hna
      have hna1 : na + 1 ≤ 1000000 := by have := hF.1; rw [HR.out.parts] at this; simp [hna] at this; omega
      have HLO : Hid (Seg wc 99 6 u7 na (flt Hd.cs X)) := by have := HR.out.lost.below hbc; unfold Ps at this; rw [hna] at this; exact this
      have HLEN : Hid (lenOf u7 = na) := by
        obtain ⟨q1, q2, hq, _⟩ := HR.out.lost.shape
        show _ = _
        rw [hq, hna]; rfl
      have HPL : Hid (n + 1 = na + (n1 + 1)) := by
        have := congrArg List.length HR.out.parts
        simp [HN.out, hna, HN1.out] at this
        show _ = _
        omega
      unfold maxLen at hcm
      clear hna hyy hyy2 p0 p1 p2 q3 hRc e0 e1 e2 e3 g3
      cases Y' with
      | nil =>
        obtain rfl : n1 = 0 := HN1.out.symm
        by_cases hcap : ycap = 1
        · subst hcap
          go_wp2_with (at_builtin; refine wpList_append_seg _ rfl (.tmp 44) (.tmp 51) 36 rfl 99 i0 _ 6 48 Tryd.underlying36 hi hz0 hz1 hz2 rfl (by decide) u7 na (flt Hd.cs X) rfl (Seg.alloc HLO.out _) ⟨wc.heap.size, 0, none⟩ 1 1 y.cs rfl rfl (news_of (new_block_ rfl)) y.one (by decide) (by unfold maxLen; omega) (by omega) _ rfl ?_; intro g goff gcap w2 hs2 hg2 ha2 hl2; have hR2 := HR.out.mid hb hbc hg2; obtain ⟨p0, p1, p2, p3, q3⟩ := hR2.cells; rw [HY.out] at p3; have hb2 := hR2.lt; have hb3 : b < w2.heap.size + 1 := (by omega); have hHS := hR2.row; rw [HY.out] at hHS; have hl1 : b1 < w2.heap.size := Seg.lt hHS rfl)
          (try simp only [Exit.inBlock, Exit.then])
          go_roundw
          case rel =>
            refine ⟨X ++ [y], [], .slice (some ⟨w2.heap.size, 0, none⟩) 0 0, rcut_next HR.out HO.out hb hbc hg2 (Ps.snoc hs2 (by rw [HNA.out])) (fun k hk => ?_) ?_ (pseg_empty ?_) (fun k hk => ?_) ?_⟩
            · simp only [Value.ownBlock, Option.some.injEq] at hk
              subst hk
              rcases ha2 with h | h
              · exact Or.inl h
              · right; simp at h; omega
            · rw [Below.heap_alloc _ _ _ (by simpa [World.setCell] using hb2), heap_setCell_here hR2.blk]
              simp
            · exact new_block_ (by simp [World.setCell])
            · simp only [Value.ownBlock, Option.some.injEq] at hk; omega
            · exact Ot.alloc (Ot.setCell (S := (· = b)) (p := ⟨b, 3, none⟩) (Ot.refl _ _) (Or.inl rfl) _) _
          case measure =>
            show n + 1 - (na + 1) < n + 1 - lenOf u7
            rw [HLEN.out, HPL.out]
            omega
        · go_wp2_with (at_builtin; refine wpList_append_seg _ rfl (.tmp 44) (.tmp 51) 36 rfl 99 i0 _ 6 48 Tryd.underlying36 hi hz0 hz1 hz2 rfl (by decide) u7 na (flt Hd.cs X) rfl (Seg.alloc HLO.out _) ⟨wc.heap.size, 0, none⟩ 1 1 y.cs rfl rfl (news_of (new_block_ rfl)) y.one (by decide) (by unfold maxLen; omega) (by omega) _ rfl ?_; intro g goff gcap w2 hs2 hg2 ha2 hl2; have hR2 := HR.out.mid hb hbc hg2; obtain ⟨p0, p1, p2, p3, q3⟩ := hR2.cells; rw [HY.out] at p3; have hb2 := hR2.lt; have hb3 : b < w2.heap.size + 1 := (by omega); have hHS := hR2.row; rw [HY.out] at hHS; have hl1 : b1 < w2.heap.size := Seg.lt hHS rfl)
          (try simp only [Exit.inBlock, Exit.then])
          go_roundw
          case rel =>
            refine ⟨X ++ [y], [], .slice (some ⟨w2.heap.size, 0, none⟩) 0 0, rcut_next HR.out HO.out hb hbc hg2 (Ps.snoc hs2 (by rw [HNA.out])) (fun k hk => ?_) ?_ (pseg_empty ?_) (fun k hk => ?_) ?_⟩
            · simp only [Value.ownBlock, Option.some.injEq] at hk
              subst hk
              rcases ha2 with h | h
              · exact Or.inl h
              · right; simp at h; omega
            · rw [Below.heap_alloc _ _ _ (by simpa [World.setCell] using hb2), heap_setCell_here hR2.blk]
              simp
            · exact new_block_ (by simp [World.setCell])
            · simp only [Value.ownBlock, Option.some.injEq] at hk; omega
            · exact Ot.alloc (Ot.setCell (S := (· = b)) (p := ⟨b, 3, none⟩) (Ot.refl _ _) (Or.inl rfl) _) _
          case measure =>
            show n + 1 - (na + 1) < n + 1 - lenOf u7
            rw [HLEN.out, HPL.out]
            omega
      | cons y2 Y2 =>
        have hml : 0 < n1 := by rw [← HN1.out]; simp
        have hcap : ¬ ycap = 1 := by omega
        go_wp2_with (first | (at_builtin; refine wpList_append_seg _ rfl (.tmp 44) (.tmp 51) 36 rfl 99 i0 _ 6 48 Tryd.underlying36 hi hz0 hz1 hz2 rfl (by decide) u7 na (flt Hd.cs X) rfl (Seg.alloc HLO.out _) ⟨wc.heap.size, 0, none⟩ 1 1 y.cs rfl rfl (news_of (new_block_ rfl)) y.one (by decide) (by unfold maxLen; omega) (by omega) _ rfl ?_; intro g goff gcap w2 hs2 hg2 ha2 hl2; have hR2 := HR.out.mid hb hbc hg2; obtain ⟨p0, p1, p2, p3, q3⟩ := hR2.cells; rw [HY.out] at p3; have hb2 := hR2.lt; have hb3 : b < w2.heap.size + 1 := (by omega); have hHS := hR2.row; rw [HY.out] at hHS; have hl1 : b1 < w2.heap.size := Seg.lt hHS rfl) | (at_builtin; refine wpList_append_seg _ rfl (.tmp 54) (.tmp 59) 36 rfl 99 i0 _ 6 48 Tryd.underlying36 hi hz0 hz1 hz2 rfl (by decide) (.slice (some ⟨w2.heap.size, 0, none⟩) 0 0) 0 [] rfl (pseg_empty (new_block_ rfl)) ⟨b1, o1 + 6, none⟩ n1 (ycap - 1) (flt Hd.cs (y2 :: Y2)) rfl (by rw [flt_length Hd.cs 6 Hd.len, HN1.out]) (fun j u hj => by rw [Addr.add_lit, World.cell?_alloc_lt _ _ _ (by exact hl1)]; exact hHS.tailc j u hj) (pflt_ones _) hml (by unfold maxLen; omega) (by omega) _ rfl ?_; intro g5 goff5 gcap5 w5 hs5 hg5 ha5 hl5; have hblk5 : w5.heap[b]? = some (.cells (.int .i64 P :: .int .i64 R :: .bool true :: .slice (some ⟨b1, o1, none⟩) (n1 + 1) ycap :: more).toArray T (0, 0)) := (hg5.block b (by simp; omega) (by simp [Value.ownBlock]; omega)).trans ((Below.heap_alloc _ _ _ hb2).trans (by have := hR2.blk; rw [HY.out] at this; exact this)); obtain ⟨t3, s3⟩ := r_cells hblk5; have hb5 := lt_of_block hblk5))
        go_roundw
        case rel =>
          have hg5' : w2.heap.size ≤ g5 := by
            rcases ha5 with h | h
            · simp only [Value.ownBlock, Option.some.injEq] at h; omega
            · simp at h; omega
          have hps5 : Ps w5 (.slice (some ⟨g5, goff5, none⟩) n1 gcap5) (y2 :: Y2) := by
            unfold Ps
            rw [HN1.out]
            simpa using hs5
          refine ⟨X ++ [y], y2 :: Y2, .slice (some ⟨g5, goff5, none⟩) n1 gcap5, rcut_next HR.out HO.out hb hbc hg2 (Ps.snoc hs2 (by rw [HNA.out])) (fun k hk => ?_) ?_ (hps5.setCell (p := ⟨b, 3, none⟩) (by simp [Value.ownBlock]; omega) _) (fun k hk => ?_) ?_⟩
          · simp only [Value.ownBlock, Option.some.injEq] at hk
            subst hk
            rcases ha2 with h | h
            · exact Or.inl h
            · right; simp at h; omega
          · rw [heap_setCell_here hblk5]
            simp
          · simp only [Value.ownBlock, Option.some.injEq] at hk; omega
          · exact Ot.setCell (S := (· = b)) (p := ⟨b, 3, none⟩) (Ot.grown (row := some w2.heap.size) (Ot.alloc (Ot.refl _ _) _) hg5 (fun k e => Or.inr (by simp at e; omega))) (Or.inl rfl) _
        case measure =>
          show n + 1 - (na + 1) < n + 1 - lenOf u7
          rw [HLEN.out, HPL.out]
          omega
/-- Put, either way. -/
theorem rfifo_put {b : Nat} {T : TypeId} {P R : Int} {hd : Bool} {more : List Value} {v : Value} {L : List Hd} (now : Int) (x : Hd) (w : World) (h : RAt w b T P R hd more v L) (hF : Fit (L ++ [x])) (hP : 0 ≤ P) (hR : 0 ≤ R) :
    Calls Tryd.prog 88 #[.pointer (some ⟨b, 0, none⟩), .int .i64 now, x.val] w fun e w' => ∃ u v', e = .returned u ∧ RPut w b T P R hd more v (putF P R hd L x).2 (putF P R hd L x).1 w' v' u := by
  cases hd with
  | true => exact rfifo_put_head now x w h hF hP hR
  | false => exact rfifo_put_tail now x w h hF
end Go.Proofs.YtefflbibacmboaaDoor
