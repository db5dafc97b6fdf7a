/-
  early.Red: what Put does. Conditions: the queue lies in memory; numbers within bounds; few packets.
-/
import Derived.Test.YtejomfmbhifeaaaDoorRd2
namespace Go.Proofs.YtejomfmbhifeaaaDoor
open Go.RowKit Go.Extern.Stop Go.Stop Go.Extern

/-- The mean goes on. -/
def sumR (q : RSet) (s : RdS) : RdS := { s with sum := s.sum + (sumL s.L - meanR q s.sum) }
def marked (x : Hd) : Hd := { x with m := 255 }
/-- What Put leaves, and what it throws away. -/
def putR (P R : Int) (q : RSet) (s : RdS) (x : Hd) : RdS × List Hd :=
  if (hitR q (sumR q s)).1 then
    if q.mrk then ({ (hitR q (sumR q s)).2 with L := (putF P R false s.L (marked x)).2 }, (putF P R false s.L (marked x)).1)
    else ((hitR q (sumR q s)).2, [x])
  else ({ (hitR q (sumR q s)).2 with L := (putF P R false s.L x).2 }, (putF P R false s.L x).1)
theorem decR_L (q : RSet) (s : RdS) (m : Int) : (decR q s m).2.L = s.L ∧ (decR q s m).2.sum = s.sum ∧ s.since ≤ (decR q s m).2.since ∧ (decR q s m).2.since ≤ s.since + 1 := by
  unfold decR
  split
  · exact ⟨rfl, rfl, Int.le_refl _, by show s.since ≤ s.since + 1; omega⟩
  · exact ⟨rfl, rfl, by show s.since ≤ s.since + 1; omega, Int.le_refl _⟩
theorem hitR_L (q : RSet) (s : RdS) (h : 0 ≤ s.since) : (hitR q s).2.L = s.L ∧ (hitR q s).2.sum = s.sum ∧ 0 ≤ (hitR q s).2.since ∧ (hitR q s).2.since ≤ s.since + 1 := by
  obtain ⟨h1, h2, h3, h4⟩ := decR_L q s (meanR q s.sum)
  unfold hitR
  split
  · exact ⟨rfl, rfl, Int.le_refl _, by show (0 : Int) ≤ _; omega⟩
  · split
    · exact ⟨rfl, rfl, Int.le_refl _, by show (0 : Int) ≤ _; omega⟩
    · show (if _ then _ else _ : RdS).L = _ ∧ _
      split
      · exact ⟨h1, h2, Int.le_refl _, by show (0 : Int) ≤ _; omega⟩
      · exact ⟨h1, h2, Int.le_trans h h3, h4⟩
theorem RedP.below {w w' : World} {b : Nat} {P R : Int} {q : RSet} {v tv : Value} {s : RdS} (h : RedP w b P R q v tv s) (hb : Below w.heap.size w w') : RedP w' b P R q v tv s := h.kept (hb.block b (LAt.lt h.pos)) (fun k hk => hb.block k (h.pos.row.lt hk)) (fun k hk => hb.block k (Seg.lt h.tape hk))
theorem red_after {w2 w' : World} {b : Nat} {P R : Int} {q : RSet} {v v' tv : Value} {s : RdS} {L' : List Hd} (hr : RedP w2 b P R q v tv s) (hl : LAt w' b 83 (frest P R false (rmore q tv s)) v' L') (hk : ∀ k, v'.ownBlock = some k → v.ownBlock = some k ∨ w2.heap.size ≤ k) (ho : Ot (fun k => k = b ∨ v.ownBlock = some k) w2 w') : RedP w' b P R q v' tv { s with L := L' } := by
  refine ⟨hl, Seg.oth hr.tape ho (fun k hk' h => ?_), hr.tb, fun k hk' e => ?_⟩
  · rcases h with rfl | h
    · exact hr.tb hk'
    · exact hr.tvv k hk' h
  · rcases hk k e with h | h
    · exact hr.tvv k hk' h
    · have := Seg.lt hr.tape hk'; omega
set_option maxRecDepth 20000 in
set_option maxHeartbeats 2000000 in
theorem rput_any {b : Nat} {P R : Int} {q : RSet} {v tv : Value} {s : RdS} (now : Int) (x : Hd) (w : World) (h : RedP w b P R q v tv s) (hq : q.Ok) (hF : Fit (s.L ++ [x])) (hP : 0 ≤ P) (hR : 0 ≤ R) (hR1 : R ≤ 1000000) (hc0 : 0 ≤ s.since) (hc1 : s.since ≤ 100000) (h0 : 0 ≤ s.sum) (h1 : s.sum ≤ 1000000000000) :
    Calls Tryd.prog 72 #[.pointer (some ⟨b, 0, none⟩), .int .i64 now, x.val] w fun e w' => ∃ u v' tv', e = .returned u ∧ Hs w' u (putR P R q s x).2 ∧ RedP w' b P R q v' tv' (putR P R q s x).1 ∧ (∀ k, v'.ownBlock = some k → v.ownBlock = some k ∨ w.heap.size ≤ k) ∧ tv'.ownBlock = tv.ownBlock ∧ (∀ k, u.ownBlock = some k → w.heap.size ≤ k) ∧ Ot (fun k => k = b ∨ v.ownBlock = some k) w w' := by
  have H : Hid (RedP w b P R q v tv s) := h
  have hb := LAt.lt h.pos
  have hV := Hd.val_eq
  have HA : Hid (∀ (o : Obj) (n : Nat), RedP ((w.alloc o).drewN n) b P R q v tv s) := fun o n => (h.below (below_alloc_ (Below.refl _ _) _)).drewN n
  obtain ⟨⟨c5, c6, c7, c8, c9, c10, c11, c12⟩, f10, f11, f12⟩ := h.pos.cells
  have hsl := Fit.sum hF.pref.2
  have hfl := hF.1
  obtain ⟨sl, hsl'⟩ : ∃ sl, sumL s.L = sl := ⟨_, rfl⟩
  have hmb := meanR_bd q h0
  obtain ⟨m, hm⟩ : ∃ m, meanR q s.sum = m := ⟨_, rfl⟩
  rw [hm] at hmb
  have hsl2 : 0 ≤ sl ∧ sl ≤ 10000000000 := by rw [hsl'] at hsl; simp at hfl; omega
  have HSM : Hid (sumR q s = { s with sum := s.sum + (sl - m) }) := by show _ = _; rw [sumR, hsl', hm]
  have HBY : Hid (∀ W : World, RedP W b P R q v tv s → Calls Tryd.prog 70 #[.pointer (some ⟨b, 0, none⟩)] W fun e w' => e = .returned (.int .i64 sl) ∧ w' = W) := fun W hW => by
    have := bytes_any W hW.pos
    rw [hsl'] at this
    exact this
  have HME : Hid (∀ W : World, RedP W b P R q v tv s → Calls Tryd.prog 12 #[.pointer (some ⟨b, 0, none⟩)] W fun e w' => e = .returned (.int .i64 m) ∧ ∃ n, w' = W.drewN n) := fun W hW => by
    have := mean_any W hW.pos hq
    rw [hm] at this
    exact this
  have hwA : IntKind.i64.wrap (sl - m) = sl - m := by rw [IntKind.wrap_i64]; omega
  have hwB : IntKind.i64.wrap (s.sum + (sl - m)) = s.sum + (sl - m) := by rw [IntKind.wrap_i64]; omega
  clear h hsl hsl' hm
  go_enter Tryd.func72, Tryd.ntmps72
  go_upto_region 1 with (fail)
  go_cut [] (fun wc => ∃ n, wc = ((w.alloc (.cells #[.int .i64 x.a, .int .i64 x.l, .int .i64 x.f, .int .i64 x.b, .int .i64 x.m, .int .i64 x.n] 124)).drewN n).setCell ⟨b, 11, none⟩ (.int .i64 (s.sum + (sl - m))))
  case first =>
    go_region_with (first | (go_at_call 70; refine (HBY.out _ (HA.out _ _)).mono ?_; rintro e w1 ⟨rfl, hw1⟩; subst hw1) | (go_at_call 12; refine (HME.out _ (HA.out _ _)).mono ?_; rintro e w1 ⟨rfl, n1, hw1⟩; subst hw1))
    all_goals
      go_wp2
      go_meet
      case rel => exact ⟨_, rfl⟩
  case rest =>
    obtain ⟨n, rfl⟩ := hcut
    have HR1 : Hid (RedP (((w.alloc (.cells #[.int .i64 x.a, .int .i64 x.l, .int .i64 x.f, .int .i64 x.b, .int .i64 x.m, .int .i64 x.n] 124)).drewN n).setCell ⟨b, 11, none⟩ (.int .i64 (s.sum + (sl - m)))) b P R q v tv (sumR q s)) := by
      show RedP _ _ _ _ _ _ _ _
      rw [HSM.out]
      exact (HA.out _ n).sum _
    have hbx : (((w.alloc (.cells #[.int .i64 x.a, .int .i64 x.l, .int .i64 x.f, .int .i64 x.b, .int .i64 x.m, .int .i64 x.n] 124)).drewN n).setCell ⟨b, 11, none⟩ (.int .i64 (s.sum + (sl - m)))).heap[w.heap.size]? = some (.cells #[.int .i64 x.a, .int .i64 x.l, .int .i64 x.f, .int .i64 x.b, .int .i64 x.m, .int .i64 x.n] 124 (0, 0)) := heap_other (by omega) (heap_drew (new_block w _))
    have HO1 : Hid (Ot (· = b) w (((w.alloc (.cells #[.int .i64 x.a, .int .i64 x.l, .int .i64 x.f, .int .i64 x.b, .int .i64 x.m, .int .i64 x.n] 124)).drewN n).setCell ⟨b, 11, none⟩ (.int .i64 (s.sum + (sl - m))))) := Ot.setCell (S := (· = b)) (Ot.drewN (Ot.alloc (Ot.refl _ _) _) _) (Or.inl rfl) _
    have HBX : Hid ((((w.alloc (.cells #[.int .i64 x.a, .int .i64 x.l, .int .i64 x.f, .int .i64 x.b, .int .i64 x.m, .int .i64 x.n] 124)).drewN n).setCell ⟨b, 11, none⟩ (.int .i64 (s.sum + (sl - m)))).heap[w.heap.size]? = some (.cells #[.int .i64 x.a, .int .i64 x.l, .int .i64 x.f, .int .i64 x.b, .int .i64 x.m, .int .i64 x.n] 124 (0, 0))) := hbx
    have HHI := hits_any _ HR1.out hq (by show 0 ≤ s.since; exact hc0) (by show s.since ≤ _; exact hc1)
    obtain ⟨e1, e2, e3, e4⟩ := hitR_L q (sumR q s) hc0
    have HEL : Hid ((hitR q (sumR q s)).2.L = s.L) := e1
    obtain ⟨hh, hhe⟩ : ∃ hh, hitR q (sumR q s) = hh := ⟨_, rfl⟩
    have HPR : Hid (putR P R q s x = if hh.1 then if q.mrk then ({ hh.2 with L := (putF P R false s.L (marked x)).2 }, (putF P R false s.L (marked x)).1) else (hh.2, [x]) else ({ hh.2 with L := (putF P R false s.L x).2 }, (putF P R false s.L x).1)) := by show _ = _; rw [← hhe]; rfl
    rw [hhe] at HHI HEL
    obtain ⟨hit, s2⟩ := hh
    clear e1 e2 e3 e4 hhe hbx
    have HSZ : Hid (w.heap.size < (((w.alloc (.cells #[.int .i64 x.a, .int .i64 x.l, .int .i64 x.f, .int .i64 x.b, .int .i64 x.m, .int .i64 x.n] 124)).drewN n).setCell ⟨b, 11, none⟩ (.int .i64 (s.sum + (sl - m)))).heap.size) := lt_of_block HBX.out
    go_wp2_with (go_at_call 76; fail)
    refine HHI.mono ?_
    rintro e w2 ⟨rfl, tv2, hr2, hk2, ho2⟩
    have hbx2 : w2.heap[w.heap.size]? = some (.cells #[.int .i64 x.a, .int .i64 x.l, .int .i64 x.f, .int .i64 x.b, .int .i64 x.m, .int .i64 x.n] 124 (0, 0)) := by rw [ho2.block _ HSZ.out (by omega)]; exact HBX.out
    have HO2 : Hid (Ot (· = b) w w2) := HO1.out.trans ho2
    have HR2 : Hid (RedP w2 b P R q v tv2 s2) := hr2
    obtain ⟨⟨z0, z1, z2, z3, z4, z5⟩, y0, y1, y2, y3, y4, y5⟩ := six hbx2
    obtain ⟨⟨d5, d6, d7, d8, d9, d10, d11, d12⟩, g10, g11, g12⟩ := hr2.pos.cells
    have hb2 := LAt.lt hr2.pos
    have hw2 := lt_of_block hbx2
    clear ho2 hr2 HHI
    have HFP : Hid (∀ (W : World) (tv3 : Value) (s3 : RdS) (y : Hd), RedP W b P R q v tv3 s3 → s3.L = s.L → Fit (s.L ++ [y]) → Calls Tryd.prog 77 #[.pointer (some ⟨b, 0, none⟩), .int .i64 now, y.val] W fun e w' => ∃ u v', e = .returned u ∧ Hs w' u (putF P R false s.L y).1 ∧ RedP w' b P R q v' tv3 { s3 with L := (putF P R false s.L y).2 } ∧ (∀ k, v'.ownBlock = some k → v.ownBlock = some k ∨ W.heap.size ≤ k) ∧ (∀ k, u.ownBlock = some k → W.heap.size ≤ k) ∧ Ot (fun k => k = b ∨ v.ownBlock = some k) W w') := by
      intro W tv3 s3 y hr3 hL3 hF3
      have hp := hr3.pos
      unfold DRed at hp
      rw [hL3] at hp
      refine (fifo_put now y W hp hF3 hP hR hR1).mono ?_
      rintro e w' ⟨u, v', rfl, hu, hl, hk, hn', ho⟩
      exact ⟨u, v', rfl, hu, red_after hr3 hl hk ho, hk, hn', ho⟩
    cases hit with
    | true =>
      cases hmk : q.mrk with
      | false =>
        have hPR : putR P R q s x = (s2, [x]) := by rw [HPR.out, hmk]; rfl
        have HPP : Hid (putR P R q s x = (s2, [x])) := hPR
        clear hPR
        go_wp2
        go_ret
        rw [HPP.out]
        refine ⟨.slice (some ⟨w2.heap.size, 0, none⟩) 1 1, v, tv2, rfl, Hs.one (new_block_ (by simp)), HR2.out.below (below_alloc_ (Below.refl _ _) _), fun k hk => Or.inl hk, hk2, fun k hk => ?_, (HO2.out.mono (fun k _ h => Or.inl h)).alloc _⟩
        simp only [Value.ownBlock, Option.some.injEq] at hk
        subst hk
        exact HO2.out.size
      | true =>
        have hPR : putR P R q s x = ({ s2 with L := (putF P R false s.L (marked x)).2 }, (putF P R false s.L (marked x)).1) := by rw [HPR.out, hmk]; rfl
        have HPP : Hid (putR P R q s x = ({ s2 with L := (putF P R false s.L (marked x)).2 }, (putF P R false s.L (marked x)).1)) := hPR
        clear hPR
        have HFT : Hid (Fit (s.L ++ [marked x])) := ⟨by simpa using hF.1, fun y hy => by
          rcases List.mem_append.1 hy with h | h
          · exact hF.2 y (List.mem_append_left _ h)
          · simp at h; subst h; exact hF.2 x (by simp)⟩
        have HR3 : Hid (∀ n', RedP ((w2.setCell ⟨w.heap.size, 4, none⟩ (.int .i64 255)).drewN n') b P R q v tv2 s2) := fun n' => (HR2.out.kept (heap_other (b := w.heap.size) (by omega) rfl) (fun k hk => heap_other (b := w.heap.size) (by have := H.out.pos.row.lt hk; omega) rfl) (fun k hk => heap_other (b := w.heap.size) (by have := Seg.lt H.out.tape (by rw [← hk2, hk]); omega) rfl)).drewN n'
        have HVM : Hid ((marked x).val = .agg #[.int .i64 x.a, .int .i64 x.l, .int .i64 x.f, .int .i64 x.b, .int .i64 255, .int .i64 x.n]) := Hd.val_eq (marked x)
        go_wp2
        go_region_with (go_at_call 77; refine (HFP.out _ tv2 s2 (marked x) (HR3.out 1) HEL.out HFT.out).mono ?_; rintro e w4 ⟨u4, v4, rfl, hu4, hl4, hk4, hn4, ho4⟩)
        all_goals
          go_wp2
          go_ret
          rw [HPP.out]
          refine ⟨u4, v4, tv2, rfl, hu4, hl4, fun k hk => ?_, hk2, fun k hk => ?_, ?_⟩
          · rcases hk4 k hk with h | h
            · exact Or.inl h
            · exact Or.inr (by have := HO2.out.size; simp at h; omega)
          · have := hn4 k hk
            have h2 := HO2.out.size
            simp at this
            omega
          · exact Ot.trans (S := fun k => k = b ∨ v.ownBlock = some k) (show Ot _ w _ from by
              have hO := HO2.out.mono (T := fun k => k = b ∨ v.ownBlock = some k) (fun k _ h => Or.inl h)
              repeat' (first | with_reducible exact hO | with_reducible refine Ot.drewN ?_ _ | with_reducible refine Ot.setCell ?_ (by simp) _)) ho4
    | false =>
      have hPR : putR P R q s x = ({ s2 with L := (putF P R false s.L x).2 }, (putF P R false s.L x).1) := by rw [HPR.out]; rfl
      have HPP : Hid (putR P R q s x = ({ s2 with L := (putF P R false s.L x).2 }, (putF P R false s.L x).1)) := hPR
      clear hPR
      have HR3 : Hid (∀ n', RedP (w2.drewN n') b P R q v tv2 s2) := fun n' => HR2.out.drewN n'
      go_wp2
      go_region_with (go_at_call 77; refine (HFP.out _ tv2 s2 x (HR3.out 1) HEL.out hF).mono ?_; rintro e w4 ⟨u4, v4, rfl, hu4, hl4, hk4, hn4, ho4⟩)
      all_goals
        go_wp2
        go_ret
        rw [HPP.out]
        refine ⟨u4, v4, tv2, rfl, hu4, hl4, fun k hk => ?_, hk2, fun k hk => ?_, ?_⟩
        · rcases hk4 k hk with h | h
          · exact Or.inl h
          · exact Or.inr (by have := HO2.out.size; simp at h; omega)
        · have := hn4 k hk
          have h2 := HO2.out.size
          simp at this
          omega
        · exact Ot.trans (S := fun k => k = b ∨ v.ownBlock = some k) (show Ot _ w _ from by
            have hO := HO2.out.mono (T := fun k => k = b ∨ v.ownBlock = some k) (fun k _ h => Or.inl h)
            repeat' (first | with_reducible exact hO | with_reducible refine Ot.drewN ?_ _ | with_reducible refine Ot.setCell ?_ (by simp) _)) ho4
end Go.Proofs.YtejomfmbhifeaaaDoor
