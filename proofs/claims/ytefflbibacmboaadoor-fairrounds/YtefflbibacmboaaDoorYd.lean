/-
  millraceref.Rounds: what Put does. Conditions: few packets; the packet's flow from 0 to 15.
-/
import Derived.Test.YtefflbibacmboaaDoorYc
namespace Go.Proofs.YtefflbibacmboaaDoor
open Go.RowKit Go.Extern.Stop Go.Stop Go.Extern

theorem RrP.mid {w0 w1 W w8 : World} {c : RrC} {v tv : Value} {r : RrS} {row : Option Nat} (h : RrP w0 w1 c v tv r) (hB : Below w1.heap.size w1 W) (hg : W.grownBy w8 row) (hr : row ≠ some c.b) : w8.heap[c.b]? = some (.cells #[.int .i64 c.room, .slice c.px c.m c.pcap, v, tv, .bool r.bg, .map (some c.mb)] 68 (0, 0)) := by
  have hb := h.lt
  have hs := hB.size
  rw [hg.block c.b (by omega) (fun e => hr e.symm), hB.block c.b hb]
  exact h.blk
theorem RrP.pushT {w0 w1 W w8 : World} {c : RrC} {g off n cap : Nat} {v tv : Value} {r : RrS} {tn' : List Int} (h : RrP w0 w1 c v tv r) (hB : Below w1.heap.size w1 W) (hg : W.grownBy w8 tv.ownBlock) (hs : Ins w8 (.slice (some ⟨g, off, none⟩) n cap) tn') (ha : tv.ownBlock = some g ∨ W.heap.size ≤ g) :
    RrO w0 w1 c v tv { r with tn := tn' } (w8.setCell ⟨c.b, 3, none⟩ (.slice (some ⟨g, off, none⟩) n cap)) v (.slice (some ⟨g, off, none⟩) n cap) := by
  have hb := h.lt
  have hm := h.cre.lt
  have hsz := hB.size
  have hblk := h.mid hB hg h.tne
  have hgb : g ≠ c.b := by
    rintro rfl
    rcases ha with h1 | h1
    · exact h.tne h1
    · omega
  have hrow : Ps w8 v r.L := Seg.kept h.row (fun k hk => (hg.block k (by have := Seg.lt h.row hk; omega) (fun e => h.dis k hk e.symm)).trans (hB.block k (Seg.lt h.row hk)))
  have hcre : CrM w8 c.mb r.cr := h.cre.kept ((hg.block c.mb (by omega) (fun e => h.tm e.symm)).trans (hB.block c.mb hm))
  refine h.mk' (r' := { r with tn := tn' }) (by rw [heap_setCell_here hblk]; simp) (Seg.setCell (p := ⟨c.b, 3, none⟩) hrow h.ne _) (Seg.setCell (p := ⟨c.b, 3, none⟩) hs (by simpa [Value.ownBlock] using hgb) _) (hcre.kept (Below.heap_setCell _ _ _ _ h.mne)) (Ot.setCell (S := RrG c v tv) (p := ⟨c.b, 3, none⟩) (Ot.grown (row := tv.ownBlock) (Ot.of_below hB) hg (fun k e => Or.inl (Or.inr (Or.inr (Or.inr e))))) (Or.inl (Or.inl rfl)) _) (fun k hk => Or.inl hk) (fun k hk => ?_) (fun k hk e => ?_)
  · simp only [Value.ownBlock, Option.some.injEq] at hk
    subst hk
    exact ha.imp_right (fun h1 => by omega)
  · simp only [Value.ownBlock, Option.some.injEq] at e
    subst e
    rcases ha with h1 | h1
    · exact h.dis _ hk h1
    · have := Seg.lt h.row hk; omega
theorem RrP.pushL {w0 w1 W w8 : World} {c : RrC} {g off n cap : Nat} {v tv : Value} {r : RrS} {L' : List Hd} (h : RrP w0 w1 c v tv r) (hB : Below w1.heap.size w1 W) (hg : W.grownBy w8 v.ownBlock) (hs : Ps w8 (.slice (some ⟨g, off, none⟩) n cap) L') (ha : v.ownBlock = some g ∨ W.heap.size ≤ g) :
    RrO w0 w1 c v tv { r with L := L' } (w8.setCell ⟨c.b, 2, none⟩ (.slice (some ⟨g, off, none⟩) n cap)) (.slice (some ⟨g, off, none⟩) n cap) tv := by
  have hb := h.lt
  have hm := h.cre.lt
  have hsz := hB.size
  have hblk := h.mid hB hg h.ne
  have hgb : g ≠ c.b := by
    rintro rfl
    rcases ha with h1 | h1
    · exact h.ne h1
    · omega
  have htrow : Ins w8 tv r.tn := Seg.kept h.trow (fun k hk => (hg.block k (by have := Seg.lt h.trow hk; omega) (fun e => h.dis k e.symm hk)).trans (hB.block k (Seg.lt h.trow hk)))
  have hcre : CrM w8 c.mb r.cr := h.cre.kept ((hg.block c.mb (by omega) (fun e => h.vm e.symm)).trans (hB.block c.mb hm))
  refine h.mk' (r' := { r with L := L' }) (by rw [heap_setCell_here hblk]; simp) (Seg.setCell (p := ⟨c.b, 2, none⟩) hs (by simpa [Value.ownBlock] using hgb) _) (Seg.setCell (p := ⟨c.b, 2, none⟩) htrow h.tne _) (hcre.kept (Below.heap_setCell _ _ _ _ h.mne)) (Ot.setCell (S := RrG c v tv) (p := ⟨c.b, 2, none⟩) (Ot.grown (row := v.ownBlock) (Ot.of_below hB) hg (fun k e => Or.inl (Or.inr (Or.inr (Or.inl e))))) (Or.inl (Or.inl rfl)) _) (fun k hk => ?_) (fun k hk => Or.inl hk) (fun k hk e => ?_)
  · simp only [Value.ownBlock, Option.some.injEq] at hk
    subst hk
    exact ha.imp_right (fun h1 => by omega)
  · simp only [Value.ownBlock, Option.some.injEq] at hk
    subst hk
    rcases ha with h1 | h1
    · exact h.dis _ h1 e
    · have := Seg.lt h.trow e; omega
set_option maxRecDepth 20000 in
set_option maxHeartbeats 4000000 in
theorem rrdput_any {w0 : World} {c : RrC} {v tv : Value} {r : RrS} (now : Int) (x : Hd) (w : World) (h : RrP w0 w c v tv r) (hl : r.L.length ≤ 100000) (htl : r.tn.length ≤ 100000) (hx0 : 0 ≤ x.f) (hx1 : x.f < 16) :
    Calls Tryd.prog 116 #[.pointer (some ⟨c.b, 0, none⟩), .int .i64 now, x.val] w fun e w' => ∃ u v' tv', e = .returned u ∧ Ps w' u (putY c.room r x).2 ∧ (∀ k, u.ownBlock = some k → w.heap.size ≤ k) ∧ RrO w0 w c v tv (putY c.room r x).1 w' v' tv' := by
  have hb := h.lt
  have HM0 : Hid (RrM w0 w c v tv w.heap.size x r (w.alloc (.cells #[.int .i64 x.a, .int .i64 x.l, .int .i64 x.f, .int .i64 x.b, .int .i64 x.m, .int .i64 x.n] 99)) v tv) := RrM.al h x
  have HOF := rrof_any x.f _ HM0.out.o.pos (by omega)
  obtain ⟨n, hn⟩ : ∃ n, (flw r.L x.f).length = n := ⟨_, rfl⟩
  have HNN : Hid ((flw r.L x.f).length = n) := hn
  have HPY : Hid (putY c.room r x = if c.room ≤ ((flw r.L x.f).length : Int) then (r, [x]) else ({ L := r.L ++ [x], tn := if (flw r.L x.f).isEmpty then r.tn ++ [x.f] else r.tn, bg := r.bg, cr := if (flw r.L x.f).isEmpty then updF r.cr x.f.toNat 0 else r.cr }, [])) := rfl
  rw [hn] at HOF HPY
  obtain ⟨i0, hi, hz0, hz1, hz2⟩ := info_parts infoPack
  obtain ⟨j0, gi, gz0, gz1, gz2⟩ := info_parts infoIntT
  rw [Hd.val_eq x]
  clear h hn
  go_enter Tryd.func116, Tryd.ntmps116
  go_wp2_with (go_at_call 119; fail)
  refine HOF.mono ?_
  rintro e w1 ⟨ux1, cap1, rfl, ho1⟩
  have HM1 : Hid (RrM w0 w c v tv w.heap.size x r w1 v tv) := HM0.out.below ho1.bel
  clear ho1 HOF HM0
  obtain ⟨⟨a0, a1, a2, a3, a4, a5⟩, g2, g3, g4⟩ := sixr HM1.out.o.pos.blk
  have hb1 := HM1.out.o.pos.lt
  obtain ⟨⟨x0, x1, x2, x3, x4, x5⟩, _⟩ := six HM1.out.box
  have hB1 : w.heap.size < w1.heap.size := lt_of_block HM1.out.box
  by_cases hfull : c.room ≤ (n : Int)
  · have o1 : decide (c.room ≤ (n : Int)) = true := decide_eq_true hfull
    rw [if_pos hfull] at HPY
    clear hfull
    go_wp2
    go_ret
    rw [HPY.out]
    refine ⟨_, _, _, rfl, Ps.one (x := x) (new_block_ rfl), fun k hk => ?_, HM1.out.o.below (below_alloc_ (Below.refl _ _) _)⟩
    have h1 : some w1.heap.size = some k := hk
    have h2 := Option.some.inj h1
    omega
  · have o1 : decide (c.room ≤ (n : Int)) = false := decide_eq_false hfull
    rw [if_neg hfull] at HPY
    clear hfull
    have HTN : Hid (∀ tn' cr', (n = 0 → tn' = r.tn ++ [x.f] ∧ cr' = updF r.cr x.f.toNat 0) → (¬ n = 0 → tn' = r.tn ∧ cr' = r.cr) → putY c.room r x = ({ L := r.L ++ [x], tn := tn', bg := r.bg, cr := cr' }, [])) := by
      intro tn' cr' h1 h2
      rw [HPY.out]
      by_cases h0 : n = 0
      · have e : (flw r.L x.f).isEmpty = true := by rw [List.isEmpty_iff]; exact List.eq_nil_of_length_eq_zero (by rw [HNN.out]; exact h0)
        rw [e, (h1 h0).1, (h1 h0).2]; rfl
      · have e : (flw r.L x.f).isEmpty = false := by
          cases hq : flw r.L x.f with
          | nil => have := HNN.out; rw [hq] at this; exact absurd this.symm h0
          | cons _ _ => rfl
        rw [e, (h2 h0).1, (h2 h0).2]; rfl
    clear HPY
    go_upto_if 23 with (fail)
    go_cut [] (fun wx => ∃ tn' cr' tv1, ((n = 0 → tn' = r.tn ++ [x.f] ∧ cr' = updF r.cr x.f.toNat 0) ∧ (¬ n = 0 → tn' = r.tn ∧ cr' = r.cr)) ∧ RrM w0 w c v tv w.heap.size x ⟨r.L, tn', r.bg, cr'⟩ wx v tv1)
    case first =>
      by_cases h0 : n = 0
      · subst h0
        have HRW : Hid (Ins w1 tv r.tn) := HM1.out.o.pos.trow
        go_upto_region 5 with (fail)
        go_cut [] (fun wx => ∃ tv1, RrM w0 w c v tv w.heap.size x ⟨r.L, r.tn ++ [x.f], r.bg, r.cr⟩ wx v tv1)
        case first =>
          go_region_law (refine step_append_seg _ (by rfl) (.tmp 28) (.tmp 32) 24 (by rfl) 3 j0 _ 1 8 Tryd.underlying24 gi gz0 gz1 gz2 rfl (by decide) tv r.tn.length (r.tn.map (Value.int .i64)) (by rfl) (Seg.below HRW.out (by repeat' (first | with_reducible exact Below.refl _ _ | with_reducible refine Below.drew ?_ | with_reducible refine below_alloc_ ?_ _))) ⟨w1.heap.size, 0, none⟩ 1 1 [.int .i64 x.f] (by rfl) rfl (news_of (new_block_ (by simp))) (by simp [Value.oneCell']) (by decide) (by unfold maxLen; omega) (by omega) _ rfl ?_; intro g off cp w4 hs4 hg4 ha4 hl4; have hbx := (by repeat' (first | with_reducible exact Below.refl _ _ | with_reducible refine Below.drew ?_ | with_reducible refine below_alloc_ ?_ _) : Below w1.heap.size w1 (World.alloc (World.drew w1) (.cells #[.int .i64 x.f] 3))); have hblk4 := HM1.out.o.pos.mid hbx hg4 HM1.out.o.pos.tne; obtain ⟨⟨q0, q1, q2, q3, q4, q5⟩, r2, r3, r4⟩ := sixr hblk4; have hb4 := lt_of_block hblk4)
          all_goals
            go_wp2
            go_meet
            case rel => exact ⟨_, HM1.out.step (HM1.out.o.pos.pushT hbx hg4 (by unfold Ins; simpa using hs4) ha4)⟩
        case rest =>
          obtain ⟨tv1, hm⟩ := hcut
          have HM2 : Hid (RrM w0 w c v tv w.heap.size x ⟨r.L, r.tn ++ [x.f], r.bg, r.cr⟩ wc v tv1) := hm
          clear hm a0 a1 a2 a3 a4 a5 g2 g3 g4 hb1 x0 x1 x2 x3 x4 x5 hB1 HM1 HRW
          obtain ⟨⟨a0, a1, a2, a3, a4, a5⟩, g2, g3, g4⟩ := sixr HM2.out.o.pos.blk
          have hb2 := HM2.out.o.pos.lt
          obtain ⟨⟨x0, x1, x2, x3, x4, x5⟩, _⟩ := six HM2.out.box
          have hB2 : w.heap.size < wc.heap.size := lt_of_block HM2.out.box
          obtain ⟨f, hf⟩ : ∃ f : Nat, x.f = f := ⟨x.f.toNat, by omega⟩
          obtain ⟨w5, hup, hc5, hg5⟩ := CrM.upd (w := wc.drew) (HM2.out.o.pos.cre.kept rfl) (show f < 16 by omega) 0 (by omega) (by omega)
          rw [← hf] at hup
          have HC5 : Hid (CrM w5 c.mb (updF r.cr x.f.toNat 0)) := by rw [hf, Int.toNat_natCast]; exact hc5
          have HG5 : Hid (wc.drew.grownBy w5 (some c.mb)) := hg5
          have HP2 : Hid (RrP w0 wc.drew c v tv1 ⟨r.L, r.tn ++ [x.f], r.bg, r.cr⟩) := HM2.out.o.pos.drewN 1
          clear hc5 hg5 hf
          go_wp2
          go_region
          all_goals
            go_wp2
            go_meet
            case rel => exact ⟨r.tn ++ [x.f], updF r.cr x.f.toNat 0, tv1, ⟨fun _ => ⟨rfl, rfl⟩, fun h => absurd (by first | trivial | rfl) h⟩, (HM2.out.below (below_dr 1)).step (HP2.out.credit HC5.out HG5.out)⟩
      · have o2 : ((n : Int) == 0) = false := by simp; omega
        have h0' : n = 0 → False := h0
        go_wp2
        go_meet
        case rel => exact ⟨r.tn, r.cr, tv, ⟨fun h => absurd h h0', fun _ => ⟨rfl, rfl⟩⟩, HM1.out⟩
    case rest =>
      obtain ⟨tn', cr', tv1, ⟨ht1, ht2⟩, hm⟩ := hcut
      have HP3 : Hid (putY c.room r x = ({ L := r.L ++ [x], tn := tn', bg := r.bg, cr := cr' }, [])) := HTN.out tn' cr' ht1 ht2
      have HM3 : Hid (RrM w0 w c v tv w.heap.size x ⟨r.L, tn', r.bg, cr'⟩ wc v tv1) := hm
      clear hm ht1 ht2 a0 a1 a2 a3 a4 a5 g2 g3 g4 hb1 x0 x1 x2 x3 x4 x5 hB1 HM1 HTN
      obtain ⟨⟨a0, a1, a2, a3, a4, a5⟩, g2, g3, g4⟩ := sixr HM3.out.o.pos.blk
      have hb3 := HM3.out.o.pos.lt
      obtain ⟨⟨x0, x1, x2, x3, x4, x5⟩, _⟩ := six HM3.out.box
      have hB3 : w.heap.size < wc.heap.size := lt_of_block HM3.out.box
      obtain ⟨va, vcap, hv, _⟩ := Ps.shape HM3.out.o.pos.row
      have HV : Hid (v = .slice va r.L.length vcap) := hv
      have HROW : Hid (Seg wc 99 6 (.slice va r.L.length vcap) r.L.length (flt Hd.cs r.L)) := by
        have h1 := HM3.out.o.pos.row
        unfold Ps at h1
        rw [hv] at h1
        exact h1
      rw [hv] at a2
      clear hv
      go_wp2
      go_region_law (refine step_append_seg _ (by rfl) (.tmp 47) (.tmp 49) 36 (by rfl) 99 i0 _ 6 48 Tryd.underlying36 hi hz0 hz1 hz2 rfl (by decide) _ _ _ (by rfl) (HROW.out.below (by repeat' (first | with_reducible exact Below.refl _ _ | with_reducible refine Below.drew ?_ | with_reducible refine below_alloc_ ?_ _))) ⟨wc.heap.size, 0, none⟩ 1 1 x.cs (by rfl) rfl (news_of (new_block_ (by simp))) x.one (by decide) (by unfold maxLen; omega) (by omega) _ rfl ?_; intro g off cp w4 hs4 hg4 ha4 hl4; have hg5 := hg4; rw [← HV.out] at hg5 ha4; have hbx := (by repeat' (first | with_reducible exact Below.refl _ _ | with_reducible refine Below.drew ?_ | with_reducible refine below_alloc_ ?_ _) : Below wc.heap.size wc (World.alloc (World.drew wc) (.cells x.cs.toArray 99))); have hblk4 := HM3.out.o.pos.mid hbx hg5 HM3.out.o.pos.ne; obtain ⟨⟨q0, q1, q2, q3, q4, q5⟩, r2, r3, r4⟩ := sixr hblk4; have hb4 := lt_of_block hblk4)
      all_goals
        go_wp2
        go_ret
        rw [HP3.out]
        have hfin := (HM3.out.step (HM3.out.o.pos.pushL hbx hg5 (Ps.snoc hs4 rfl) ha4)).o
        first | exact ⟨_, rfl, Ps.nil _, fun k hk => (by simp [Value.ownBlock] at hk), _, _, hfin⟩ | exact ⟨_, _, _, rfl, Ps.nil _, fun k hk => (by simp [Value.ownBlock] at hk), hfin⟩
end Go.Proofs.YtefflbibacmboaaDoor
