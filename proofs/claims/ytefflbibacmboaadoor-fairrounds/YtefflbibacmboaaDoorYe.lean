/-
  millraceref.Rounds: what Take does (under way). Conditions: they lie in memory; numbers within bounds.
-/
import Derived.Test.YtefflbibacmboaaDoorYd
namespace Go.Proofs.YtefflbibacmboaaDoor
open Go.RowKit Go.Extern.Stop Go.Stop Go.Extern

/-- Whether a turn has begun is otherwise. -/
theorem RrP.begun {w0 w : World} {c : RrC} {v tv : Value} {r : RrS} (h : RrP w0 w c v tv r) (g : Bool) : RrO w0 w c v tv { r with bg := g } (w.setCell ⟨c.b, 4, none⟩ (.bool g)) v tv := by
  refine h.mk' (r' := { r with bg := g }) (by rw [heap_setCell_here h.blk]; simp) (Seg.setCell (p := ⟨c.b, 4, none⟩) h.row h.ne _) (Seg.setCell (p := ⟨c.b, 4, none⟩) h.trow h.tne _) (h.cre.kept (Below.heap_setCell _ _ _ _ h.mne)) (Ot.setCell (S := RrG c v tv) (p := ⟨c.b, 4, none⟩) (Ot.refl _ _) (Or.inl (Or.inl rfl)) _) (fun k hk => Or.inl hk) (fun k hk => Or.inl hk) h.dis
/-- Their turns are a row of the call's own; whether one has begun. -/
theorem RrP.turn {w0 w w8 : World} {c : RrC} {v tv sl : Value} {r : RrS} {tn' : List Int} (h : RrP w0 w c v tv r) (hB : Below w.heap.size w w8) (hs : Ins w8 sl tn') (hn : ∀ k, sl.ownBlock = some k → w.heap.size ≤ k) (g : Bool) : RrO w0 w c v tv { r with tn := tn', bg := g } ((w8.setCell ⟨c.b, 3, none⟩ sl).setCell ⟨c.b, 4, none⟩ (.bool g)) v sl := by
  have hb := h.lt
  have h8 := h.below hB
  have h1 : RrO w0 w c v tv { r with tn := tn' } (w8.setCell ⟨c.b, 3, none⟩ sl) v sl := by
    refine h.mk' (r' := { r with tn := tn' }) (by rw [heap_setCell_here h8.blk]; simp) (Seg.setCell (p := ⟨c.b, 3, none⟩) h8.row h.ne _) (Seg.setCell (p := ⟨c.b, 3, none⟩) hs (fun e => by have := hn _ e; simp at this; omega) _) (h8.cre.kept (Below.heap_setCell _ _ _ _ h.mne)) (Ot.setCell (S := RrG c v tv) (p := ⟨c.b, 3, none⟩) (Ot.of_below hB) (Or.inl (Or.inl rfl)) _) (fun k hk => Or.inl hk) (fun k hk => Or.inr (hn k hk)) (fun k hk e => by have := hn _ e; have := Seg.lt h.row hk; omega)
  exact h1.trans (h1.pos.begun g)
/-- Their list is a row of the call's own. -/
theorem RrP.newL {w0 w w8 : World} {c : RrC} {v tv u : Value} {r : RrS} {L' : List Hd} (h : RrP w0 w c v tv r) (hB : Below w.heap.size w w8) (hs : Ps w8 u L') (hn : ∀ k, u.ownBlock = some k → w.heap.size ≤ k) : RrO w0 w c v tv { r with L := L' } (w8.setCell ⟨c.b, 2, none⟩ u) u tv := by
  have hb := h.lt
  have h8 := h.below hB
  refine h.mk' (r' := { r with L := L' }) (by rw [heap_setCell_here h8.blk]; simp) (Seg.setCell (p := ⟨c.b, 2, none⟩) hs (fun e => by have := hn _ e; simp at this; omega) _) (Seg.setCell (p := ⟨c.b, 2, none⟩) h8.trow h.tne _) (h8.cre.kept (Below.heap_setCell _ _ _ _ h.mne)) (Ot.setCell (S := RrG c v tv) (p := ⟨c.b, 2, none⟩) (Ot.of_below hB) (Or.inl (Or.inl rfl)) _) (fun k hk => Or.inr (hn k hk)) (fun k hk => Or.inl hk) (fun k hk e => by have := hn _ hk; have := Seg.lt h.trow e; omega)
/-- The first turn is over. -/
theorem RrP.leave {w0 w : World} {c : RrC} {v tv sl : Value} {r : RrS} {tn' : List Int} (h : RrP w0 w c v tv r) (hs : Ins w sl tn') (hn : ∀ k, sl.ownBlock = some k → tv.ownBlock = some k) : RrO w0 w c v tv { r with tn := tn', bg := false } ((w.setCell ⟨c.b, 3, none⟩ sl).setCell ⟨c.b, 4, none⟩ (.bool false)) v sl := by
  have h1 : RrO w0 w c v tv { r with tn := tn' } (w.setCell ⟨c.b, 3, none⟩ sl) v sl := by
    refine h.mk' (r' := { r with tn := tn' }) (by rw [heap_setCell_here h.blk]; simp) (Seg.setCell (p := ⟨c.b, 3, none⟩) h.row h.ne _) (Seg.setCell (p := ⟨c.b, 3, none⟩) hs (fun e => h.tne (hn _ e)) _) (h.cre.kept (Below.heap_setCell _ _ _ _ h.mne)) (Ot.setCell (S := RrG c v tv) (p := ⟨c.b, 3, none⟩) (Ot.refl _ _) (Or.inl (Or.inl rfl)) _) (fun k hk => Or.inl hk) (fun k hk => Or.inl (hn k hk)) (fun k hk e => h.dis k hk (hn k e))
  exact h1.trans (h1.pos.begun false)
/-- What holds of quanta. -/
def RrQ (c : RrC) (q : Nat → Int) : Prop := 1 ≤ c.m ∧ c.m ≤ 16 ∧ ∀ f : Nat, f < 16 → q f = if f < c.m then c.q f else c.q (c.m - 1)
theorem begin_toS {q : Nat → Int} {r : RrS} {f : Nat} : beginS q (toS r) f = toS { r with bg := true, cr := (beginS q (toS r) f).cr } := by
  unfold beginS
  by_cases hb : r.bg = true
  · have : (toS r).bg = true := hb
    rw [if_pos this]
    refine rn_ext rfl rfl rfl hb
  · have : ¬ (toS r).bg = true := hb
    rw [if_neg this]
    rfl
/-- A round of Take. -/
structure RkR (w0 : World) (c : RrC) (q : Nat → Int) (r : RrS) (w : World) (v tv : Value) (r1 : RrS) (v1 tv1 : Value) (wr : World) : Prop where
  same : takeW q (toS r1) = takeW q (toS r)
  list : r1.L = r.L
  inv : RnI q (toS r1)
  pos : RrM w0 w c v tv w.heap.size hd0 r1 wr v1 tv1
theorem RrP.quanta {w0 w : World} {c : RrC} {v tv : Value} {r : RrS} (h : RrP w0 w c v tv r) (hm : 1 ≤ c.m) : ∃ qb qo, c.px = some ⟨qb, qo, none⟩ ∧ qb < w.heap.size ∧ ∀ i, i < c.m → w.cell? ⟨qb, qo + i, none⟩ = some (.int .i64 (c.q i)) := by
  rcases h.qrow with h0 | ⟨qb, qo, e, hb, hc⟩
  · omega
  · have ht : TB c.px c.m qb := ⟨hm, _, e, rfl⟩
    exact ⟨qb, qo, e, h.tlt ht, fun i hi => by rw [World.cell?_of_block (w := w0) (a := ⟨qb, qo + i, none⟩) (h.same qb ht)]; exact hc i hi⟩
theorem RrM.result {w0 w w' : World} {c : RrC} {v tv v' tv' : Value} {z : Hd} {r' : RrS} (h : RrM w0 w c v tv w.heap.size z r' w' v' tv') (hn : ¬ TB c.px c.m w.heap.size) (a0 a1 a2 a3 a4 a5 : Value) : RrO w0 w c v tv r' ((((((w'.setCell ⟨w.heap.size, 0, none⟩ a0).setCell ⟨w.heap.size, 1, none⟩ a1).setCell ⟨w.heap.size, 2, none⟩ a2).setCell ⟨w.heap.size, 3, none⟩ a3).setCell ⟨w.heap.size, 4, none⟩ a4).setCell ⟨w.heap.size, 5, none⟩ a5) v' tv' := by
  refine ⟨h.o.pos.kept (fun k hk => ?_), h.o.own, ?_⟩
  · have e : k ≠ w.heap.size := by
      rintro rfl
      rcases hk with hk | hk
      · exact h.nb hk
      · exact hn hk
    rw [Below.heap_setCell _ _ _ _ e, Below.heap_setCell _ _ _ _ e, Below.heap_setCell _ _ _ _ e, Below.heap_setCell _ _ _ _ e, Below.heap_setCell _ _ _ _ e, Below.heap_setCell _ _ _ _ e]
  · repeat' (first | with_reducible exact h.o.ot | with_reducible refine Ot.setCell ?_ (Or.inr (Nat.le_refl _)) _)
set_option maxRecDepth 20000 in
set_option maxHeartbeats 8000000 in
theorem rrdtake_any {w0 : World} {c : RrC} {q : Nat → Int} {v tv : Value} {r : RrS} (now : Int) (w : World) (h : RrP w0 w c v tv r) (hI : RnI q (toS r)) (hQ : RrQ c q) (hl : r.L.length ≤ 100000) (hsrt : (r.L.map Hd.n).Pairwise (· < ·)) :
    Calls Tryd.prog 117 #[.pointer (some ⟨c.b, 0, none⟩), .int .i64 now] w fun e w' => e = .returned (.tuple #[(takeY q r).2.2.1.val, .slice none 0 0, .bool (takeY q r).2.2.2]) ∧ ∃ v' tv', RrO w0 w c v tv (takeY q r).1 w' v' tv' := by
  have HI : Hid (RnI q (toS r)) := hI
  have HQ : Hid (RrQ c q) := hQ
  have hb := h.lt
  have hV := Hd.val_eq
  have HTW : Hid (¬ TB c.px c.m w.heap.size) := fun hk => by have := h.tlt hk; omega
  have HM0 : Hid (RrM w0 w c v tv w.heap.size hd0 r (w.alloc (.cells #[.int .i64 0, .int .i64 0, .int .i64 0, .int .i64 0, .int .i64 0, .int .i64 0] 99)) v tv) := RrM.al h hd0
  obtain ⟨i0, hi, hz0, hz1, hz2⟩ := info_parts infoPack
  obtain ⟨j0, gi, gz0, gz1, gz2⟩ := info_parts infoIntT
  have hlk : ∀ (W : World) (cr : Nat → Int) (g : Nat), CrM W c.mb cr → g < 16 → (Instr.lookup 66 (.map (some c.mb)) (.int .i64 (g : Int)) false).run Tryd.prog W = .ok (.int .i64 (cr g)) W := fun W cr g hc hg => hc.look hg
  have HLK : Hid (∀ (W : World) (cr : Nat → Int) (g : Nat), CrM W c.mb cr → g < 16 → (Instr.lookup 66 (.map (some c.mb)) (.int .i64 (g : Int)) false).run Tryd.prog W = .ok (.int .i64 (cr g)) W) := hlk
  have HSRT : Hid ((r.L.map Hd.n).Pairwise (· < ·)) := hsrt
  clear h hI hlk hsrt
  go_enter Tryd.func117, Tryd.ntmps117
  go_wp2
  go_loopg [7] (mu (toS r) + 1) (fun k _ wr => ∃ r1 v1 tv1, mu (toS r1) < k ∧ RkR w0 c q r w v tv r1 v1 tv1 wr)
  case atStart => exact ⟨r, v, tv, Nat.lt_succ_self _, rfl, rfl, HI.out, HM0.out⟩
  case round =>
    obtain ⟨r1, v1, tv1, hmu, hr⟩ := hrel
    have HR : Hid (RkR w0 c q r w v tv r1 v1 tv1 wr) := hr
    obtain ⟨⟨a0, a1, a2, a3, a4, a5⟩, g2, g3, g4⟩ := sixr hr.pos.o.pos.blk
    have hbr := hr.pos.o.pos.lt
    have hzb := hr.pos.box
    unfold BxP at hzb
    obtain ⟨⟨z0, z1, z2, z3, z4, z5⟩, t0, t1, t2, t3, t4, t5⟩ := six hzb
    have hlz : w.heap.size < wr.heap.size := lt_of_block hzb
    have HZB : Hid (BxP wr w.heap.size hd0) := hr.pos.box
    clear hr hzb HM0
    cases ht : r1.tn with
    | nil =>
      have HT : Hid (takeW q (toS r) = (toS r1, [], hd0, false)) := by show _ = _; rw [← HR.out.same]; exact takeW_nil ht
      have HY : Hid (takeY q r = (r1, [], hd0, false)) := by
        show _ = _
        unfold takeY
        rw [HT.out]
        simp only [Bool.false_eq_true, if_false]
        rw [← HR.out.list]
        rfl
      obtain ⟨tx, tcap, htx⟩ := HR.out.pos.o.pos.trow.slice
      rw [ht] at htx
      simp only [List.length_nil] at htx
      rw [htx] at a3
      clear htx
      go_wp2
      (try simp only [Exit.inBlock, Exit.then])
      rw [HY.out]
      refine bodyPost_ret (v := .tuple #[hd0.val, .slice none 0 0, .bool false]) ?_ rfl ⟨rfl, _, _, HR.out.pos.result HTW.out _ _ _ _ _ _⟩
      rw [results_cell_tmp2 rfl]
      have hld := load_pack (x := hd0) (six_set (w := wr) HZB.out (.int .i64 0) (.int .i64 0) (.int .i64 0) (.int .i64 0) (.int .i64 0) (.int .i64 0))
      simp [asAddr, Result.andThen, hld]
    | cons k B =>
      have hk := HR.out.inv.tin k (by show k ∈ r1.tn; rw [ht]; simp)
      obtain ⟨f, rfl⟩ : ∃ f : Nat, k = f := ⟨k.toNat, by omega⟩
      have hf : f < 16 := by omega
      obtain ⟨x, M', hMx⟩ : ∃ x M', flw r1.L (f : Int) = x :: M' := by
        have h1 : flw r1.L (f : Int) ≠ [] := (HR.out.inv.tfl f hf).1 (by show (f : Int) ∈ r1.tn; rw [ht]; simp)
        cases hq : flw r1.L (f : Int) with
        | nil => exact absurd hq h1
        | cons x M' => exact ⟨x, M', rfl⟩
      have hlt := HR.out.pos.o.pos.trow
      rw [ht] at hlt
      obtain ⟨tb, tof, tc, e1, htb, hc0, _⟩ := Ins.at hlt (k := 0) (x := (f : Int)) rfl
      rw [Nat.add_zero] at hc0
      have HTV : Hid (tv1 = .slice (some ⟨tb, tof, none⟩) ((f : Int) :: B).length tc) := e1
      have HTI : Hid (Ins wr tv1 ((f : Int) :: B)) := hlt
      obtain ⟨n1, hn1⟩ : ∃ n1, B.length = n1 := ⟨_, rfl⟩
      have HN1 : Hid (B.length = n1) := hn1
      have hll : ((f : Int) :: B).length = n1 + 1 := by simp [hn1]
      rw [e1, hll] at a3
      have hn1b : n1 + 1 ≤ 16 := by
        have := nodup_le HR.out.inv.tin HR.out.inv.tnd
        have e : (toS r1).tn = (f : Int) :: B := ht
        rw [e, hll] at this
        exact this
      have HBS : Hid (beginS q (toS r1) f = toS { r1 with bg := true, cr := (beginS q (toS r1) f).cr }) := begin_toS
      obtain ⟨crB, hcrB⟩ : ∃ crB, (beginS q (toS r1) f).cr = crB := ⟨_, rfl⟩
      have HCB : Hid ((beginS q (toS r1) f).cr = crB) := hcrB
      rw [hcrB] at HBS
      clear e1 hlt hn1 hll hcrB hk
      go_upto_if 29 with (fail)
      go_cut [] (fun wx => RrM w0 w c v tv w.heap.size hd0 { r1 with cr := crB } wx v1 tv1)
      case first =>
        cases hbg : r1.bg with
        | true =>
          have HE : Hid (crB = r1.cr) := by
            show _ = _
            rw [← HCB.out]
            unfold beginS
            rw [if_pos (show (toS r1).bg = true from hbg)]
            rfl
          rw [hbg] at a4
          go_wp2
          go_meet
          case rel => rw [HE.out]; exact HR.out.pos
        | false =>
          have hcr0 := HR.out.inv.cr0 f hf
          have hqs := HR.out.inv.qs f hf
          have hcr0' : 0 ≤ r1.cr f ∧ r1.cr f ≤ 1010000 := hcr0
          have HE : Hid (crB = updF r1.cr f (r1.cr f + q f)) := by
            show _ = _
            rw [← HCB.out]
            unfold beginS
            rw [if_neg (by rw [show (toS r1).bg = r1.bg from rfl, hbg]; simp)]
            rfl
          obtain ⟨hm1, hm2, hqf⟩ := HQ.out
          obtain ⟨qb, qo, hpx, hqb, hqc⟩ := HR.out.pos.o.pos.quanta hm1
          have hqq := hqf f hf
          obtain ⟨mq, hmq⟩ : ∃ mq, c.m = mq + 1 := ⟨c.m - 1, by omega⟩
          have d1 := hqc mq (by omega)
          have d2 := hqc f
          rw [hmq] at hqq d2 hm2
          rw [hpx, hmq] at a1
          rw [hbg] at a4
          have e5 : (wr.drewN 0).cell? ⟨qb, qo + mq, none⟩ = some (.int .i64 (c.q mq)) := d1
          have HP1 : Hid (∀ n, RrP w0 (wr.drewN n) c v1 tv1 r1) := fun n => HR.out.pos.o.pos.drewN n
          have hlk : ∀ n, (Instr.lookup 66 (.map (some c.mb)) (.int .i64 (f : Int)) false).run Tryd.prog (wr.drewN n) = .ok (.int .i64 (r1.cr f)) (wr.drewN n) := fun n => HLK.out _ _ f (HP1.out n).cre hf
          obtain ⟨crf, hcrf⟩ : ∃ crf, r1.cr f = crf := ⟨_, rfl⟩
          obtain ⟨qf', hqf'⟩ : ∃ qf', q f = qf' := ⟨_, rfl⟩
          obtain ⟨wf, hwf⟩ := Classical.skolem.1 (fun n => CrM.upd (HP1.out n).cre hf (r1.cr f + q f) (by omega) (by omega))
          have HWF : Hid (∀ n, CrM (wf n) c.mb (updF r1.cr f (r1.cr f + q f)) ∧ (wr.drewN n).grownBy (wf n) (some c.mb)) := fun n => (hwf n).2
          have hup : ∀ n, (Instr.mapUpdate 66 (.map (some c.mb)) (.int .i64 (f : Int)) (.int .i64 (r1.cr f + q f))).run Tryd.prog (wr.drewN n) = .ok () (wf n) := fun n => (hwf n).1
          rw [hcrf] at hlk hup HWF HE hcr0'
          rw [hqf'] at hup HWF HE hqs hqq
          have hwr1 : IntKind.i64.wrap (crf + qf') = crf + qf' := by rw [IntKind.wrap_i64]; omega
          clear hwf hqc hcr0 hqf e5
          by_cases hfm : f < mq + 1
          · have o1 : decide ((f : Int) < ((mq + 1 : Nat) : Int)) = true := by simp; omega
            have o2 : decide (f < mq + 1) = true := decide_eq_true hfm
            have d3 := d2 hfm
            rw [if_pos hfm] at hqq
            rw [← hqq] at d3
            clear d2 hqq hqf' hcrf
            go_wp2
            go_quiet (fail)
            go_wp2
            go_meet
            case rel => rw [HE.out]; exact (HR.out.pos.below (below_dr _)).step ((HP1.out _).credit (HWF.out _).1 (HWF.out _).2)
          · have o1 : decide ((f : Int) < ((mq + 1 : Nat) : Int)) = false := by simp; omega
            have o2 : decide (f < mq + 1) = false := decide_eq_false hfm
            rw [if_neg hfm, Nat.add_sub_cancel] at hqq
            rw [← hqq] at d1
            clear d2 hqq hqf' hcrf
            go_wp2
            go_quiet (fail)
            go_wp2
            go_meet
            case rel => rw [HE.out]; exact (HR.out.pos.below (below_dr _)).step ((HP1.out _).credit (HWF.out _).1 (HWF.out _).2)
      case rest =>
        have HM2 : Hid (RrM w0 w c v tv w.heap.size hd0 { r1 with cr := crB } wc v1 tv1) := hcut
        clear hcut a0 a1 a2 a3 a4 a5 g2 g3 g4 hbr z0 z1 z2 z3 z4 z5 t0 t1 t2 t3 t4 t5 hlz HZB hc0 htb HTI
        obtain ⟨⟨a0, a1, a2, a3, a4, a5⟩, g2, g3, g4⟩ := sixr HM2.out.o.pos.blk
        have hbc := HM2.out.o.pos.lt
        obtain ⟨W2, hW2⟩ : ∃ W2, wc.setCell ⟨c.b, 4, none⟩ (.bool true) = W2 := ⟨_, rfl⟩
        have HM3 : Hid (RrM w0 w c v tv w.heap.size hd0 ⟨r1.L, r1.tn, true, crB⟩ W2 v1 tv1) := by show RrM _ _ _ _ _ _ _ _ _ _ _; rw [← hW2]; exact HM2.out.step (HM2.out.o.pos.begun true)
        have HOF := rrof_any (f : Int) W2 HM3.out.o.pos (by show r1.L.length ≤ _; rw [HR.out.list]; omega)
        rw [hMx] at HOF
        have hb2 := HM3.out.o.pos.lt
        have hMl : M'.length + 1 ≤ 100000 := by
          have h1 := (flw_sub r1.L (f : Int)).length_le
          rw [hMx, HR.out.list] at h1
          simp at h1
          omega
        have HFW : Hid (flw r1.L (f : Int) = x :: M') := hMx
        rw [List.length_cons] at HOF
        obtain ⟨ml, hml⟩ : ∃ ml, M'.length = ml := ⟨_, rfl⟩
        have HML : Hid (M'.length = ml) := hml
        rw [hml] at HOF hMl
        clear hMx hml HM2
        go_wp2_with (go_at_call 119; fail)
        refine HOF.mono ?_
        rintro e w4 ⟨ux4, cap4, rfl, ho4⟩
        have HM4 : Hid (RrM w0 w c v tv w.heap.size hd0 ⟨r1.L, r1.tn, true, crB⟩ w4 v1 tv1) := HM3.out.below ho4.bel
        obtain ⟨b1, off1, cap1, hx1, _⟩ := Seg.some ho4.row (by simp)
        have hx1' : ux4 = some ⟨b1, off1, none⟩ := by simp at hx1; exact hx1.1
        subst hx1'
        have hb14 : b1 < w4.heap.size := Seg.lt ho4.row rfl
        obtain ⟨p0, p1, p2, p3, p4, p5⟩ := Ps.head ho4.row
        have hb4 := HM4.out.o.pos.lt
        clear ho4 HOF HM3 hx1 hW2
        obtain ⟨W5, hW5⟩ : ∃ W5, w4.alloc (.cells #[.int .i64 x.a, .int .i64 x.l, .int .i64 x.f, .int .i64 x.b, .int .i64 x.m, .int .i64 x.n] 99) = W5 := ⟨_, rfl⟩
        have HX5 : Hid (RrM w0 w4 c v1 tv1 w4.heap.size x ⟨r1.L, r1.tn, true, crB⟩ W5 v1 tv1) := by show RrM _ _ _ _ _ _ _ _ _ _ _; rw [← hW5]; exact RrM.al HM4.out.o.pos x
        have hlk5 : ∀ n, (Instr.lookup 66 (.map (some c.mb)) (.int .i64 (f : Int)) false).run Tryd.prog (W5.drewN n) = .ok (.int .i64 (crB f)) (W5.drewN n) := fun n => HLK.out _ _ f (HX5.out.o.pos.drewN n).cre hf
        obtain ⟨⟨e0, e1, e2, e3, e4, e5⟩, k2, k3, k4⟩ := sixr HX5.out.o.pos.blk
        obtain ⟨⟨y0, y1, y2, y3, y4, y5⟩, _⟩ := six HX5.out.box
        have hl5 : w4.heap.size < W5.heap.size := lt_of_block HX5.out.box
        have hb5 := HX5.out.o.pos.lt
        have hcB : 0 ≤ crB f ∧ crB f ≤ 1010000 := by
          have := beginS_cr0 (B := B) HR.out.inv hf ht
          rw [HCB.out] at this
          exact this
        go_upto_region 10 with (fail)
        go_cut [81] (fun bv wx => bv = .bool (decide (x.l ≤ crB f)) ∧ RrM w0 w4 c v1 tv1 w4.heap.size x ⟨r1.L, r1.tn, true, crB⟩ wx v1 tv1)
        case first =>
          go_wp2
          go_quiet (fail)
          go_wp2
          go_meet
          case rel => exact ⟨rfl, HX5.out.below (below_dr _)⟩
        case rest =>
          obtain ⟨rfl, hx6⟩ := hcut
          have HX6 : Hid (RrM w0 w4 c v1 tv1 w4.heap.size x ⟨r1.L, r1.tn, true, crB⟩ wc v1 tv1) := hx6
          clear hx6 hlk5 e0 e1 e2 e3 e4 e5 k2 k3 k4 y0 y1 y2 y3 y4 y5 hl5 hb5 HX5 hW5 p0 p1 p2 p3 p4 p5
          obtain ⟨⟨e0, e1, e2, e3, e4, e5⟩, k2, k3, k4⟩ := sixr HX6.out.o.pos.blk
          obtain ⟨⟨y0, y1, y2, y3, y4, y5⟩, _⟩ := six HX6.out.box
          have hl6 : w4.heap.size < wc.heap.size := lt_of_block HX6.out.box
          have hb6 := HX6.out.o.pos.lt
          have HTI : Hid (Ins wc tv1 ((f : Int) :: B)) := by have := HX6.out.o.pos.trow; rw [show (RrS.mk r1.L r1.tn true crB).tn = r1.tn from rfl, ht] at this; exact this
          have htb : tb < wc.heap.size := Seg.lt HTI.out (by rw [HTV.out]; rfl)
          have hlt2 := HTI.out
          rw [HTV.out] at hlt2
          have HTC : Hid (∀ j u, (B.map (Value.int .i64))[j]? = some u → wc.cell? ⟨tb, tof + 1 + j, none⟩ = some u) := Ins.tailc hlt2
          have hcap : n1 + 1 ≤ tc ∧ tc ≤ 9223372036854775807 := by
            rcases hlt2.form with ⟨h1, _⟩ | ⟨b', off', cap', h1, h2, h3, _⟩
            · simp at h1
            · simp only [Value.slice.injEq] at h1
              obtain ⟨_, _, rfl⟩ := h1
              unfold maxLen at h3
              simp [HN1.out] at h2
              omega
          have hll : ((f : Int) :: B).length = n1 + 1 := by simp [HN1.out]
          rw [HTV.out, hll] at e3
          clear hlt2 hll
          by_cases hsend : x.l ≤ crB f
          · have o3 : decide (x.l ≤ crB f) = true := decide_eq_true hsend
            rw [o3]
            have hxin : x ∈ flw r1.L (f : Int) := by rw [HFW.out]; simp
            have hxl := ok_len (HR.out.inv.ok f hf x hxin).1
            have HTK : Hid (takeW q (toS r) = (sendS (beginS q (toS r1) f) f x M', [], x, true)) := by
              show _ = _
              rw [← HR.out.same]
              exact takeW_send ht hf (show (toS r1).fl f = x :: M' from HFW.out) (by rw [HCB.out]; exact hsend)
            have HY : Hid (takeY q r = (⟨rmN r1.L x.n, if M'.length = 0 then B else (f : Int) :: B, if M'.length = 0 then false else true, updF crB f (crB f - x.l)⟩, [], x, true)) := by
              show _ = _
              unfold takeY
              rw [HTK.out, HBS.out, HR.out.list]
              cases M' with
              | nil => simp [sendS, toS, ht]
              | cons a b => simp [sendS, toS, ht]
            have HFM : Hid (flw (rmN r1.L x.n) (f : Int) = M') := by
              show _ = _
              rw [flw_rm, HFW.out]
              refine rm_first ?_
              rw [← HFW.out]
              refine srt_sub ?_ (flw_sub _ _)
              rw [HR.out.list]
              exact HSRT.out
            rw [HML.out] at HY
            have hcw : IntKind.i64.wrap (crB f - x.l) = crB f - x.l := by rw [IntKind.wrap_i64]; omega
            have HP6 : Hid (RrP w0 wc.drew c v1 tv1 ⟨r1.L, r1.tn, true, crB⟩) := HX6.out.o.pos.drewN 1
            have hlkD := HLK.out wc.drew crB f HP6.out.cre hf
            obtain ⟨w7, hup7, hc7, hg7⟩ := CrM.upd HP6.out.cre hf (crB f - x.l) (by omega) (by omega)
            have HC7 : Hid (CrM w7 c.mb (updF crB f (crB f - x.l))) := hc7
            have HG7 : Hid (wc.drew.grownBy w7 (some c.mb)) := hg7
            clear hc7 hg7 hsend hmu
            go_upto_region 11 with (fail)
            go_cut [] (fun wx => RrM w0 w4 c v1 tv1 w4.heap.size x ⟨r1.L, r1.tn, true, updF crB f (crB f - x.l)⟩ wx v1 tv1)
            case first =>
              go_wp2
              go_region
              all_goals
                go_wp2
                go_meet
                case rel => exact (HX6.out.below (below_dr 1)).step (HP6.out.credit HC7.out HG7.out)
            case rest =>
              have HX7 : Hid (RrM w0 w4 c v1 tv1 w4.heap.size x ⟨r1.L, r1.tn, true, updF crB f (crB f - x.l)⟩ wc v1 tv1) := hcut
              obtain ⟨crC, hcrC⟩ : ∃ crC, updF crB f (crB f - x.l) = crC := ⟨_, rfl⟩
              rw [hcrC] at HX7 HY
              clear hcut hcrC hlkD hup7 HC7 HG7 HP6 hcw e0 e1 e2 e3 e4 e5 k2 k3 k4 y0 y1 y2 y3 y4 y5 hl6 hb6 HTI HTC htb
              obtain ⟨⟨e0, e1, e2, e3, e4, e5⟩, k2, k3, k4⟩ := sixr HX7.out.o.pos.blk
              have hb7 := HX7.out.o.pos.lt
              have hl7 : w4.heap.size < wc.heap.size := lt_of_block HX7.out.box
              obtain ⟨va, vcap, hv, _⟩ := Ps.shape HX7.out.o.pos.row
              have HV : Hid (v1 = .slice va r1.L.length vcap) := hv
              have HRW : Hid (Ps wc (.slice va r1.L.length vcap) r1.L) := by have := HX7.out.o.pos.row; rw [show (RrS.mk r1.L r1.tn true crC).L = r1.L from rfl, hv] at this; exact this
              rw [show (RrS.mk r1.L r1.tn true crC).L.length = r1.L.length from rfl] at hv
              rw [hv] at e2
              obtain ⟨n, hn⟩ : ∃ n, r1.L.length = n := ⟨_, rfl⟩
              have HN : Hid (r1.L.length = n) := hn
              have hnl : n ≤ 100000 := by rw [← hn, HR.out.list]; exact hl
              rw [hn] at e2 HRW
              clear hv hn
              go_wp2
              go_loopw [10, 97] (fun ov iv wl => ∃ j : Nat, j ≤ n ∧ iv = .int .i64 j ∧ OwP wc.heap.size wc ov (rmN (r1.L.take j) x.n) wl) (fun _ i _ => n - (intOf i).toNat)
              case atStart => exact ⟨0, Nat.zero_le _, rfl, by simp [rmN]; exact Ps.nil _, fun k hk => by simp [Value.ownBlock] at hk, Below.refl _ _⟩
              case round =>
                obtain ⟨j, hj, rfl, ho⟩ := hrel
                have HO : Hid (OwP wc.heap.size wc u10 (rmN (r1.L.take j) x.n) wr) := ho
                have hsw := ho.bel.size
                have hfl : (rmN (r1.L.take j) x.n).length ≤ j := Nat.le_trans (rmN_sub _ _).length_le (List.length_take_le _ _)
                have hbx := (ho.bel.block w4.heap.size hl7).trans HX7.out.box
                obtain ⟨⟨y0, y1, y2, y3, y4, y5⟩, _⟩ := six hbx
                have hl8 : w4.heap.size < wr.heap.size := by omega
                clear ho hbx
                by_cases hlt : j < n
                · obtain ⟨y, hy⟩ : ∃ y, r1.L[j]? = some y := ⟨_, List.getElem?_eq_getElem (by rw [HN.out]; exact hlt)⟩
                  have HSU : Hid (rmN (r1.L.take (j + 1)) x.n = if y.n ≠ x.n then rmN (r1.L.take j) x.n ++ [y] else rmN (r1.L.take j) x.n) := rmN_succ hy
                  obtain ⟨b2, off2, cap2, hx2, _⟩ := HRW.out.some (by rw [HN.out]; omega)
                  have hx2' : va = some ⟨b2, off2, none⟩ := by simp at hx2; exact hx2.1
                  subst hx2'
                  have hb2c : b2 < wc.heap.size := Seg.lt HRW.out rfl
                  obtain ⟨p0, p1, p2, p3, p4, p5⟩ := (Ps.below HRW.out HO.out.bel).cells hy
                  have hb2w : b2 < wr.heap.size := by omega
                  have HO0 : Hid (OwP wc.heap.size wc u10 (rmN (r1.L.take j) x.n) (wr.alloc (.cells #[.int .i64 y.a, .int .i64 y.l, .int .i64 y.f, .int .i64 y.b, .int .i64 y.m, .int .i64 y.n] 99))) := ⟨Seg.alloc HO.out.row _, HO.out.new, HO.out.bel.alloc hsw _⟩
                  obtain ⟨X, hX⟩ : ∃ X, rmN (r1.L.take j) x.n = X := ⟨_, rfl⟩
                  rw [hX] at HSU HO0 hfl
                  clear hX HO hx2 hy
                  by_cases hk : y.n = x.n
                  · have o1 : (y.n == x.n) = true := by simpa using hk
                    have o2 : (y.n != x.n) = false := by simpa using hk
                    have HS2 : Hid (rmN (r1.L.take (j + 1)) x.n = X) := by show _ = _; rw [HSU.out, if_neg (by simpa using hk)]
                    clear hk
                    go_wp2
                    go_roundw
                    case rel => exact ⟨j + 1, by omega, by go_num, by rw [HS2.out]; exact HO0.out⟩
                    case measure => simp [intOf]; omega
                  · have o1 : (y.n == x.n) = false := by simpa using hk
                    have o2 : (y.n != x.n) = true := by simpa using hk
                    have HS2 : Hid (rmN (r1.L.take (j + 1)) x.n = X ++ [y]) := by show _ = _; rw [HSU.out, if_pos hk]
                    clear hk
                    go_wp2_with (at_builtin; refine wpList_append_seg _ rfl (.tmp 106) (.tmp 108) 36 rfl 99 i0 _ 6 48 Tryd.underlying36 hi hz0 hz1 hz2 rfl (by decide) u10 X.length (flt Hd.cs X) rfl (Seg.alloc HO0.out.row _) ⟨wr.heap.size + 1, 0, none⟩ 1 1 y.cs rfl rfl (news_of (new_block_ (by simp))) y.one (by decide) (by unfold maxLen; omega) (by omega) _ rfl ?_; intro g off3 cap3 w8 hs8 hg8 ha8 hl9)
                    have HO8 : Hid (OwP wc.heap.size wc (.slice (some ⟨g, off3, none⟩) (X.length + 1) cap3) (X ++ [y]) w8) := HO0.out.app (by simp; omega) hs8 hg8 ha8
                    clear hs8 hg8 ha8 hl9
                    go_roundw
                    case rel => first | exact ⟨j + 1, by omega, by go_num, by rw [HS2.out]; exact HO8.out⟩ | (refine ⟨_, _, _, _, _, _, _, _, _, _, _, _, _, _, ?_, rfl⟩; exact ⟨j + 1, by omega, by go_num, by rw [HS2.out]; exact HO8.out⟩)
                    case measure => simp [intOf]; omega
                · obtain rfl : j = n := by omega
                  have HE : Hid (rmN (r1.L.take j) x.n = rmN r1.L x.n) := by show _ = _; rw [List.take_of_length_le (by rw [HN.out]; exact Nat.le_refl _)]
                  rw [HE.out] at HO
                  obtain ⟨ux, ul, ucap, hu⟩ : ∃ ux ul ucap, u10 = .slice ux ul ucap := by obtain ⟨a, b, h, _⟩ := Ps.shape HO.out.row; exact ⟨a, _, b, h⟩
                  subst hu
                  have h7w := HX7.out.o.pos.below HO.out.bel
                  obtain ⟨⟨l0, l1, l2, l3, l4, l5⟩, m2, m3, m4⟩ := sixr h7w.blk
                  have hbw := h7w.lt
                  obtain ⟨W8, hW8⟩ : ∃ W8, wr.setCell ⟨c.b, 2, none⟩ (.slice ux ul ucap) = W8 := ⟨_, rfl⟩
                  have HX8 : Hid (RrM w0 w4 c v1 tv1 w4.heap.size x ⟨rmN r1.L x.n, r1.tn, true, crC⟩ W8 (.slice ux ul ucap) tv1) := by show RrM _ _ _ _ _ _ _ _ _ _ _; rw [← hW8]; exact HX7.out.step (HX7.out.o.pos.newL HO.out.bel HO.out.row HO.out.new)
                  have HOF2 := rrof_any (f : Int) W8 HX8.out.o.pos (by show (rmN r1.L x.n).length ≤ _; have := (rmN_sub r1.L x.n).length_le; rw [HN.out] at this; omega)
                  rw [show (RrS.mk (rmN r1.L x.n) r1.tn true crC).L = rmN r1.L x.n from rfl, HFM.out, HML.out] at HOF2
                  have hb8 := HX8.out.o.pos.lt
                  clear h7w HO hj hlt hsw hfl y0 y1 y2 y3 y4 y5 hl8
                  go_wp2_with (go_at_call 119; fail)
                  refine HOF2.mono ?_
                  rintro e w9 ⟨ux9, cap9, rfl, ho9⟩
                  have HX9 : Hid (RrM w0 w4 c v1 tv1 w4.heap.size x ⟨rmN r1.L x.n, r1.tn, true, crC⟩ w9 (.slice ux ul ucap) tv1) := HX8.out.below ho9.bel
                  clear ho9 HOF2 HX8 hW8 l0 l1 l2 l3 l4 l5 m2 m3 m4 hbw hb8
                  obtain ⟨⟨l0, l1, l2, l3, l4, l5⟩, m2, m3, m4⟩ := sixr HX9.out.o.pos.blk
                  have hb9 := HX9.out.o.pos.lt
                  have HTI9 : Hid (Ins w9 tv1 ((f : Int) :: B)) := by have := HX9.out.o.pos.trow; rw [show (RrS.mk (rmN r1.L x.n) r1.tn true crC).tn = r1.tn from rfl, ht] at this; exact this
                  have htb9 : tb < w9.heap.size := Seg.lt HTI9.out (by rw [HTV.out]; rfl)
                  have hll : ((f : Int) :: B).length = n1 + 1 := by simp [HN1.out]
                  rw [HTV.out, hll] at l3
                  have HSG : Hid (Seg w9 3 1 (.slice (some ⟨tb, tof, none⟩) (n1 + 1) tc) (n1 + 1) (((f : Int) :: B).map (Value.int .i64))) := by
                    have := HTI9.out
                    unfold Ins at this
                    rw [HTV.out, hll] at this
                    exact this
                  clear hll
                  go_upto_if 119 with (fail)
                  go_cut [] (fun wx => ∃ tv9, RrM w0 w4 c v1 tv1 w4.heap.size x ⟨rmN r1.L x.n, if ml = 0 then B else (f : Int) :: B, if ml = 0 then false else true, crC⟩ wx (.slice ux ul ucap) tv9)
                  case first =>
                    by_cases h0 : ml = 0
                    · subst h0
                      by_cases hc1 : tc = 1
                      · subst hc1
                        obtain rfl : n1 = 0 := by omega
                        have HI9 : Hid (Ins w9 (.slice (some ⟨tb, tof, none⟩) 0 0) B) := by
                          have h1 := Seg.drop HSG.out (m := 1) (by omega) tof (Or.inr ⟨rfl, rfl⟩)
                          unfold Hid Ins
                          rw [HN1.out]
                          simpa using h1
                        go_wp2
                        go_meet
                        case rel =>
                          rw [if_pos trivial, if_pos trivial]
                          exact ⟨_, HX9.out.step (HX9.out.o.pos.leave HI9.out (fun k e => by rw [HTV.out]; exact e))⟩
                      · have HI9 : Hid (Ins w9 (.slice (some ⟨tb, tof + 1, none⟩) n1 (tc - 1)) B) := by
                          have h1 := Seg.drop HSG.out (m := 1) (by omega) (tof + 1) (Or.inl (by omega))
                          unfold Hid Ins
                          rw [HN1.out]
                          simpa using h1
                        go_wp2
                        go_meet
                        case rel =>
                          rw [if_pos trivial, if_pos trivial]
                          exact ⟨_, HX9.out.step (HX9.out.o.pos.leave HI9.out (fun k e => by rw [HTV.out]; exact e))⟩
                    · have o5 : ((ml : Int) == 0) = false := by simp; omega
                      have h0' : ¬ ml = 0 := h0
                      go_wp2
                      go_meet
                      case rel =>
                        rw [if_neg h0', if_neg h0', ← ht]
                        exact ⟨_, HX9.out⟩
                  case rest =>
                    obtain ⟨tv9, hx9⟩ := hcut
                    have HMF : Hid (RrM w0 w c v tv w.heap.size hd0 ⟨rmN r1.L x.n, if ml = 0 then B else (f : Int) :: B, if ml = 0 then false else true, crC⟩ wc (.slice ux ul ucap) tv9) := HM4.out.step hx9.o
                    obtain ⟨⟨y0, y1, y2, y3, y4, y5⟩, _⟩ := six hx9.box
                    have hl9 : w4.heap.size < wc.heap.size := lt_of_block hx9.box
                    have hzb := HMF.out.box
                    unfold BxP at hzb
                    obtain ⟨⟨z0, z1, z2, z3, z4, z5⟩, t0, t1, t2, t3, t4, t5⟩ := six hzb
                    have hlz : w.heap.size < wc.heap.size := lt_of_block hzb
                    have HZB : Hid (BxP wc w.heap.size hd0) := HMF.out.box
                    clear hx9 hzb l0 l1 l2 l3 l4 l5 m2 m3 m4
                    go_wp2
                    (try simp only [Exit.inBlock, Exit.then])
                    rw [HY.out]
                    refine bodyPost_ret (v := .tuple #[x.val, .slice none 0 0, .bool true]) ?_ rfl ⟨rfl, _, _, HMF.out.result HTW.out _ _ _ _ _ _⟩
                    rw [results_cell_tmp2 rfl]
                    have hld := load_pack (x := x) (six_set (w := wc) HZB.out (.int .i64 x.a) (.int .i64 x.l) (.int .i64 x.f) (.int .i64 x.b) (.int .i64 x.m) (.int .i64 x.n))
                    simp [asAddr, Result.andThen, hld]
          · have o3 : decide (x.l ≤ crB f) = false := decide_eq_false hsend
            rw [o3]
            have hmu2 : mu (passS (beginS q (toS r1) f) f) < mu (toS r1) := mu_pass HR.out.inv hf ht (by
              rw [HCB.out]
              have h1 : x ∈ flw r1.L (f : Int) := by rw [HFW.out]; simp
              have := ok_len (HR.out.inv.ok f hf x h1).1
              omega)
            have HK1 : Hid (takeW q (toS ⟨r1.L, B ++ [(f : Int)], false, crB⟩) = takeW q (toS r)) := by
              show _ = _
              rw [← HR.out.same, takeW_pass ht (show (toS r1).fl f = x :: M' from HFW.out) (by rw [HCB.out]; exact hsend) hmu2]
              congr 1
              rw [HBS.out]
              unfold passS toS
              simp [ht]
            have HPS : Hid (passS (beginS q (toS r1) f) f = toS ⟨r1.L, B ++ [(f : Int)], false, crB⟩) := by
              show _ = _
              rw [HBS.out]
              unfold passS toS
              simp [ht]
            have HMU : Hid (mu (toS ⟨r1.L, B ++ [(f : Int)], false, crB⟩) < mu (toS r1)) := by show _ < _; rw [← HPS.out]; exact hmu2
            have HPI : Hid (RnI q (toS ⟨r1.L, B ++ [(f : Int)], false, crB⟩)) := by
              show RnI _ _
              rw [← HPS.out]
              refine (HR.out.inv.begin hf ht).pass (B := B) (by rw [(beginS_fl q (toS r1) f).2.1]; exact ht) ?_
              rw [HCB.out]
              have h1 : x ∈ flw r1.L (f : Int) := by rw [HFW.out]; simp
              have := ok_len (HR.out.inv.ok f hf x h1).1
              omega
            have HFIN : Hid (∀ (w8 : World) (sl : Value), Below wc.heap.size wc w8 → Ins w8 sl (B ++ [(f : Int)]) → (∀ k, sl.ownBlock = some k → wc.heap.size ≤ k) → RkR w0 c q r w v tv ⟨r1.L, B ++ [(f : Int)], false, crB⟩ v1 sl ((w8.setCell ⟨c.b, 3, none⟩ sl).setCell ⟨c.b, 4, none⟩ (.bool false))) := fun w8 sl h1 h2 h3 => ⟨HK1.out, HR.out.list, HPI.out, (HM4.out.step HX6.out.o).step (HX6.out.o.pos.turn h1 h2 h3 false)⟩
            clear hmu2 hsend
            cases B with
            | nil =>
              obtain rfl : n1 = 0 := HN1.out.symm
              by_cases hc1 : tc = 1
              · subst hc1
                go_wp2_with (at_builtin; refine wpList_append_seg _ rfl (.tmp 140) (.tmp 142) 24 rfl 3 j0 _ 1 8 Tryd.underlying24 gi gz0 gz1 gz2 rfl (by decide) (.slice (some ⟨wc.heap.size, 0, none⟩) 0 0) 0 [] rfl (Seg.alloc (iseg_empty (new_block_ rfl)) _) ⟨wc.heap.size + 1, 0, none⟩ 1 1 [.int .i64 (f : Int)] rfl rfl (news_of (new_block_ (by simp))) (by simp [Value.oneCell']) (by decide) (by unfold maxLen; omega) (by omega) _ rfl ?_; intro g goff gcap w8 hs8 hg8 ha8 hl8; have hblk8 : w8.heap[c.b]? = some (.cells #[.int .i64 c.room, .slice c.px c.m c.pcap, v1, tv1, .bool true, .map (some c.mb)] 68 (0, 0)) := (hg8.block c.b (by simp; omega) (by simp [Value.ownBlock]; omega)).trans ((Below.heap_alloc _ _ _ (by simp; omega)).trans ((Below.heap_alloc _ _ _ hb6).trans HX6.out.o.pos.blk)); obtain ⟨⟨q0, q1, q2, q3, q4, q5⟩, r2, r3, r4⟩ := sixr hblk8; have hb8 := lt_of_block hblk8)
                go_roundg (mu (toS r1))
                case measure => exact hmu
                case rel =>
                  have hg2 : wc.heap.size ≤ g := by
                    rcases ha8 with h1 | h1
                    · simp only [Value.ownBlock, Option.some.injEq] at h1; omega
                    · simp at h1; omega
                  refine ⟨_, _, _, HMU.out, HFIN.out w8 (.slice (some ⟨g, goff, none⟩) 1 gcap) ((below_alloc_ (below_alloc_ (Below.refl _ _) _) _).grown hg8 (by simp; omega) (fun k e => by simp [Value.ownBlock] at e; omega)) (by unfold Ins; simpa using hs8) (fun k e => ?_)⟩
                  simp only [Value.ownBlock, Option.some.injEq] at e
                  omega
              · go_wp2_with (at_builtin; refine wpList_append_seg _ rfl (.tmp 140) (.tmp 142) 24 rfl 3 j0 _ 1 8 Tryd.underlying24 gi gz0 gz1 gz2 rfl (by decide) (.slice (some ⟨wc.heap.size, 0, none⟩) 0 0) 0 [] rfl (Seg.alloc (iseg_empty (new_block_ rfl)) _) ⟨wc.heap.size + 1, 0, none⟩ 1 1 [.int .i64 (f : Int)] rfl rfl (news_of (new_block_ (by simp))) (by simp [Value.oneCell']) (by decide) (by unfold maxLen; omega) (by omega) _ rfl ?_; intro g goff gcap w8 hs8 hg8 ha8 hl8; have hblk8 : w8.heap[c.b]? = some (.cells #[.int .i64 c.room, .slice c.px c.m c.pcap, v1, tv1, .bool true, .map (some c.mb)] 68 (0, 0)) := (hg8.block c.b (by simp; omega) (by simp [Value.ownBlock]; omega)).trans ((Below.heap_alloc _ _ _ (by simp; omega)).trans ((Below.heap_alloc _ _ _ hb6).trans HX6.out.o.pos.blk)); obtain ⟨⟨q0, q1, q2, q3, q4, q5⟩, r2, r3, r4⟩ := sixr hblk8; have hb8 := lt_of_block hblk8)
                go_roundg (mu (toS r1))
                case measure => exact hmu
                case rel =>
                  have hg2 : wc.heap.size ≤ g := by
                    rcases ha8 with h1 | h1
                    · simp only [Value.ownBlock, Option.some.injEq] at h1; omega
                    · simp at h1; omega
                  refine ⟨_, _, _, HMU.out, HFIN.out w8 (.slice (some ⟨g, goff, none⟩) 1 gcap) ((below_alloc_ (below_alloc_ (Below.refl _ _) _) _).grown hg8 (by simp; omega) (fun k e => by simp [Value.ownBlock] at e; omega)) (by unfold Ins; simpa using hs8) (fun k e => ?_)⟩
                  simp only [Value.ownBlock, Option.some.injEq] at e
                  omega
            | cons k2 B2 =>
              have hml2 : 0 < n1 := by rw [← HN1.out]; simp
              have hc1 : ¬ tc = 1 := by omega
              go_wp2_with (first | (at_builtin; refine wpList_append_seg _ rfl (.tmp 134) (.tmp 139) 24 rfl 3 j0 _ 1 8 Tryd.underlying24 gi gz0 gz1 gz2 rfl (by decide) (.slice (some ⟨wc.heap.size, 0, none⟩) 0 0) 0 [] rfl (iseg_empty (new_block_ rfl)) ⟨tb, tof + 1, none⟩ n1 (tc - 1) ((k2 :: B2).map (Value.int .i64)) rfl (by rw [List.length_map, HN1.out]; simp) (fun j u hj => by rw [Addr.add_lit, World.cell?_alloc_lt _ _ _ (by exact htb)]; exact HTC.out j u hj) (ints_ones _) hml2 (by unfold maxLen; omega) (by omega) _ rfl ?_; intro g1 goff1 gcap1 w7 hs7 hg7 ha7 hl7; have hbel7 : Below wc.heap.size wc w7 := (below_alloc_ (Below.refl _ _) _).grown hg7 (by simp) (fun k e => by simp [Value.ownBlock] at e; omega); have hs7' : Seg w7 3 1 (.slice (some ⟨g1, goff1, none⟩) n1 gcap1) n1 ((k2 :: B2).map (Value.int .i64)) := (by simpa using hs7); have hg17 : wc.heap.size ≤ g1 := (by rcases ha7 with h1 | h1 <;> simp [Value.ownBlock] at h1 <;> omega); have hs7z := hbel7.size) | (at_builtin; refine wpList_append_seg _ rfl (.tmp 140) (.tmp 142) 24 rfl 3 j0 _ 1 8 Tryd.underlying24 gi gz0 gz1 gz2 rfl (by decide) (.slice (some ⟨g1, goff1, none⟩) n1 gcap1) n1 ((k2 :: B2).map (Value.int .i64)) rfl (Seg.alloc hs7' _) ⟨w7.heap.size, 0, none⟩ 1 1 [.int .i64 (f : Int)] rfl rfl (news_of (new_block_ rfl)) (by simp [Value.oneCell']) (by decide) (by unfold maxLen; omega) (by omega) _ rfl ?_; intro g goff gcap w8 hs8 hg8 ha8 hl8; have hbel8 : Below wc.heap.size wc w8 := (hbel7.alloc hs7z _).grown hg8 (by simp; omega) (fun k e => by simp [Value.ownBlock] at e; omega); have hblk8 : w8.heap[c.b]? = some (.cells #[.int .i64 c.room, .slice c.px c.m c.pcap, v1, tv1, .bool true, .map (some c.mb)] 68 (0, 0)) := (hbel8.block c.b hb6).trans HX6.out.o.pos.blk; obtain ⟨⟨q0, q1, q2, q3, q4, q5⟩, r2, r3, r4⟩ := sixr hblk8; have hb8 := lt_of_block hblk8))
              go_roundg (mu (toS r1))
              case measure => exact hmu
              case rel =>
                have hg2 : wc.heap.size ≤ g := by
                  rcases ha8 with h1 | h1
                  · simp only [Value.ownBlock, Option.some.injEq] at h1; omega
                  · simp at h1; omega
                refine ⟨_, _, _, HMU.out, HFIN.out w8 (.slice (some ⟨g, goff, none⟩) (n1 + 1) gcap) hbel8 ?_ (fun k e => ?_)⟩
                · unfold Ins
                  have := HN1.out
                  simp only [List.length_cons] at this
                  simpa [this] using hs8
                · simp only [Value.ownBlock, Option.some.injEq] at e
                  omega
end Go.Proofs.YtefflbibacmboaaDoor
