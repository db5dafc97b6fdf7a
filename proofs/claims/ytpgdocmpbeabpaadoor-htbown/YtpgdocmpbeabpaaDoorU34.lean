/-
  package htb: grow. Conditions: the tree grows in memory; a class that may be.
  Elements of an argument in memory. Nothing of the program is claimed here by itself.
-/
import Derived.Test.YtpgdocmpbeabpaaDoorZtk
import Derived.Test.YtpgdocmpbeabpaaDoorSg
namespace Go.Proofs.YtpgdocmpbeabpaaDoor
open Go.RowKit Go.Extern.Stop Go.Stop Go.Extern

theorem infoNodeP : (Tryd.prog.info? 88).map (fun i => (i.zero, i.size, i.bytes)) = some (some (.pointer none), 1, 8) := by kernel_rfl
theorem GrN.same {K : HtK} {w w' : World} {ow : Nat → Nat × Nat} {base : Nat} (h : GrN K w ow base) (hk : ∀ k, (∃ i, i < K.N ∧ (k = K.nb i ∨ k = K.rb i ∨ k = K.cb i)) → w'.heap[k]? = w.heap[k]?) : GrN K w' ow base :=
  ⟨h.par, h.inn, fun i hi => (h.node i hi).kept (hk _ ⟨i, hi, Or.inl rfl⟩), fun i hi => (h.rate i hi).same (hk _ ⟨i, hi, Or.inr (Or.inl rfl)⟩), fun i hi => (h.ceil i hi).same (hk _ ⟨i, hi, Or.inr (Or.inr rfl)⟩), h.own, h.owr, h.owc, h.lo⟩
/-- The end of it: the list is longer. -/
theorem GrAt.done {K : HtK} {w2 w3 : World} {v v' : Value} {ow : Nat → Nat × Nat} {base : Nat} {c : HCl} {n r b : Nat} (hN : GrN (K.push c n r b) w2 (owP ow K.N n r b) base) (hroot : w3.heap[K.tb]? = some (.cells #[.int .i64 K.room, v, .int .i64 0] 68 (0, 0)))
    (hown : w3.ownsRow base 88 1 v' (K.N + 1) (ptrsH K.nb K.N ++ [.pointer (some ⟨n, 0, none⟩)])) (hk : TyK w2 w3) (howt : ow K.tb = (0, 0)) (hne : K.tb ≠ n ∧ K.tb ≠ r ∧ K.tb ≠ b) (hbt : base ≤ K.tb) : GrAt (K.push c n r b) (w3.setCell ⟨K.tb, 1, none⟩ v') v' (owP ow K.N n r b) base := by
  have e1 : (K.push c n r b).nb K.N = n := updF_same _ _ _
  have hp : ptrsH (K.push c n r b).nb (K.N + 1) = ptrsH K.nb K.N ++ [.pointer (some ⟨n, 0, none⟩)] := by
    have he : ∀ i, i < K.N → (K.push c n r b).nb i = K.nb i := fun i hi => updF_ne (by omega)
    rw [ptrsH_succ he, e1]
  refine ⟨hN.kept (hk.trans (TyK.set hroot (by decide))), ?_, ?_, ?_, hbt⟩
  · show (w3.setCell ⟨K.tb, 1, none⟩ v').heap[K.tb]? = _
    rw [heap_setCell_here hroot]
    simp [HtK.push]
  · show (w3.setCell ⟨K.tb, 1, none⟩ v').ownsRow base 88 1 v' (K.N + 1) (ptrsH (K.push c n r b).nb (K.N + 1))
    rw [hp]
    refine ownW_kept hown fun j hj => Below.heap_setCell _ _ _ _ ?_
    obtain ⟨_, _, cur, hc⟩ := ownW_lt hown hj
    exact tyNe hc hroot (by decide)
  · show owP ow K.N n r b K.tb = (0, 0)
    unfold owP
    rw [if_neg hne.1, if_neg hne.2.1, if_neg hne.2.2]
    exact howt
set_option maxRecDepth 20000 in
set_option maxHeartbeats 8000000 in
theorem grow_ht {K : HtK} {v : Value} {ow : Nat → Nat × Nat} {base : Nat} (c : HCl) (w : World) (h : GrAt K w v ow base) (h1 : okB c.rn c.rt c.rR) (h2 : okB c.cn c.ct c.cR) (hp : -1 ≤ c.par ∧ c.par < K.N) (hN : K.N < 16) (hbs : base ≤ w.heap.size) :
    Calls Tryd.prog 18 #[.pointer (some ⟨K.tb, 0, none⟩), .agg #[.int .i64 c.par, .int .i64 c.rn, .int .i64 c.rt, .int .i64 c.rR, .int .i64 c.cn, .int .i64 c.ct, .int .i64 c.cR, .int .i64 c.pr]] w fun e w' => e = .returned .nilIface ∧ ∃ n r b v' ow', Hid (GrAt (K.push c n r b) w' v' ow' base) ∧ Hid (Ot (fun k => base ≤ k) w w') := by
  have H : Hid (GrAt K w v ow base) := h
  have HH : Hid (GrAt K (w.alloc (.cells #[.int .i64 c.par, .int .i64 c.rn, .int .i64 c.rt, .int .i64 c.rR, .int .i64 c.cn, .int .i64 c.ct, .int .i64 c.cR, .int .i64 c.pr] 48)) v ow base) := h.below (below_alloc_ (Below.refl _ _) _)
  have HNN := newNode_ht c (w.alloc (.cells #[.int .i64 c.par, .int .i64 c.rn, .int .i64 c.rt, .int .i64 c.rR, .int .i64 c.cn, .int .i64 c.ct, .int .i64 c.cR, .int .i64 c.pr] 48)) h1 h2
  have HP : Hid (-1 ≤ c.par ∧ c.par < K.N) := hp
  obtain ⟨i0, hi0, hz0, hz1, hz2⟩ := info_parts infoNodeP
  clear h h1 h2
  by_cases hpar : c.par < 0
  · go_enter Tryd.func18, Tryd.ntmps18
    go_wp2_with fail
    refine HNN.mono ?_
    rintro e w1 ⟨n, r, b, rfl, hr0, hrb, hbn, hnc, hsr, hsb, hb1⟩
    have HG1 : Hid (GrAt K w1 v ow base) := HH.out.below hb1
    have HO1 : Hid (Below w.heap.size w w1) := (below_alloc_ (Below.refl _ _) _ : Below w.heap.size w (w.alloc (.cells #[.int .i64 c.par, .int .i64 c.rn, .int .i64 c.rt, .int .i64 c.rR, .int .i64 c.cn, .int .i64 c.ct, .int .i64 c.cR, .int .i64 c.pr] 48))).trans (hb1.mono (by simp))
    have HNC : Hid (Blk w1 n 15 94 (NC c r b)) := newC_blk hnc
    have HFR : Hid (w.heap.size + 1 ≤ r ∧ r < b ∧ b < n) := ⟨by simpa using hr0, hrb, hbn⟩
    have HSR : Hid (StAt w1 r c.rn c.rt c.rR (c.rR * c.rt) 0) := hsr
    have HSB : Hid (StAt w1 b c.cn c.ct c.cR (c.cR * c.ct) 0) := hsb
    have HROW : Hid (w1.ownsRow base 88 1 v K.N (ptrsH K.nb K.N)) := HG1.out.row
    have HRT : Hid (w1.heap[K.tb]? = some (.cells #[.int .i64 K.room, v, .int .i64 0] 68 (0, 0))) := HG1.out.root
    have HRA : Hid ((w1.alloc (.cells #[.pointer (some ⟨n, 0, none⟩)] 88)).heap[K.tb]? = some (.cells #[.int .i64 K.room, v, .int .i64 0] 68 (0, 0))) := (Below.heap_alloc _ _ _ (lt_of_block HRT.out)).trans HRT.out
    have HVT : Hid (∀ k, v.ownBlock = some k → k ≠ K.tb) := fun k hk => (HG1.out.rowNe hk).1
    have HBA : Hid (base ≤ (w1.alloc (.cells #[.pointer (some ⟨n, 0, none⟩)] 88)).heap.size) := by show _ ≤ _; have := HO1.out.size; simp; omega
    have y0 : w1.cell? ⟨n, 0, none⟩ = some (.int .i64 c.par) := (HNC.out.cell (i := 0) (by omega)).1
    have yl := HNC.out.lt
    have hrt := HRT.out
    have z0 : w1.cell? ⟨K.tb, 1, none⟩ = some v := by simp [World.cell?, hrt]
    have zl := lt_of_block hrt
    clear hb1 hnc hr0 hrb hbn hsr hsb hrt
    go_wp2_with (at_builtin; refine wpList_append_own _ rfl (.tmp 45) (.tmp 47) 66 rfl base 88 i0 (.pointer none) 1 8 Tryd.underlying66 hi0 hz0 hz1 hz2 rfl (by decide) v K.N (ptrsH K.nb K.N) rfl (ownW_alloc HROW.out _) ⟨w1.heap.size, 0, none⟩ 1 1 [.pointer (some ⟨n, 0, none⟩)] rfl rfl (news_of (new_block_ rfl)) (by simp [Value.oneCell']) (by unfold maxLen; omega) (by omega) HBA.out ?_; intro v' w3 hown hgrow _; obtain ⟨vx, vc, rfl⟩ := owns_sliceW hown; have HOWN : Hid (w3.ownsRow base 88 1 (.slice vx (K.N + 1) vc) (K.N + 1) (ptrsH K.nb K.N ++ [.pointer (some ⟨n, 0, none⟩)])) := hown; have HGR : Hid ((w1.alloc (.cells #[.pointer (some ⟨n, 0, none⟩)] 88)).grownBy w3 (v).ownBlock) := hgrow; clear hown hgrow; have HR3 : Hid (w3.heap[K.tb]? = some (.cells #[.int .i64 K.room, v, .int .i64 0] 68 (0, 0))) := (HGR.out.block _ (lt_of_block HRA.out) (fun e => HVT.out _ e.symm rfl)).trans HRA.out; have hr3 := HR3.out; have d0 : w3.cell? ⟨K.tb, 1, none⟩ = some v := (by simp [World.cell?, hr3]); have d1 : w3.frozen? ⟨K.tb, 1, none⟩ = false := (by simp [World.frozen?, hr3]); have d2 := lt_of_block hr3; clear hr3)
    go_ret
    have hlow := H.out.n.low
    have hnode : ∀ i, i < K.N → Blk w1 (K.nb i) 15 94 (updC (nodeC K (nd0 K i) i (.slice none 0 0)) 9 (.bool (K.inner i || decide (c.par = (i : Int))))) := fun i hi => (HG1.out.n.node i hi).cong (fun j hj => by
      have e : decide (c.par = (i : Int)) = false := decide_eq_false (by omega)
      rw [e, Bool.or_false]
      by_cases e9 : j = 9
      · subst e9; rw [updC_same]; rfl
      · rw [updC_ne e9])
    have hnew : Blk w1 n 15 94 (updC (NC c r b) 8 (.pointer none)) := HNC.out.cong (fun j hj => by
      by_cases e8 : j = 8
      · subst e8; rw [updC_same]; rfl
      · rw [updC_ne e8])
    have hP := H.out.n.push (w := w1) (H := w.heap.size + 1) (c := c) (n := n) (r := r) (b := b) (ab := .pointer none) (fun i hi => by have := hlow i hi; omega) (by omega) HFR.out.1 HFR.out.2.1 HFR.out.2.2 HP.out (by rw [if_pos hpar]) hnode HG1.out.n.rate HG1.out.n.ceil hnew HSR.out HSB.out
    have htl := lt_of_block H.out.root
    have hfr := HFR.out
    have hty : TyK w1 w3 := (TyK.of_below (below_alloc_ (Below.refl _ _) _)).trans (TyK.grown HGR.out (fun k hk => by
      obtain ⟨_, h2, cur, h3⟩ := ownW_lt HROW.out hk
      exact ⟨cur, (Below.heap_alloc _ _ _ h2).trans h3⟩))
    refine ⟨rfl, n, r, b, _, owP ow K.N n r b, GrAt.done hP HR3.out HOWN.out hty H.out.owt (by omega) H.out.bt, ?_⟩
    have ho : Ot (fun k => base ≤ k) w (w1.alloc (.cells #[.pointer (some ⟨n, 0, none⟩)] 88)) := (Ot.of_below HO1.out).alloc _
    exact (ho.grown HGR.out (fun k hk => Or.inl (ownW_lt HROW.out hk).1)).setCell (Or.inl H.out.bt) _
  · obtain ⟨p, hpe⟩ : ∃ p : Nat, c.par = (p : Int) := ⟨c.par.toNat, by omega⟩
    have hpN : p < K.N := by omega
    obtain ⟨cpar, crn, crt, crR, ccn, cct, ccR, cpr⟩ := c
    simp only at hpe
    subst hpe
    have HPN : Hid (p < K.N) := hpN
    go_enter Tryd.func18, Tryd.ntmps18
    go_wp2_with fail
    refine HNN.mono ?_
    rintro e w1 ⟨n, r, b, rfl, hr0, hrb, hbn, hnc, hsr, hsb, hb1⟩
    have HG1 : Hid (GrAt K w1 v ow base) := HH.out.below hb1
    have HO1 : Hid (Below w.heap.size w w1) := (below_alloc_ (Below.refl _ _) _ : Below w.heap.size w _).trans (hb1.mono (by simp))
    have HNC : Hid (Blk w1 n 15 94 (NC ⟨p, crn, crt, crR, ccn, cct, ccR, cpr⟩ r b)) := newC_blk hnc
    have HFR : Hid (w.heap.size + 1 ≤ r ∧ r < b ∧ b < n) := ⟨by simpa using hr0, hrb, hbn⟩
    have HSR : Hid (StAt w1 r crn crt crR (crR * crt) 0) := hsr
    have HSB : Hid (StAt w1 b ccn cct ccR (ccR * cct) 0) := hsb
    have HROW1 : Hid (w1.ownsRow base 88 1 v K.N (ptrsH K.nb K.N)) := HG1.out.row
    obtain ⟨g, gcap, cur, hv, hgb, hgc, hg1, hg2, hg3, hg4⟩ := own_someW HROW1.out (by omega)
    subst hv
    have q0 : w1.cell? ⟨g, p, none⟩ = some (.pointer (some ⟨K.nb p, 0, none⟩)) := (ownW_cell HROW1.out (ptrsH_at hpN)).1
    have ql := lt_of_block hgc
    have HRT : Hid (w1.heap[K.tb]? = some (.cells #[.int .i64 K.room, .slice (some ⟨g, 0, none⟩) K.N gcap, .int .i64 0] 68 (0, 0))) := HG1.out.root
    have y0 : w1.cell? ⟨n, 0, none⟩ = some (.int .i64 (p : Int)) := (HNC.out.cell (i := 0) (by omega)).1
    have y8 : w1.frozen? ⟨n, 8, none⟩ = false := (HNC.out.cell (i := 8) (by omega)).2
    have yc8 : w1.cell? ⟨n, 8, none⟩ = some (.pointer none) := (HNC.out.cell (i := 8) (by omega)).1
    have yl := HNC.out.lt
    have hrt := HRT.out
    have z0 : w1.cell? ⟨K.tb, 1, none⟩ = some (.slice (some ⟨g, 0, none⟩) K.N gcap) := by simp [World.cell?, hrt]
    have zl := lt_of_block hrt
    have hpi : (p : Int) < (K.N : Int) := by omega
    have HLOW : Hid (∀ i, i < K.N → K.nb i < n ∧ K.rb i < n ∧ K.cb i < n) := fun i hi => by have := H.out.n.low i hi; have := HFR.out; omega
    have HTN : Hid (K.tb ≠ n ∧ K.tb ≠ r ∧ K.tb ≠ b) := by show _ ∧ _; have := lt_of_block H.out.root; have := HFR.out; omega
    have HGN : Hid (g ≠ n ∧ g ≠ K.tb ∧ ∀ i, i < K.N → g ≠ K.nb i) := ⟨by obtain ⟨x, hx, _⟩ := HNC.out; exact tyNe hgc hx (by decide), (HG1.out.rowNe (k := g) rfl).1, fun i hi => ((HG1.out.rowNe (k := g) rfl).2 i hi).1⟩
    clear hb1 hnc hr0 hrb hbn hsr hsb hrt hgb hgc hg1 hg2 hg3 hg4 hpN
    go_wp2
    go_region
    have HB5 : Hid (∀ k, k ≠ n → (w1.setCell ⟨n, 8, none⟩ (.pointer (some ⟨K.nb p, 0, none⟩))).drew.heap[k]? = w1.heap[k]?) := fun k hk => Below.heap_setCell _ _ _ _ hk
    have HN5 : Hid (Blk (w1.setCell ⟨n, 8, none⟩ (.pointer (some ⟨K.nb p, 0, none⟩))).drew n 15 94 (updC (NC ⟨p, crn, crt, crR, ccn, cct, ccR, cpr⟩ r b) 8 (.pointer (some ⟨K.nb p, 0, none⟩)))) := HNC.out.set 8 _
    have HO5 : Hid (Ot (fun k => base ≤ k) w (w1.setCell ⟨n, 8, none⟩ (.pointer (some ⟨K.nb p, 0, none⟩))).drew) := ((Ot.of_below HO1.out).setCell (Or.inr (by have := HFR.out; show _ ≤ n; omega)) _).drew
    clear y0 y8 yc8 yl z0 zl q0 ql
    generalize (w1.setCell ⟨n, 8, none⟩ (.pointer (some ⟨K.nb p, 0, none⟩))).drew = w5 at *
    have HG5 : Hid (GrN K w5 ow base) := HG1.out.n.same (fun k hk => HB5.out k (by obtain ⟨i, hi, hk⟩ := hk; have := HLOW.out i hi; omega))
    have HRT5 : Hid (w5.heap[K.tb]? = some (.cells #[.int .i64 K.room, .slice (some ⟨g, 0, none⟩) K.N gcap, .int .i64 0] 68 (0, 0))) := (HB5.out _ HTN.out.1).trans HRT.out
    have HROW5 : Hid (w5.ownsRow base 88 1 (.slice (some ⟨g, 0, none⟩) K.N gcap) K.N (ptrsH K.nb K.N)) := ownW_kept HROW1.out (fun j hj => HB5.out j (by cases hj; exact HGN.out.1))
    have HNP : Hid (K.nb p ≠ n ∧ K.tb ≠ K.nb p) := ⟨by have := HLOW.out p HPN.out; omega, fun e => by have h1 := H.out.owt; have h2 := H.out.n.own p HPN.out; rw [e, h2] at h1; cases h1⟩
    have HB6 : Hid (∀ k, k ≠ K.nb p → (w5.setCell ⟨K.nb p, 9, none⟩ (.bool true)).heap[k]? = w5.heap[k]?) := fun k hk => Below.heap_setCell _ _ _ _ hk
    have HROW : Hid ((w5.setCell ⟨K.nb p, 9, none⟩ (.bool true)).ownsRow base 88 1 (.slice (some ⟨g, 0, none⟩) K.N gcap) K.N (ptrsH K.nb K.N)) := ownW_kept HROW5.out (fun j hj => HB6.out j (by cases hj; exact HGN.out.2.2 p HPN.out))
    have HRT6 : Hid ((w5.setCell ⟨K.nb p, 9, none⟩ (.bool true)).heap[K.tb]? = some (.cells #[.int .i64 K.room, .slice (some ⟨g, 0, none⟩) K.N gcap, .int .i64 0] 68 (0, 0))) := (HB6.out _ HNP.out.2).trans HRT5.out
    have HRA : Hid (((w5.setCell ⟨K.nb p, 9, none⟩ (.bool true)).alloc (.cells #[.pointer (some ⟨n, 0, none⟩)] 88)).heap[K.tb]? = some (.cells #[.int .i64 K.room, .slice (some ⟨g, 0, none⟩) K.N gcap, .int .i64 0] 68 (0, 0))) := (Below.heap_alloc _ _ _ (lt_of_block HRT6.out)).trans HRT6.out
    have HVT : Hid (∀ k, (Value.slice (some ⟨g, 0, none⟩) K.N gcap).ownBlock = some k → k ≠ K.tb) := fun k hk => by cases hk; exact HGN.out.2.1
    have HBA : Hid (base ≤ ((w5.setCell ⟨K.nb p, 9, none⟩ (.bool true)).alloc (.cells #[.pointer (some ⟨n, 0, none⟩)] 88)).heap.size) := by show _ ≤ _; have := HO5.out.size; simp [World.setCell] at *; omega
    have y8 : w5.cell? ⟨n, 8, none⟩ = some (.pointer (some ⟨K.nb p, 0, none⟩)) := (HN5.out.cell (i := 8) (by omega)).1
    have yl := HN5.out.lt
    have p9 : w5.frozen? ⟨K.nb p, 9, none⟩ = false := ((HG5.out.node p HPN.out).cell (i := 9) (by omega)).2
    have pc9 := ((HG5.out.node p HPN.out).cell (i := 9) (by omega)).1
    have pl := (HG5.out.node p HPN.out).lt
    have hr6 := HRT6.out
    have z0 : (w5.setCell ⟨K.nb p, 9, none⟩ (.bool true)).cell? ⟨K.tb, 1, none⟩ = some (.slice (some ⟨g, 0, none⟩) K.N gcap) := by simp only [World.cell?]; rw [hr6]; rfl
    have zl := lt_of_block HRT5.out
    clear hr6
    go_wp2_with (at_builtin; refine wpList_append_own _ rfl (.tmp 45) (.tmp 47) 66 rfl base 88 i0 (.pointer none) 1 8 Tryd.underlying66 hi0 hz0 hz1 hz2 rfl (by decide) (Value.slice (some ⟨g, 0, none⟩) K.N gcap) K.N (ptrsH K.nb K.N) rfl (ownW_alloc HROW.out _) ⟨w5.heap.size, 0, none⟩ 1 1 [.pointer (some ⟨n, 0, none⟩)] rfl rfl (news_of (new_block_ (by simp))) (by simp [Value.oneCell']) (by unfold maxLen; omega) (by omega) HBA.out ?_; intro v' w3 hown hgrow _; obtain ⟨vx, vc, rfl⟩ := owns_sliceW hown; have HOWN : Hid (w3.ownsRow base 88 1 (.slice vx (K.N + 1) vc) (K.N + 1) (ptrsH K.nb K.N ++ [.pointer (some ⟨n, 0, none⟩)])) := hown; have HGR : Hid (((w5.setCell ⟨K.nb p, 9, none⟩ (.bool true)).alloc (.cells #[.pointer (some ⟨n, 0, none⟩)] 88)).grownBy w3 ((Value.slice (some ⟨g, 0, none⟩) K.N gcap)).ownBlock) := hgrow; clear hown hgrow; have HR3 : Hid (w3.heap[K.tb]? = some (.cells #[.int .i64 K.room, (Value.slice (some ⟨g, 0, none⟩) K.N gcap), .int .i64 0] 68 (0, 0))) := (HGR.out.block _ (lt_of_block HRA.out) (fun e => HVT.out _ e.symm rfl)).trans HRA.out; have hr3 := HR3.out; have d0 : w3.cell? ⟨K.tb, 1, none⟩ = some (Value.slice (some ⟨g, 0, none⟩) K.N gcap) := (by simp [World.cell?, hr3]); have d1 : w3.frozen? ⟨K.tb, 1, none⟩ = false := (by simp [World.frozen?, hr3]); have d2 := lt_of_block hr3; clear hr3)
    go_ret
    have hN6 : GrN (K.push ⟨p, crn, crt, crR, ccn, cct, ccR, cpr⟩ n r b) (w5.setCell ⟨K.nb p, 9, none⟩ (.bool true)) (owP ow K.N n r b) base := by
      have hown := H.out.n.own
      refine H.out.n.push (H := w.heap.size + 1) (ab := .pointer (some ⟨K.nb p, 0, none⟩)) (fun i hi => by have := H.out.n.low i hi; omega) (by omega) HFR.out.1 HFR.out.2.1 HFR.out.2.2 ?_ ?_ (fun i hi => ?_) (fun i hi => ?_) (fun i hi => ?_) ?_ ?_ ?_
      · exact ⟨by show -1 ≤ (p : Int); omega, by show (p : Int) < K.N; omega⟩
      · show _ = if (p : Int) < 0 then _ else _
        rw [if_neg (by omega)]
        show _ = Value.pointer (some ⟨K.nb (p : Int).toNat, 0, none⟩)
        rw [Int.toNat_natCast]
      · by_cases e : i = p
        · subst e
          have hs := (HG5.out.node i hi).set 9 (.bool true)
          show Blk _ _ _ _ (updC _ 9 (.bool (K.inner i || decide ((i : Int) = (i : Int)))))
          rw [decide_eq_true rfl, Bool.or_true]
          exact hs
        · have hne : K.nb i ≠ K.nb p := fun h => by have h1 := hown i hi; rw [h, hown p HPN.out] at h1; exact e (Prod.mk.inj h1).2.symm
          refine ((HG5.out.node i hi).kept (HB6.out _ hne)).cong (fun j hj => ?_)
          show updC _ 9 (.bool (K.inner i || decide ((p : Int) = (i : Int)))) j = _
          rw [decide_eq_false (by omega), Bool.or_false]
          by_cases e9 : j = 9
          · subst e9; rw [updC_same]; rfl
          · rw [updC_ne e9]
      · exact (HG5.out.rate i hi).same (HB6.out _ (fun h => by have h1 := H.out.n.owr i hi; rw [h, hown p HPN.out] at h1; cases h1))
      · exact (HG5.out.ceil i hi).same (HB6.out _ (fun h => by have h1 := H.out.n.owc i hi; rw [h, hown p HPN.out] at h1; cases h1))
      · exact HN5.out.kept (HB6.out _ HNP.out.1.symm)
      · have hl := HLOW.out p HPN.out
        have hlw := H.out.n.low p HPN.out
        have hf := HFR.out
        exact (HSR.out.same (HB5.out _ (by omega))).same (HB6.out _ (by omega))
      · have hlw := H.out.n.low p HPN.out
        have hf := HFR.out
        exact (HSB.out.same (HB5.out _ (by omega))).same (HB6.out _ (by omega))
    have hty : TyK (w5.setCell ⟨K.nb p, 9, none⟩ (.bool true)) w3 := (TyK.of_below (below_alloc_ (Below.refl _ _) _)).trans (TyK.grown HGR.out (fun k hk => by
      obtain ⟨_, h2, cur, h3⟩ := ownW_lt HROW.out hk
      exact ⟨cur, (Below.heap_alloc _ _ _ h2).trans h3⟩))
    refine ⟨rfl, n, r, b, _, owP ow K.N n r b, GrAt.done hN6 HR3.out HOWN.out hty H.out.owt HTN.out H.out.bt, ?_⟩
    have ho : Ot (fun k => base ≤ k) w ((w5.setCell ⟨K.nb p, 9, none⟩ (.bool true)).alloc (.cells #[.pointer (some ⟨n, 0, none⟩)] 88)) := (HO5.out.setCell (Or.inl (H.out.n.lo p HPN.out).1) _).alloc _
    exact (ho.grown HGR.out (fun k hk => Or.inl (ownW_lt HROW.out hk).1)).setCell (Or.inl H.out.bt) _
end Go.Proofs.YtpgdocmpbeabpaaDoor
namespace Go.Proofs.YtpgdocmpbeabpaaDoor
open Go.RowKit Go.Extern.Stop Go.Stop Go.Extern

/-- Elements of an argument, one behind the other. -/
def ArgAt {α : Type} (cs : α → List Value) (w : World) (px : Option Addr) (L : List α) : Prop := L = [] ∨ ∃ b off, px = some ⟨b, off, none⟩ ∧ b < w.heap.size ∧ ∀ j u, (flt cs L)[j]? = some u → w.cell? ⟨b, off + j, none⟩ = some u
theorem ArgAt.below {α : Type} {cs : α → List Value} {w w' : World} {px : Option Addr} {L : List α} (h : ArgAt cs w px L) (hb : Below w.heap.size w w') : ArgAt cs w' px L := by
  rcases h with h | ⟨b, off, h1, h2, h3⟩
  · exact Or.inl h
  · exact Or.inr ⟨b, off, h1, Nat.lt_of_lt_of_le h2 hb.size, fun j u hj => (hb.cell h2).trans (h3 j u hj)⟩
end Go.Proofs.YtpgdocmpbeabpaaDoor
