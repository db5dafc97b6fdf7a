/-
  sced.Make where a plan is made. Conditions: the flows lie in memory and may be; the plan is as long as what comes, and shorter than each promise.
-/
import Derived.Test.YtnaooocmggnojaaDoorSda
namespace Go.Proofs.YtnaooocmggnojaaDoor
open Go.RowKit Go.Extern.Stop Go.Stop Go.Extern

/-- What comes, of all flows. -/
structure CmOk (m Tk : Nat) (C : Nat → Nat → Int) (K : Nat → Nat) : Prop where
  lo : ∀ i, i < m → ∀ t, 0 ≤ C i t
  sm : ∀ i, i < m → ∀ t, 0 ≤ tot (C i) t ∧ tot (C i) t ≤ 100
  k : ∀ i, i < m → (K i : Int) = tot (C i) (Tk + 1) ∧ K i ≤ 100
theorem cmOk {m Tk : Nat} {F : Nat → Flw} (h : FsOk m F) : CmOk m Tk (cF F) (kF F Tk) := by
  have hp : ∀ i, i < m → PadOk (cF F i) := fun i hi => padOk (h.ok i hi).come
  refine ⟨fun i hi t => (hp i hi).lo t, fun i hi t => (hp i hi).sum t, fun i hi => ?_⟩
  have := (hp i hi).sum (Tk + 1)
  unfold kF
  omega
theorem CmOk.hh {m Tk : Nat} {C : Nat → Nat → Int} {K : Nat → Nat} (h : CmOk m Tk C K) {t : Nat} (ht : t ≤ Tk) : ∀ i, i < m → 0 ≤ tot (C i) t ∧ 0 ≤ C i t ∧ tot (C i) t + C i t ≤ K i := fun i hi => by
  refine ⟨(h.sm i hi t).1, h.lo i hi t, ?_⟩
  have := tot_mono (c := C i) (n := Tk + 1) (fun j _ => h.lo i hi j) (Tk + 1) (t + 1) (by omega) (Nat.le_refl _)
  have := (h.k i hi).1
  simp only [tot] at *
  omega
theorem infoIntS : (Tryd.prog.info? 36).map (fun i => (i.zero, i.size, i.bytes)) = some (some (.slice none 0 0), 1, 24) := by kernel_rfl
/-- A plan in memory. -/
structure PlanR (w' : World) (m Tk : Nat) (C : Nat → Nat → Int) (K : Nat → Nat) (P : Nat → Nat → Int) (sv prv thv : Value) : Prop where
  sn : ∃ x cap, sv = .slice x Tk cap ∧ Row w' x Tk (pik P C m) ∧ Tk ≤ maxLen
  ex : ∃ (pb po pc tb tf tc : Nat) (px tx : Nat → Option Addr) (pk tk : Nat → Nat), prv = .slice (some ⟨pb, po, none⟩) m pc ∧ thv = .slice (some ⟨tb, tf, none⟩) m tc ∧
    ∀ i, i < m → w'.cell? ⟨pb, po + i, none⟩ = some (.slice (px i) (K i) (pk i)) ∧ w'.cell? ⟨tb, tf + i, none⟩ = some (.slice (tx i) (K i) (tk i)) ∧ Row w' (px i) (K i) (P i) ∧ Row w' (tx i) (K i) (thr P C m Tk i)
theorem seg_row {w : World} {v : Value} {k : Nat} {f : Nat → Int} (h : Seg w 3 1 v k (vals f k)) : ∃ x cap, v = .slice x k cap ∧ Row w x k f := by
  rcases h.form with ⟨rfl, rfl, _⟩ | ⟨b, off, cap, rfl, _, _, _, hc⟩
  · exact ⟨none, 0, rfl, Or.inl rfl⟩
  · exact ⟨_, _, rfl, Or.inr ⟨b, off, rfl, fun i hi => hc i _ (vals_at f k i hi)⟩⟩
theorem CoR.plan {w wr : World} {rb pb m : Nat} {lo : Nat → Nat} {B : Nat → Rb} {n Tk : Nat} {C : Nat → Nat → Int} {K : Nat → Nat} {P : Nat → Nat → Int} {sv v prv thv : Value} (M : CoR w wr rb pb m lo B n C K P Tk sv v prv thv m m) (hm : 0 < m) (hT : Tk ≤ 1000) {wf : World} (ho : Ot (fun b => b = rb) wr wf) : PlanR wf m Tk C K P sv prv thv := by
  have sI : ∀ {e : TypeId} {q : Nat} {u : Value} {k : Nat} {xs : List Value}, Seg wr e q u k xs → e ≠ 43 → Seg wf e q u k xs := fun h hne => h.oth ho (fun b e e' => by subst e'; exact h.ne M.rs0 hne e)
  obtain ⟨x, cap, hx, hr⟩ := seg_row (sI M.snt (by decide))
  obtain ⟨pb', po, pc, hp, _, _, _, hpc⟩ := (sI M.pro (by decide)).some hm
  obtain ⟨tb, tf, tc, ht, _, _, _, htc⟩ := (sI M.thh (by decide)).some hm
  have h1 : ∀ i, ∃ px pk, i < m → (B i).pv = .slice px (K i) pk ∧ Row wf px (K i) (P i) := fun i => by
    by_cases hi : i < m
    · obtain ⟨px, pk, e, hr⟩ := seg_row (sI (M.rs.row i hi).prom (by decide))
      exact ⟨px, pk, fun _ => ⟨e, hr⟩⟩
    · exact ⟨none, 0, fun h => absurd h hi⟩
  have h2 : ∀ i, ∃ px pk, i < m → (B i).tv = .slice px (K i) pk ∧ Row wf px (K i) (thr P C m Tk i) := fun i => by
    by_cases hi : i < m
    · obtain ⟨px, pk, e, hr⟩ := seg_row (sI (M.rs.row i hi).thru (by decide))
      exact ⟨px, pk, fun _ => ⟨e, hr⟩⟩
    · exact ⟨none, 0, fun h => absurd h hi⟩
  refine ⟨⟨x, cap, hx, hr, by unfold maxLen; omega⟩, pb', po, pc, tb, tf, tc, fun i => Classical.choose (h1 i), fun i => Classical.choose (h2 i), fun i => Classical.choose (Classical.choose_spec (h1 i)), fun i => Classical.choose (Classical.choose_spec (h2 i)), hp, ht, fun i hi => ?_⟩
  have g1 := Classical.choose_spec (Classical.choose_spec (h1 i)) hi
  have g2 := Classical.choose_spec (Classical.choose_spec (h2 i)) hi
  refine ⟨?_, ?_, g1.2, g2.2⟩
  · rw [← g1.1]; exact hpc i _ (by simp [hi])
  · rw [← g2.1]; exact htc i _ (by simp [hi])
theorem PlanR.below {w w' : World} {m Tk : Nat} {C : Nat → Nat → Int} {K : Nat → Nat} {P : Nat → Nat → Int} {sv prv thv : Value} (h : PlanR w m Tk C K P sv prv thv) (hb : Below w.heap.size w w') : PlanR w' m Tk C K P sv prv thv := by
  obtain ⟨⟨x, cap, hx, hr, hl⟩, pb, po, pc, tb, tf, tc, px, tx, pk, tk, h1, h2, h3⟩ := h
  refine ⟨⟨x, cap, hx, hr.below hb, hl⟩, pb, po, pc, tb, tf, tc, px, tx, pk, tk, h1, h2, fun i hi => ?_⟩
  obtain ⟨g1, g2, g3, g4⟩ := h3 i hi
  exact ⟨(hb.cell (World.block_lt_of_cell? w _ g1)).trans g1, (hb.cell (World.block_lt_of_cell? w _ g2)).trans g2, g3.below hb, g4.below hb⟩

set_option maxRecDepth 20000 in
set_option maxHeartbeats 4000000 in
theorem make_any (b off cap m Tk : Nat) (F : Nat → Flw) (w : World) (hF : FlsAt w b off m F) (hok : FsOk m F) (h1 : (F 0).n ≤ Tk) (h2 : Tk < rch F m) :
    Calls Tryd.prog 12 #[.slice (some ⟨b, off, none⟩) m cap, .int .i64 Tk] w fun e w' => ∃ sv prv thv, e = .returned (.tuple #[.agg #[sv, prv, thv], .nilIface]) ∧ PlanR w' m Tk (cF F) (kF F Tk) (pF F Tk) sv prv thv ∧ Below w.heap.size w w' := by
  have hm8 := hok.hi
  have hm1 := hok.lo
  have hml : m ≤ maxLen := by unfold maxLen; omega
  have HF : Hid (FlsAt w b off m F) := hF
  have HOK : Hid (FsOk m F) := hok
  have HCM : Hid (CmOk m Tk (cF F) (kF F Tk)) := cmOk hok
  have HC : Hid (∀ W, Below w.heap.size w W → Calls Tryd.prog 9 #[.slice (some ⟨b, off, none⟩) m cap] W fun e w' => e = .returned .nilIface ∧ Below W.heap.size W w') := fun W hW => by
    have := scheck_any b off cap m F W hml (hF.below hW)
    rw [scedE_zero.2 hok, errV_zero] at this
    exact this
  have hT : Tk ≤ 201 := by have := rch_le (F := F) m 0 (by omega); have := (hok.ok 0 (by omega)).cv.len; omega
  obtain ⟨i0, hi, hz0, hz1, hz2⟩ := info_parts infoInt
  obtain ⟨j0, ji, jz0, jz1, jz2⟩ := info_parts infoIntS
  have HL : Hid (∀ W, Below w.heap.size w W → Calls Tryd.prog 24 #[.slice (some ⟨b, off, none⟩) m cap, .int .i64 Tk] W fun e w' => ∃ v, e = .returned (.tuple #[v, .nilIface]) ∧ LinR W w' F Tk m v) := fun W hW => lined_any b off cap m Tk F W (hF.below hW) hok h1 h2
  obtain ⟨n0, HN0⟩ : ∃ n0, Hid ((F 0).n = n0) := ⟨_, rfl⟩
  rw [HN0.out] at h1
  have h1' : ¬ (Tk : Int) < (n0 : Int) := by omega
  have h2' : ¬ (rch F m : Int) ≤ (Tk : Int) := by omega
  clear hF hok h1 h2
  go_enter Tryd.func12, Tryd.ntmps12
  go_wp2_with fail
  refine (HC.out _ (below_alloc_ (Below.refl _ _) _)).mono ?_
  rintro e w1 ⟨rfl, hb1⟩
  have HB1 : Hid (Below w.heap.size w w1) := below_after (below_alloc_ (Below.refl _ _) _) hb1
  have HK1 : Hid (w1.heap[w.heap.size]? = some (.cells #[.slice none 0 0, .slice none 0 0, .slice none 0 0] 43 (0, 0))) := (hb1.block w.heap.size (by simp)).trans (new_block w (.cells #[.slice none 0 0, .slice none 0 0, .slice none 0 0] 43))
  obtain ⟨d0, _, _⟩ := HF.out.below HB1.out 0 (by omega)
  simp only [Nat.zero_mul, Nat.add_zero] at d0
  rw [HN0.out] at d0
  have hbs := World.block_lt_of_cell? w1 _ d0
  clear hb1
  go_wp2_with (go_at_call 17; refine (sreach_any b off cap m F w1 hml (by omega) (HF.out.below HB1.out)).mono ?_; rintro e w2 ⟨rfl, hb2⟩; have HB2 : Hid (Below w.heap.size w w2) := below_after HB1.out hb2; have HK2 : Hid (w2.heap[w.heap.size]? = some (.cells #[.slice none 0 0, .slice none 0 0, .slice none 0 0] 43 (0, 0))) := (hb2.block w.heap.size (lt_of_block HK1.out)).trans HK1.out; clear hb2)
  refine (HL.out _ HB2.out).mono ?_
  rintro e w3 ⟨v, rfl, hL⟩
  obtain ⟨B, lo, hR, hS, hl0, hlm⟩ := hL.ex
  obtain ⟨vb, vo, vc, rfl, _, _, hvb, _⟩ := hS.some (by omega)
  have hK3 : w3.heap[w.heap.size]? = some (.cells #[.slice none 0 0, .slice none 0 0, .slice none 0 0] 43 (0, 0)) := (hL.bel.block _ (lt_of_block HK2.out)).trans HK2.out
  have hB3 : Below w.heap.size w w3 := below_after HB2.out hL.bel
  have hMk : MkR w (w3.alloc (.cells #[.slice none 0 0, .slice none 0 0, .slice none 0 0] 43)) w.heap.size w3.heap.size m lo B (Tk + 1) (cF F) (kF F Tk) (pF F Tk) 0 (.slice none 0 0) (.slice (some ⟨vb, vo, none⟩) m vc) :=
    ⟨hR.below (below_alloc_ (Below.refl _ _) _), hS.alloc _, new_block _ _, (Below.heap_alloc _ _ _ (lt_of_block hK3)).trans hK3, Seg.nil _ _ _, fun b e => by simp [Value.ownBlock] at e, below_alloc_ hB3 _⟩
  have hFix : Fix w w.heap.size w3.heap.size m lo := ⟨by have := lt_of_block HK2.out; omega, hlm, Nat.le_refl _, lt_of_block hK3⟩
  obtain ⟨rb, HRB⟩ : ∃ rb, Hid (rb = w.heap.size) := ⟨_, rfl⟩
  obtain ⟨pb, HPB⟩ : ∃ pb, Hid (pb = w3.heap.size) := ⟨_, rfl⟩
  rw [← HPB.out] at hMk hFix
  have HMk : Hid (MkR w (w3.alloc (.cells #[.slice none 0 0, .slice none 0 0, .slice none 0 0] 43)) w.heap.size pb m lo B (Tk + 1) (cF F) (kF F Tk) (pF F Tk) 0 (.slice none 0 0) (.slice (some ⟨vb, vo, none⟩) m vc)) := hMk
  have HFix : Hid (Fix w w.heap.size pb m lo) := hFix
  clear hMk hFix hK3 hB3 hL hR hS hl0 hlm d0 hbs hvb
  go_wp2
  rw [← HPB.out]
  go_loopw [45] (fun i wr => ∃ t : Nat, t ≤ Tk ∧ i = .int .i64 t ∧ ∃ sv, MkR w wr w.heap.size pb m lo B (Tk + 1) (cF F) (kF F Tk) (pF F Tk) t sv (.slice (some ⟨vb, vo, none⟩) m vc)) (fun i _ => Tk - (intOf i).toNat)
  case atStart => exact ⟨0, Nat.zero_le _, rfl, _, HMk.out⟩
  case round =>
    obtain ⟨t, ht, rfl, sv, hM⟩ := hrel
    have HM : Hid (MkR w wr w.heap.size pb m lo B (Tk + 1) (cF F) (kF F Tk) (pF F Tk) t sv (.slice (some ⟨vb, vo, none⟩) m vc)) := hM
    by_cases hlt : t < Tk
    · obtain ⟨⟨k0, k1, k2⟩, ⟨f0, f1, f2⟩, hlp⟩ := plan_cells hM.pl
      obtain ⟨sx, sc, rfl⟩ := hM.snt.slc
      have HST : Hid (Calls Tryd.prog 25 #[.slice (some ⟨vb, vo, none⟩) m vc, .int .i64 t] wr.drew fun e w' => e = .returned (.int .i64 (pik (pF F Tk) (cF F) m t)) ∧ StR wr.drew w' m lo B (Tk + 1) (cF F) (kF F Tk) (pF F Tk) (thr (pF F Tk) (cF F) m (t + 1)) (fun i => tot (cF F i) (t + 1)) (gon (pF F Tk) (cF F) m (t + 1)) (.slice (some ⟨vb, vo, none⟩) m vc)) :=
        step_any wr.drew vb vo vc t (hM.rs.below (Below.refl _ _).drew) (hM.ptr.below (Below.refl _ _).drew) hm8 (by omega) (by omega) (HCM.out.hh (by omega)) (fun i hi => by have := (HCM.out.k i hi).2; omega)
      have HPL : Hid (∀ w1, StR wr.drew w1 m lo B (Tk + 1) (cF F) (kF F Tk) (pF F Tk) (thr (pF F Tk) (cF F) m (t + 1)) (fun i => tot (cF F i) (t + 1)) (gon (pF F Tk) (cF F) m (t + 1)) (.slice (some ⟨vb, vo, none⟩) m vc) → w1.heap[pb]? = some (.cells #[.slice sx t sc, .slice none 0 0, .slice none 0 0] 43 (0, 0)) ∧ Seg w1 3 1 (.slice sx t sc) t (vals (pik (pF F Tk) (cF F) m) t)) := fun w1 S => by
        have hRd := HM.out.rs.below (Below.refl _ wr).drew
        have f1 := HFix.out.f1
        have n1 : ∀ b, lo m ≤ b → ¬ ∃ i, i < m ∧ (B i).Own b := fun b hb => by
          rintro ⟨i, hi, ho⟩
          exact hRd.out (Or.inr hb) hi ho
        refine ⟨(S.ot.block pb hlp (n1 pb f1)).trans HM.out.pl, (HM.out.snt.below (Below.refl _ _).drew).oth S.ot (fun b' e'' => n1 b' (by have := HM.out.os b' e''; omega))⟩
      clear hM
      go_wp2
      go_region_law (first | (refine step_append_seg _ (by rfl) (.tmp 49) (.tmp 53) 36 (by rfl) 3 i0 _ 1 8 Tryd.underlying36 hi hz0 hz1 hz2 rfl (by decide) (.slice sx t sc) t (vals (pik (pF F Tk) (cF F) m) t) (by rfl) (HSN.out.alloc _) ⟨w4.heap.size, 0, none⟩ 1 1 [.int .i64 (pik (pF F Tk) (cF F) m t)] (by rfl) rfl (news_of (new_block_ (by simp))) (by simp [Value.oneCell']) (by decide) (by unfold maxLen; omega) (by omega) _ rfl ?_; intro g1 off1 cap1 w5 hs5 hg5 ha5 hl5; obtain ⟨⟨q0, q1, q2⟩, ⟨y0, y1, y2⟩, hlp5⟩ := plan_cells (HP5.out _ _ hg5)) | (go_simp; go_wp2_with (go_at_call 25; refine HST.out.mono ?_; rintro e w4 ⟨rfl, hS4⟩; obtain ⟨hp4, hsn4⟩ := HPL.out _ hS4; have HS4 : Hid (StR wr.drew w4 m lo B (Tk + 1) (cF F) (kF F Tk) (pF F Tk) (thr (pF F Tk) (cF F) m (t + 1)) (fun i => tot (cF F i) (t + 1)) (gon (pF F Tk) (cF F) m (t + 1)) (.slice (some ⟨vb, vo, none⟩) m vc)) := hS4; have HSN : Hid (Seg w4 3 1 (.slice sx t sc) t (vals (pik (pF F Tk) (cF F) m) t)) := hsn4; have HP5 : Hid (∀ o w5, (w4.alloc o).grownBy w5 (Value.ownBlock (.slice sx t sc)) → w5.heap[pb]? = some (.cells #[.slice sx t sc, .slice none 0 0, .slice none 0 0] 43 (0, 0))) := (fun o w5 hg => ((hg.block pb (by simp; have := lt_of_block hp4; omega) (fun e => hsn4.ne hp4 (by decide) e.symm)).trans (Below.heap_alloc _ _ _ (lt_of_block hp4))).trans hp4); obtain ⟨⟨x0, x1, x2⟩, ⟨z0, z1, z2⟩, hlp4⟩ := plan_cells hp4; clear hp4 hsn4 hS4)))
      all_goals
        go_wp2
        go_roundw
        case rel =>
          refine ⟨t + 1, by omega, by go_num, _, HM.out.step HFix.out (Below.refl _ _).drew HS4.out hs5 hg5 ?_⟩
          rcases ha5 with e | e
          · exact Or.inl e
          · right; simp at e; omega
        case measure => simp [intOf]; omega
    · obtain rfl : t = Tk := by omega
      have HCO : Hid (CoR w wr w.heap.size pb m lo B (t + 1) (cF F) (kF F t) (pF F t) t sv (.slice (some ⟨vb, vo, none⟩) m vc) (.slice none 0 0) (.slice none 0 0) 0 0) := hM.co
      clear hM
      go_wp2
      go_loopw [59] (fun i wx => ∃ k : Nat, k ≤ m ∧ i = .int .i64 k ∧ ∃ prv thv, CoR w wx w.heap.size pb m lo B (t + 1) (cF F) (kF F t) (pF F t) t sv (.slice (some ⟨vb, vo, none⟩) m vc) prv thv k k) (fun i _ => m - (intOf i).toNat)
      case atStart => exact ⟨0, Nat.zero_le _, rfl, _, _, HCO.out⟩
      case round =>
        obtain ⟨k, hk, rfl, prv, thv, hQ⟩ := hrel
        have HQ : Hid (CoR w wr w.heap.size pb m lo B (t + 1) (cF F) (kF F t) (pF F t) t sv (.slice (some ⟨vb, vo, none⟩) m vc) prv thv k k) := hQ
        by_cases hkm : k < m
        · obtain ⟨⟨k0, k1, k2⟩, ⟨f0, f1, f2⟩, hlp⟩ := plan_cells hQ.pl
          obtain ⟨px, pc, rfl⟩ := hQ.pro.slc
          obtain ⟨tx, tc, rfl⟩ := hQ.thh.slc
          obtain ⟨_, _, _, hve, _, _, hvb, hcell⟩ := hQ.ptr.some (by omega)
          simp only [Value.slice.injEq, Option.some.injEq, Addr.mk.injEq, and_true, true_and] at hve
          obtain ⟨⟨rfl, rfl⟩, rfl⟩ := hve
          have p0 := hcell k _ (ptrs_at B hkm)
          have hrow := hQ.rs.row k hkm
          obtain ⟨⟨_, c1, c2, _, _⟩, _⟩ := cells_of hrow.blk
          have hrl := hrow.lt
          obtain ⟨ux, uc, hpv⟩ := hrow.prom.slc
          obtain ⟨zx, zc, htv⟩ := hrow.thru.slc
          have HPV : Hid ((B k).pv = .slice ux (kF F t k) uc) := hpv
          have HTV : Hid ((B k).tv = .slice zx (kF F t k) zc) := htv
          rw [hpv] at c1
          rw [htv] at c2
          have HPR : Hid (Seg wr 36 1 (.slice px k pc) k ((List.range k).map fun i => (B i).pv)) := hQ.pro
          clear hQ hcell hrow hpv htv
          generalize kF F t k = kk at c1 c2 HPV HTV
          go_wp2
          go_region_law (refine step_append_seg _ (by rfl) (.tmp 64) (.tmp 69) 39 (by rfl) 36 j0 _ 1 24 Tryd.underlying39 ji jz0 jz1 jz2 rfl (by decide) (.slice px k pc) k ((List.range k).map fun i => (B i).pv) (by rfl) (HPR.out.below (by repeat' (first | with_reducible exact Below.refl _ _ | with_reducible refine Below.drew ?_ | with_reducible refine below_alloc_ ?_ _))) ⟨wr.heap.size, 0, none⟩ 1 1 [.slice ux kk uc] (by rfl) rfl (news_of (new_block_ (by simp))) (by simp [Value.oneCell']) (by decide) (by unfold maxLen; omega) (by omega) _ rfl ?_; intro g1 off1 cap1 w5 hs5 hg5 ha5 hl5; obtain ⟨⟨q0, q1, q2⟩, ⟨y0, y1, y2⟩, hlp5⟩ := plan_cells ((hg5.block pb (by simp; omega) (fun e => HQ.out.pro.ne HQ.out.pl (by decide) e.symm)).trans ((Below.heap_alloc _ _ _ hlp).trans HQ.out.pl)))
          all_goals
            rw [← HPV.out] at hs5
            have hMid := HQ.out.pstep HFix.out (Below.refl _ _).drew hs5 hg5 (by rcases ha5 with e | e; exact Or.inl e; right; simp at e; show wr.heap.size ≤ _; omega)
            obtain ⟨X, hX⟩ : ∃ X, X = w5.setCell ⟨pb, 1, none⟩ (.slice (some ⟨g1, off1, none⟩) (k + 1) cap1) := ⟨_, rfl⟩
            rw [← hX] at hMid
            rw [← hX]
            clear hX hs5 hg5 ha5 hl5 q0 q1 q2 y0 y1 y2 hlp5 k0 k1 k2 f0 f1 f2 hlp p0 c1 c2 hrl HPR
            have HMid : Hid (CoR w X w.heap.size pb m lo B (t + 1) (cF F) (kF F t) (pF F t) t sv (.slice (some ⟨vb, vo, none⟩) m vc) (.slice (some ⟨g1, off1, none⟩) (k + 1) cap1) (.slice tx k tc) (k + 1) k) := hMid
            obtain ⟨⟨k0, k1, k2⟩, ⟨f0, f1, f2⟩, hlp⟩ := plan_cells hMid.pl
            have hrow := hMid.rs.row k hkm
            obtain ⟨⟨_, c1, c2, _, _⟩, _⟩ := cells_of hrow.blk
            have hrl := hrow.lt
            rw [HTV.out] at c2
            have HTR : Hid (Seg X 36 1 (.slice tx k tc) k ((List.range k).map fun i => (B i).tv)) := hMid.thh
            clear hMid hrow c1
            go_wp2
            go_region_law (refine step_append_seg _ (by rfl) (.tmp 73) (.tmp 78) 39 (by rfl) 36 j0 _ 1 24 Tryd.underlying39 ji jz0 jz1 jz2 rfl (by decide) (.slice tx k tc) k ((List.range k).map fun i => (B i).tv) (by rfl) (HTR.out.below (by repeat' (first | with_reducible exact Below.refl _ _ | with_reducible refine Below.drew ?_ | with_reducible refine below_alloc_ ?_ _))) ⟨X.heap.size, 0, none⟩ 1 1 [.slice zx kk zc] (by rfl) rfl (news_of (new_block_ (by simp))) (by simp [Value.oneCell']) (by decide) (by unfold maxLen; omega) (by omega) _ rfl ?_; intro g2 off2 cap2 w6 hs6 hg6 ha6 hl6; obtain ⟨⟨q0, q1, q2⟩, ⟨y0, y1, y2⟩, hlp6⟩ := plan_cells ((hg6.block pb (by simp; omega) (fun e => HMid.out.thh.ne HMid.out.pl (by decide) e.symm)).trans ((Below.heap_alloc _ _ _ hlp).trans HMid.out.pl)))
            all_goals
              rw [← HTV.out] at hs6
              go_wp2
              go_roundw
              case rel =>
                refine ⟨k + 1, by omega, by go_num, _, _, HMid.out.tstep HFix.out (Below.refl _ _).drew hs6 hg6 ?_⟩
                rcases ha6 with e | e
                · exact Or.inl e
                · right; simp at e; show X.heap.size ≤ _; omega
              case measure => simp [intOf]; omega
        · obtain rfl : k = m := by omega
          obtain ⟨⟨k0, k1, k2⟩, ⟨f0, f1, f2⟩, hlp⟩ := plan_cells hQ.pl
          obtain ⟨⟨r0, r1, r2⟩, ⟨s0, s1, s2⟩, hlr⟩ := plan_cells hQ.rs0
          obtain ⟨px, pc, rfl⟩ := hQ.pro.slc
          obtain ⟨tx, tc, rfl⟩ := hQ.thh.slc
          obtain ⟨sx, sc, rfl⟩ := hQ.snt.slc
          have hne : w.heap.size ≠ pb := by have := HFix.out.f3; omega
          clear hQ
          go_wp2
          (try simp only [Exit.inBlock, Exit.then])
          refine bodyPost_ret (v := .tuple #[.agg #[.slice sx t sc, .slice px k pc, .slice tx k tc], .nilIface]) ?_ rfl ⟨_, _, _, rfl, HQ.out.plan (by omega) (by omega) ?_, ?_⟩
          · rw [results_cell_tmp rfl]
            go_simp
          · exact Ot.setCell (S := fun b => b = w.heap.size) (p := ⟨w.heap.size, 2, none⟩) (Ot.setCell (S := fun b => b = w.heap.size) (p := ⟨w.heap.size, 1, none⟩) (Ot.setCell (S := fun b => b = w.heap.size) (p := ⟨w.heap.size, 0, none⟩) (Ot.refl _ _) (Or.inl rfl) _) (Or.inl rfl) _) (Or.inl rfl) _
          · repeat' (first | with_reducible exact HQ.out.bel | with_reducible refine Below.setCell ?_ (by simp) _)
end Go.Proofs.YtnaooocmggnojaaDoor
