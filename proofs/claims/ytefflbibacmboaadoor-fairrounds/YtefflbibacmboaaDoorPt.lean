/-
  millracelaw.played with a last question: true, where a queue and one of the reference agree, and the question is answered so as long as they do. Conditions: the steps lie in memory, a thousand at most; the queues' methods and the question do what their premises tell.
-/
import Derived.Test.YtefflbibacmboaaDoorPe
namespace Go.Proofs.YtefflbibacmboaaDoor
open Go.RowKit Go.Extern.Stop Go.Stop Go.Extern

theorem neqFn (cf : Nat) (caps : Array Value) (w : World) : (binOp .neq 43 (.func (.func cf) #[] caps) .nilFunc).run Tryd.prog w = .ok (.bool true) w := by kernel_rfl
set_option maxRecDepth 20000 in
set_option maxHeartbeats 8000000 in
theorem playedT_any (cf : Nat) (caps : Array Value) (hent : ∀ (args : Array Value) (W : World), (callFunc cf args).run Tryd.prog W = .ok (.enter cf args) W) (M : QM) (hM : M.Fine) (R : RM) (hR : R.Fine) (Rel : M.σ → R.σ → Prop) (hAg : Agree M R Rel) (F0 G0 : Nat → Prop) (s0 : M.σ) (r0 : R.σ) (x : Option Addr) (cap : Nat) (xs : List Stp) (w : World) (h : Lies w x (flt Stp.cs xs)) (hn : xs.length ≤ 1000) (hA : M.At w F0 s0) (hI : M.inv 0 0 s0) (hB : R.At w G0 r0) (hJ : R.inv 0 0 r0) (hdis : ∀ k, F0 k → ¬ G0 k) (hrel : Rel s0 r0)
    (hth : ∀ (W : World) (F G : Nat → Prop) (s : M.σ) (r : R.σ) (t : Int) (n : Nat), Ot (fun k => F0 k ∨ G0 k) w W → M.At W F s → R.At W G r → Rel s r → M.inv t n s → R.inv t n r → n ≤ 1001 → Calls Tryd.prog cf caps W fun e w' => e = .returned (.bool true) ∧ Below W.heap.size W w') :
    Calls Tryd.prog 10 #[.iface M.ty M.rv, .iface R.ty R.rv, .slice x xs.length cap, .func (.func cf) #[] caps] w fun e w' => e = .returned (.bool true) ∧ Ot (fun k => F0 k ∨ G0 k) w w' ∧ ∃ F G s r, M.At w' F s ∧ R.At w' G r ∧ (∀ k, F k → F0 k ∨ w.heap.size ≤ k) ∧ (∀ k, G k → G0 k ∨ w.heap.size ≤ k) := by
  have HTH : Hid (∀ (W : World) (F G : Nat → Prop) (s : M.σ) (r : R.σ) (t : Int) (n : Nat), Ot (fun k => F0 k ∨ G0 k) w W → M.At W F s → R.At W G r → Rel s r → M.inv t n s → R.inv t n r → n ≤ 1001 → Calls Tryd.prog cf caps W fun e w' => e = .returned (.bool true) ∧ Below W.heap.size W w') := hth
  have hnf := neqFn cf caps
  clear hth
  have HM : Hid M.Fine := hM
  have HRF : Hid R.Fine := hR
  have HAG : Hid (Agree M R Rel) := hAg
  have HL : Hid (Lies w x (flt Stp.cs xs)) := h
  have HST : Hid (M.At w F0 s0 ∧ M.inv 0 0 s0 ∧ R.At w G0 r0 ∧ R.inv 0 0 r0 ∧ (∀ k, F0 k → ¬ G0 k) ∧ Rel s0 r0) := ⟨hA, hI, hB, hJ, hdis, hrel⟩
  have hmP := hR.mP
  have hmT := hR.mT
  have hmW := hR.mW
  have hmA := hR.mA
  have heP := hR.eP
  have heT := hR.eT
  have heW := hR.eW
  have heA := hR.eA
  have hnq := neqNil
  clear h hA hI hM hR hAg hB hJ hdis hrel
  obtain ⟨q, hq⟩ : ∃ q, xs.length = q := ⟨_, rfl⟩
  have HTC := times_any x cap xs w HL.out hn
  rw [hq] at HTC hn ⊢
  have HN : Hid (xs.length = q) := hq
  clear hq
  obtain ⟨i0, hi, hz0, hz1, hz2⟩ := info_parts infoInt1
  go_enter Tryd.func10, Tryd.ntmps10
  go_wp2_with (go_at_call 31; refine HTC.mono ?_; rintro e w1 ⟨tv, rfl, ht1, hn1, hb1⟩; obtain ⟨tx, tcap, htv, htl⟩ := ht1.lies; rw [htv]; rw [timesL_length, HN.out])
  have HT1 : Hid (Sts w1 tv (timesL 0 xs)) := ht1
  have HTL : Hid (tv = .slice tx q tcap) := by rw [timesL_length, HN.out] at htv; exact htv
  have HB1 : Hid (Below w.heap.size w w1) := hb1
  have HN1 : Hid (∀ k, tv.ownBlock = some k → w.heap.size ≤ k) := hn1
  clear ht1 htv htl hb1 hn1 HTC
  go_loopw [10, 11] (fun nv i wr => ∃ (k n : Nat) (s : M.σ) (r : R.σ) (F G : Nat → Prop), k ≤ q ∧ i = .int .i64 k ∧ nv = .int .i64 n ∧ PdR M R Rel w F0 G0 xs tv k n wr s r F G) (fun _ i _ => q - (intOf i).toNat)
  case atStart =>
    obtain ⟨hA, hI, hB, hJ, hdis, hrel⟩ := HST.out
    have e0 : nowAt 0 xs 0 = 0 := by cases xs <;> rfl
    refine ⟨0, 0, s0, r0, F0, G0, Nat.zero_le _, rfl, rfl, Nat.le_refl _, hrel, HM.out.kept hA (fun k hk => HB1.out.block k (HM.out.low hA k hk)), by rw [e0]; exact hI, HRF.out.kept hB (fun k hk => HB1.out.block k (HRF.out.low hB k hk)), by rw [e0]; exact hJ, hdis, HT1.out, fun b hb => ⟨HN1.out b hb, fun hf => ?_, fun hf => ?_⟩, fun k hk => Or.inl hk, fun k hk => Or.inl hk, Ot.of_below HB1.out⟩
    · have h1 := HN1.out b hb
      have h2 := HM.out.low hA b hf
      omega
    · have h1 := HN1.out b hb
      have h2 := HRF.out.low hB b hf
      omega
  case round =>
    obtain ⟨k, n, s, r, F, G, hk, rfl, rfl, hr⟩ := hrel
    have HR : Hid (PdR M R Rel w F0 G0 xs tv k n wr s r F G) := hr
    clear hr
    by_cases hlt : k < q
    · obtain ⟨y, hy⟩ : ∃ y, xs[k]? = some y := ⟨_, List.getElem?_eq_getElem (by have := HN.out; omega)⟩
      have hts := timesL_at (t := 0) hy
      obtain ⟨t, ht⟩ : ∃ t, nowAt 0 xs (k + 1) = t := ⟨_, rfl⟩
      have ht1 : 0 ≤ t ∧ t ≤ 1000000 := by have := nowAt_le 0 xs (k + 1); omega
      have ht2 : nowAt 0 xs k ≤ t ∧ 0 ≤ nowAt 0 xs k := by have := nowAt_succ (t := 0) hy; have := later_le y; have := nowAt_le 0 xs k; omega
      have HT : Hid (nowAt 0 xs (k + 1) = t) := ht
      rw [ht] at hts
      clear hy ht
      obtain ⟨st, hst⟩ : ∃ st, timed t y = st := ⟨_, rfl⟩
      have hlt1 : st.lt = t := by rw [← hst]; rfl
      have hat1 : st.a = t := by rw [← hst]; rfl
      have HOK : Hid (st.what = 0 → It.ok ⟨st.a, st.l, st.f, st.b, st.m⟩ = true) := by
        intro h0
        subst hst
        exact timed_ok (t := t) (s := y) h0
      rw [hst] at hts
      obtain ⟨tx', tcap', htv', htl⟩ := HR.out.trow.lies
      rw [HTL.out, timesL_length, HN.out] at htv'
      obtain ⟨htx, htc⟩ : tx = tx' ∧ tcap = tcap' := by
        simp at htv'
        exact ⟨htv'.1, htv'.2⟩
      subst htx htc
      obtain ⟨b, off, rfl, hbl, c0, c1, c2, c3, c4, c5, c6⟩ := htl.seven hts
      clear htl hts hst htv'
      have HSA : Hid (st.a = st.lt) := by show _ = _; rw [hat1, hlt1]
      have hl0 : nowAt 0 xs k ≤ st.lt ∧ st.lt ≤ 1000000 := by omega
      have HNX : Hid (nowAt 0 xs (k + 1) = st.lt) := by show _ = _; rw [HT.out, hlt1]
      have HT0 : Hid (0 ≤ nowAt 0 xs k) := ht2.2
      have hnk : n ≤ 1000 := by have := HR.out.le; omega
      have HML := HM.out.low HR.out.mpos
      have HGL := HRF.out.low HR.out.rpos
      clear ht1 ht2 hlt1 hat1
      obtain ⟨p, hp⟩ : ∃ p, stepR R r n st = p := ⟨_, rfl⟩
      have HSP : Hid (stepR R r n st = p) := hp
      clear hp
      have HG1 : Hid (∀ o : Obj, R.At (wr.alloc o) G r) := fun o => HRF.out.kept HR.out.rpos (fun j hj => Below.heap_alloc _ _ _ (HGL j hj))
      go_upto_block 2 with (fail)
      go_cut [10, 13, 14, 15, 16] (fun nv tk mk wn lv wx => nv = .int .i64 p.1.2 ∧ tk = .int .i64 p.2.1 ∧ mk = .int .i64 p.2.2.1 ∧ wn = .int .i64 p.2.2.2.1 ∧ ∃ G', PdM R wr G p st.blk wx G' lv)
      case first =>
        have hV := Hd.val_eq
        by_cases hw0 : st.what = 0
        · have HW : Hid (st.what = 0) := hw0
          have hw2 : (st.what == 0) = true := by simpa using hw0
          clear hw0
          go_wp2_with fail
          refine (HRF.out.cP (t := nowAt 0 xs k) (n := n) st.lt (hdOf st n) (HG1.out _) HR.out.rinv HT0.out hl0.1 hl0.2 (HOK.out HW.out) HSA.out rfl hnk).mono ?_
          rintro e w2 ⟨u, G2, rfl, hu2, ha2, hf2, hn2, ho2⟩
          obtain ⟨x1, x2⟩ := one_after HGL ho2
          have HRR0 : Hid (p = (((R.put r st.lt (hdOf st n)).1, n + 1), -1, 0, -1, (R.put r st.lt (hdOf st n)).2)) := by show p = _; rw [← HSP.out]; simp only [stepR, if_pos HW.out]
          generalize R.put r st.lt (hdOf st n) = Tk at *
          obtain ⟨s2, l2⟩ := Tk
          have HMID : Hid (PdM R wr G (((s2, n + 1), -1, 0, -1, l2) : (R.σ × Nat) × Int × Int × Int × List Hd) st.blk w2 G2 u) := ⟨hu2, ha2, fun j hj => by have := hf2 j hj; simpa using this, x1, (Ot.alloc (Ot.refl _ wr) _).trans ho2⟩
          clear hu2 ha2 hf2 hn2 ho2 x1 x2
          go_wp2
          go_meet
          case rel => rw [HRR0.out]; exact ⟨by first | rfl | (congr 1; omega), rfl, rfl, rfl, G2, HMID.out⟩
        · have HW : Hid (¬ st.what = 0) := hw0
          have hw2 : (st.what == 0) = false := by simpa using hw0
          clear hw0
          by_cases hw1 : st.what = 1
          · have HW1 : Hid (st.what = 1) := hw1
            have hw3 : (st.what == 1) = true := by simpa using hw1
            clear hw1
            go_wp2_with fail
            refine (HRF.out.cT (t := nowAt 0 xs k) (n := n) st.lt (HG1.out _) HR.out.rinv HT0.out hl0.1 hl0.2 hnk).mono ?_
            rintro e w2 ⟨u, G2, rfl, hu2, ha2, hf2, hn2, ho2⟩
            obtain ⟨x1, x2⟩ := one_after HGL ho2
            have HRR0 : Hid (p = (((R.take r st.lt).1, n), if (R.take r st.lt).2.2.2 then (R.take r st.lt).2.2.1.n else -1, if (R.take r st.lt).2.2.2 then (R.take r st.lt).2.2.1.m else 0, -1, (R.take r st.lt).2.1)) := by show p = _; rw [← HSP.out]; simp only [stepR, if_neg HW.out, if_pos HW1.out]
            generalize R.take r st.lt = Tk at *
            obtain ⟨s2, l2, hx, ok2⟩ := Tk
            have HMID : Hid (∀ {a c : Int} {w3 : World}, Ot (fun _ => False) w2 w3 → PdM R wr G (((s2, n), a, c, -1, l2) : (R.σ × Nat) × Int × Int × Int × List Hd) st.blk w3 G2 u) := by
              intro a c w3 ho
              have hbw : Below w2.heap.size w2 w3 := ho.below (Nat.le_refl _) (fun k h => h.elim)
              exact ⟨Ps.below hu2 hbw, HRF.out.kept ha2 (fun j hj => hbw.block j (HRF.out.low ha2 j hj)), fun j hj => by have := hf2 j hj; simpa using this, (hbw.block _ (lt_of_block x1)).trans x1, ((Ot.alloc (Ot.refl _ wr) _).trans ho2).trans' ho (fun j h => h.elim)⟩
            clear hu2 ha2 hf2 hn2 ho2 x1 x2
            cases ok2 with
            | true =>
              go_wp2
              go_quiet (fail)
              go_wp2
              go_meet
              case rel => rw [HRR0.out]; exact ⟨rfl, rfl, rfl, rfl, G2, HMID.out (by repeat' (first | with_reducible exact Ot.refl _ _ | with_reducible refine Ot.drewN ?_ _ | with_reducible refine Ot.drew ?_ | with_reducible refine Ot.alloc ?_ _))⟩
            | false =>
              go_wp2
              go_meet
              case rel => rw [HRR0.out]; exact ⟨rfl, rfl, rfl, rfl, G2, HMID.out (by repeat' (first | with_reducible exact Ot.refl _ _ | with_reducible refine Ot.drewN ?_ _ | with_reducible refine Ot.drew ?_ | with_reducible refine Ot.alloc ?_ _))⟩
          · have HW1 : Hid (¬ st.what = 1) := hw1
            have hw3 : (st.what == 1) = false := by simpa using hw1
            clear hw1
            go_wp2_with fail
            refine (HRF.out.cW (t := nowAt 0 xs k) (n := n) st.lt (HG1.out _) HR.out.rinv HT0.out hl0.1 hl0.2 hnk).mono ?_
            rintro e w2 ⟨G2, rfl, ha2, hf2, ho2⟩
            obtain ⟨x1, x2⟩ := one_after HGL ho2
            have HRR0 : Hid (p = (((R.when r st.lt).1, n), -1, 0, if (R.when r st.lt).2.2 then (R.when r st.lt).2.1 else -1, [])) := by show p = _; rw [← HSP.out]; simp only [stepR, if_neg HW.out, if_neg HW1.out]
            generalize R.when r st.lt = Tk at *
            obtain ⟨s2, a2, ok2⟩ := Tk
            have HMID : Hid (∀ {a : Int}, PdM R wr G (((s2, n), -1, 0, a, []) : (R.σ × Nat) × Int × Int × Int × List Hd) st.blk w2 G2 (.slice none 0 0)) := fun {a} => ⟨Ps.nil _, ha2, fun j hj => by have := hf2 j hj; simpa using this, x1, (Ot.alloc (Ot.refl _ wr) _).trans ho2⟩
            clear ha2 hf2 ho2 x1 x2
            cases ok2 with
            | true =>
              go_wp2
              go_meet
              case rel => rw [HRR0.out]; exact ⟨rfl, rfl, rfl, rfl, G2, HMID.out⟩
            | false =>
              go_wp2
              go_meet
              case rel => rw [HRR0.out]; exact ⟨rfl, rfl, rfl, rfl, G2, HMID.out⟩
      case rest =>
      obtain ⟨rfl, rfl, rfl, rfl, G2, hmid⟩ := hcut
      have HMID : Hid (PdM R wr G p st.blk wc G2 u16) := hmid
      obtain ⟨hJ2, hn2, hfew⟩ := stepR_inv HRF.out HR.out.rinv (st := st) HT0.out hl0.1 hl0.2 HOK.out HSA.out hnk
      obtain ⟨ag1, ag2, ag3, ag4, ag5, ag6, ag7, ag8⟩ := agree_step HAG.out HM.out HR.out.rel HR.out.minv HR.out.rinv (st := st) HT0.out hl0.1 hl0.2 HOK.out HSA.out hnk
      have hI2 := (stepQ_inv HM.out HR.out.minv (st := st) HT0.out hl0.1 hl0.2 HOK.out HSA.out hnk).1
      rw [HSP.out] at hJ2 hn2 hfew ag1 ag2 ag3 ag4 ag5 ag6 ag7 ag8
      have HMC : Hid (M.At wc F s) := HM.out.kept HR.out.mpos (fun j hj => hmid.ot.block j (HML j hj) (HR.out.dis j hj))
      have hwcs := hmid.ot.size
      have hb12 := lt_of_block hmid.box
      have HJ2 : Hid (R.inv st.lt p.1.2 p.1.1) := hJ2
      have HI2 : Hid (M.inv st.lt (stepQ M s n st).1.2 (stepQ M s n st).1.1) := hI2
      have HAG1 : Hid ((stepQ M s n st).1.2 = p.1.2) := ag1
      have HAG2 : Hid (Rel (stepQ M s n st).1.1 p.1.1) := ag2
      have HGF : Hid (∀ j, G2 j → ¬ F j) := by
        intro j hj hf
        rcases hmid.gnew j hj with h | h
        · exact HR.out.dis j hf h
        · have := HML j hf; omega
      obtain ⟨vx, vcap, huv, hvl⟩ := Seg.lies hmid.lost
      obtain ⟨l2, hl2⟩ : ∃ l2, p.2.2.2.2 = l2 := ⟨_, rfl⟩
      rw [hl2] at huv hvl hfew ag6
      have HVL : Hid (Lies wc vx (flt Hd.cs l2)) := hvl
      obtain ⟨nl, hnl⟩ : ∃ nl, l2.length = nl := ⟨_, rfl⟩
      have HNL : Hid (l2.length = nl) := hnl
      rw [hnl] at hfew huv
      subst huv
      obtain ⟨tk, htk⟩ : ∃ tk, p.2.1 = tk := ⟨_, rfl⟩
      obtain ⟨mk, hmk⟩ : ∃ mk, p.2.2.1 = mk := ⟨_, rfl⟩
      obtain ⟨wn, hwn⟩ : ∃ wn, p.2.2.2.1 = wn := ⟨_, rfl⟩
      rw [htk] at ag3 ⊢
      rw [hmk] at ag4 ⊢
      rw [hwn] at ag5 ⊢
      obtain ⟨nv, hnv⟩ : ∃ nv, p.1.2 = nv := ⟨_, rfl⟩
      rw [hnv] at hn2 ⊢
      have HNV : Hid (p.1.2 = nv) := hnv
      obtain ⟨nA, hnA⟩ : ∃ nA, (R.all p.1.1).length = nA := ⟨_, rfl⟩
      obtain ⟨sA, hsA⟩ : ∃ sA, sumL (R.all p.1.1) = sA := ⟨_, rfl⟩
      have HNA : Hid ((R.all p.1.1).length = nA) := hnA
      have HSA2 : Hid (sumL (R.all p.1.1) = sA) := hsA
      rw [hnA] at ag7
      rw [hsA] at ag8
      have HSEEN : Hid (∀ W : World, Below wc.heap.size wc W → Calls Tryd.prog 32 #[.iface M.ty M.rv, .agg #[.int .i64 st.what, .int .i64 st.lt, .int .i64 st.a, .int .i64 st.l, .int .i64 st.f, .int .i64 st.b, .int .i64 st.m], .int .i64 n] W fun e w' => ∃ lv F', e = .returned (.agg #[.int .i64 tk, .int .i64 mk, .int .i64 wn, .int .i64 nA, .int .i64 sA, lv]) ∧ Ins w' lv (l2.map Hd.n) ∧ (∀ k, lv.ownBlock = some k → W.heap.size ≤ k ∧ ¬ F' k) ∧ M.At w' F' (stepQ M s n st).1.1 ∧ (∀ k, F' k → F k ∨ W.heap.size ≤ k) ∧ Ot F W w') := by
        intro W hW
        have h1 := seen_any M HM.out (F := F) (s := s) (t := nowAt 0 xs k) (n := n) (st := st) W (HM.out.kept HMC.out (fun j hj => hW.block j (HM.out.low HMC.out j hj))) HR.out.minv HT0.out hl0.1 hl0.2 HOK.out HSA.out hnk
        rw [ag3, ag4, ag5, ag6, ag7, ag8] at h1
        exact h1
      clear hmid hJ2 hI2 ag1 ag2 ag3 ag4 ag5 ag6 ag7 ag8 hvl hl2 hnl htk hmk hwn hnv hnA hsA
      go_wp2_with fail
      go_loopw [23, 24] (fun gv i wq => ∃ j : Nat, j ≤ nl ∧ i = .int .i64 j ∧ Ins wq gv (nums l2 j) ∧ (∀ b, gv.ownBlock = some b → wc.heap.size ≤ b) ∧ Below wc.heap.size wc wq) (fun _ i _ => nl - (intOf i).toNat)
      case atStart => exact ⟨0, Nat.zero_le _, rfl, Ins.nil _, fun b hb => by simp [Value.ownBlock] at hb, Below.refl _ _⟩
      case round =>
        obtain ⟨j, hj, rfl, hin, hown, hbq⟩ := hrel
        have HIN : Hid (Ins wr u23 (nums l2 j)) := hin
        have HOW : Hid (∀ b, u23.ownBlock = some b → wc.heap.size ≤ b) := hown
        have hqs := hbq.size
        clear hin hown
        by_cases hjn : j < nl
        · obtain ⟨s1, hs1⟩ : ∃ s1, l2[j]? = some s1 := ⟨_, List.getElem?_eq_getElem (by have := HNL.out; omega)⟩
          have HS1 : Hid (l2[j]? = some s1) := hs1
          obtain ⟨bb, off', rfl, hbb, k0, k1, k2, k3, k4, k5⟩ := (HVL.out.below hbq).held hs1
          have HI' : Hid (Seg wr 3 1 u23 j ((nums l2 j).map (Value.int .i64))) := by have := HIN.out; unfold Ins at this; rw [nums_length (by have := HNL.out; omega)] at this; exact this
          clear hs1
          go_wp2_with (at_builtin; refine wpList_append_seg _ rfl (.tmp 86) (.tmp 92) 24 rfl 3 i0 _ 1 8 Tryd.underlying24 hi hz0 hz1 hz2 rfl (by decide) _ _ _ rfl (HI'.out.below (below_alloc_ (Below.refl _ _) _)) _ 1 1 _ rfl rfl (news_of (new_block_ (by simp))) (by simp [Value.oneCell']) (by decide) (by unfold maxLen; omega) (by omega) _ rfl ?_; intro g goff gcap w3 hs3 hg3 ha3 hl3)
          go_roundw
          case rel =>
            refine ⟨j + 1, by omega, by go_num, ?_, fun b hb => ?_, below_grown_ (below_alloc_ hbq _) hg3 HOW.out⟩
            · unfold Ins
              rw [nums_succ HS1.out, List.length_append, nums_length (by have := HNL.out; omega), List.map_append]
              exact hs3
            · simp only [Value.ownBlock, Option.some.injEq] at hb
              subst hb
              rcases ha3 with h | h
              · exact HOW.out _ h
              · simp at h; omega
          case measure => simp [intOf]; omega
        · obtain rfl : j = nl := by omega
          have HIN2 : Hid (Ins wr u23 (l2.map Hd.n)) := by have := HIN.out; rw [← HNL.out, nums_all] at this; exact this
          clear HIN
          obtain ⟨s0', s1', s2', s3', s4', s5', s6'⟩ := seven ((hbq.block _ hb12).trans HMID.out.box)
          have hb13 := Nat.lt_of_lt_of_le hb12 hqs
          have HSE := HSEEN.out wr hbq
          have HPW : Hid (R.At wr G2 p.1.1) := HRF.out.kept HMID.out.pos (fun j hj => hbq.block j (HRF.out.low HMID.out.pos j hj))
          clear HSEEN
          go_wp2_with (go_at_call 32; refine HSE.mono ?_; rintro e w5 ⟨lv, F2, rfl, hi5, ho5', ha5, hf5, ho5⟩; obtain ⟨lx, ln, lc, hlv⟩ := insl hi5; subst hlv)
          have HI5 : Hid (Ins w5 (.slice lx ln lc) (l2.map Hd.n)) := hi5
          have HO5' : Hid (∀ k, (Value.slice lx ln lc).ownBlock = some k → wr.heap.size ≤ k ∧ ¬ F2 k) := ho5'
          have HA5 : Hid (M.At w5 F2 (stepQ M s n st).1.1) := ha5
          have HF5 : Hid (∀ k, F2 k → F k ∨ wr.heap.size ≤ k) := hf5
          have HO5 : Hid (Ot F wr w5) := ho5
          have h5s := ho5.size
          have HG5 : Hid (R.At w5 G2 p.1.1) := HRF.out.kept HPW.out (fun j hj => ho5.block j (HRF.out.low HPW.out j hj) (HGF.out j hj))
          have HU5 : Hid (Ins w5 u23 (l2.map Hd.n)) := Seg.oth HIN2.out ho5 (fun j hj hf => by have h1 := HOW.out j hj; have h2 := HML j hf; omega)
          clear hi5 ho5' ha5 hf5 ho5 HSE s0' s1' s2' s3' s4' s5' s6'
          refine (HRF.out.cA (HRF.out.kept HG5.out (fun j hj => Below.heap_alloc _ _ _ (HRF.out.low HG5.out j hj))) HJ2.out (by rw [HNV.out]; omega)).mono ?_
          rintro e w6 ⟨av, rfl, hp6, hfit6, hb6⟩
          obtain ⟨ax, acap, hav, _⟩ := hp6.shape
          rw [HNA.out] at hav
          subst hav
          have HP6 : Hid (Ps w6 (.slice ax nA acap) (R.all p.1.1)) := hp6
          have HFIT : Hid (Fit (R.all p.1.1)) := hfit6
          have HB6 : Hid (Below (w5.alloc (.cells #[.int .i64 tk, .int .i64 mk, .int .i64 wn, .int .i64 nA, .int .i64 sA, .slice lx ln lc] 105)).heap.size (w5.alloc (.cells #[.int .i64 tk, .int .i64 mk, .int .i64 wn, .int .i64 nA, .int .i64 sA, .slice lx ln lc] 105)) w6) := hb6
          have hz6 : w6.heap[w5.heap.size]? = some (.cells #[.int .i64 tk, .int .i64 mk, .int .i64 wn, .int .i64 nA, .int .i64 sA, .slice lx ln lc] 105 (0, 0)) := (hb6.block _ (by simp)).trans (new_block _ _)
          have HZ6 : Hid (w6.heap[w5.heap.size]? = some (.cells #[.int .i64 tk, .int .i64 mk, .int .i64 wn, .int .i64 nA, .int .i64 sA, .slice lx ln lc] 105 (0, 0))) := hz6
          have HB56 : Hid (Below w5.heap.size w5 w6) := (below_alloc_ (Below.refl w5.heap.size w5) _).trans (hb6.mono (by simp))
          have HSS : Hid (∀ W : World, Below w6.heap.size w6 W → W.cell? ⟨w5.heap.size, 0, none⟩ = some (.int .i64 tk) ∧ W.cell? ⟨w5.heap.size, 1, none⟩ = some (.int .i64 mk) ∧ W.cell? ⟨w5.heap.size, 2, none⟩ = some (.int .i64 wn) ∧ W.cell? ⟨w5.heap.size, 3, none⟩ = some (.int .i64 nA) ∧ W.cell? ⟨w5.heap.size, 4, none⟩ = some (.int .i64 sA) ∧ W.cell? ⟨w5.heap.size, 5, none⟩ = some (.slice lx ln lc)) := by
            intro W hW
            exact (six ((hW.block _ (lt_of_block HZ6.out)).trans HZ6.out)).1
          have HBY : Hid (∀ W : World, Below w6.heap.size w6 W → Calls Tryd.prog 33 #[.slice ax nA acap] W fun e w' => e = .returned (.int .i64 sA) ∧ Below W.heap.size W w') := by
            intro W hW
            have h1 := rbytes_any W (Ps.below HP6.out hW) HFIT.out
            rw [HSA2.out] at h1
            exact h1
          have HSI : Hid (∀ W : World, Below w6.heap.size w6 W → Calls Tryd.prog 34 #[.slice lx ln lc, u23] W fun e w' => e = .returned (.bool true) ∧ ∃ q, w' = W.drewN q) := fun W hW => sameIns_any W (Seg.below (Seg.below HI5.out HB56.out) hW) (Seg.below (Seg.below HU5.out HB56.out) hW)
          clear hp6 hfit6 hb6 hz6
          go_wp2_with fail
          refine wp_region_held_drew (S := fun W => W.cell? ⟨w5.heap.size, 0, none⟩ = some (.int .i64 tk) ∧ W.cell? ⟨w5.heap.size, 1, none⟩ = some (.int .i64 mk) ∧ W.cell? ⟨w5.heap.size, 2, none⟩ = some (.int .i64 wn) ∧ W.cell? ⟨w5.heap.size, 3, none⟩ = some (.int .i64 nA) ∧ W.cell? ⟨w5.heap.size, 4, none⟩ = some (.int .i64 sA) ∧ W.cell? ⟨w5.heap.size, 5, none⟩ = some (.slice lx ln lc)) (by kernel_rfl) (HSS.out _ (Below.refl _ _).drew) ?_
          intro hS
          refine wpAnyH_take (i := 0) (v := ?_) rfl (by kernel_rfl) (by kernel_rfl) (by kernel_rfl) (fun _ _ _ h => h) (Or.inl ⟨by rfl, ?_⟩) (by assumption) ?_
          rotate_left
          · intro W hSw
            (try dsimp only at hSw)
            go_simp
            (try with_reducible rfl)
          simp only [Act.put, List.getElem_toArray, List.getElem_cons_zero, List.setIfInBounds_toArray, List.set_cons_zero, List.set_cons_succ]
          refine wpAnyH_take (i := 1) (v := ?_) rfl (by kernel_rfl) (by kernel_rfl) (by kernel_rfl) (fun _ _ _ h => h) (Or.inl ⟨by rfl, ?_⟩) (by assumption) ?_
          rotate_left
          · intro W hSw
            (try dsimp only at hSw)
            go_simp
            (try with_reducible rfl)
          simp only [Act.put, List.getElem_toArray, List.getElem_cons_zero, List.getElem_cons_succ, List.setIfInBounds_toArray, List.set_cons_zero, List.set_cons_succ]
          refine wpAnyH_take (i := 2) (v := ?_) rfl (by kernel_rfl) (by kernel_rfl) (by kernel_rfl) (fun _ _ _ h => h) (Or.inl ⟨by rfl, ?_⟩) (by assumption) ?_
          rotate_left
          · intro W hSw
            (try dsimp only at hSw)
            go_simp
            (try with_reducible rfl)
          simp only [Act.put, List.getElem_toArray, List.getElem_cons_zero, List.getElem_cons_succ, List.setIfInBounds_toArray, List.set_cons_zero, List.set_cons_succ]
          refine wpAnyH_take (i := 3) (v := ?_) rfl (by kernel_rfl) (by kernel_rfl) (by kernel_rfl) (fun _ _ _ h => h) (Or.inl ⟨by rfl, ?_⟩) (by assumption) ?_
          rotate_left
          · intro W hSw
            (try dsimp only at hSw)
            go_simp
            (try with_reducible rfl)
          simp only [Act.put, List.getElem_toArray, List.getElem_cons_zero, List.getElem_cons_succ, List.setIfInBounds_toArray, List.set_cons_zero, List.set_cons_succ]
          refine wpAnyH_take (i := 4) (v := ?_) rfl (by kernel_rfl) (by kernel_rfl) (by kernel_rfl) (fun _ _ _ h => h) (Or.inl ⟨by rfl, ?_⟩) (by assumption) ?_
          rotate_left
          · intro W hSw
            (try dsimp only at hSw)
            go_simp
            (try with_reducible rfl)
          simp only [Act.put, List.getElem_toArray, List.getElem_cons_zero, List.getElem_cons_succ, List.setIfInBounds_toArray, List.set_cons_zero, List.set_cons_succ]
          refine wpAnyH_take (i := 5) (v := ?_) rfl (by kernel_rfl) (by kernel_rfl) (by kernel_rfl) (fun _ _ _ h => h) (Or.inl ⟨by rfl, ?_⟩) (by assumption) ?_
          rotate_left
          · intro W hSw
            (try dsimp only at hSw)
            go_simp
            (try with_reducible rfl)
          simp only [Act.put, List.getElem_toArray, List.getElem_cons_zero, List.getElem_cons_succ, List.setIfInBounds_toArray, List.set_cons_zero, List.set_cons_succ]
          refine wpAnyH_take (i := 6) (v := ?_) rfl (by kernel_rfl) (by kernel_rfl) (by kernel_rfl) (fun _ _ _ h => h) (Or.inl ⟨by rfl, ?_⟩) (by assumption) ?_
          rotate_left
          · intro W hSw
            (try dsimp only at hSw)
            go_simp
            (try with_reducible rfl)
          simp only [Act.put, List.getElem_toArray, List.getElem_cons_zero, List.getElem_cons_succ, List.setIfInBounds_toArray, List.set_cons_zero, List.set_cons_succ]
          refine wpAnyH_take (i := 7) (v := ?_) rfl (by kernel_rfl) (by kernel_rfl) (by kernel_rfl) (fun _ _ _ h => h) (Or.inl ⟨by rfl, ?_⟩) (by assumption) ?_
          rotate_left
          · intro W hSw
            (try dsimp only at hSw)
            go_simp
            (try with_reducible rfl)
          simp only [Act.put, List.getElem_toArray, List.getElem_cons_zero, List.getElem_cons_succ, List.setIfInBounds_toArray, List.set_cons_zero, List.set_cons_succ]
          refine wpAnyH_take (i := 8) (v := ?_) rfl (by kernel_rfl) (by kernel_rfl) (by kernel_rfl) (fun _ _ _ h => h) (Or.inl ⟨by rfl, ?_⟩) (by assumption) ?_
          rotate_left
          · intro W hSw
            (try dsimp only at hSw)
            go_simp
            (try with_reducible rfl)
          simp only [Act.put, List.getElem_toArray, List.getElem_cons_zero, List.getElem_cons_succ, List.setIfInBounds_toArray, List.set_cons_zero, List.set_cons_succ]
          refine wpAnyH_take (i := 9) (v := ?_) rfl (by kernel_rfl) (by kernel_rfl) (by kernel_rfl) (fun _ _ _ h => h) (Or.inl ⟨by rfl, ?_⟩) (by assumption) ?_
          rotate_left
          · intro W hSw
            (try dsimp only at hSw)
            go_simp
            (try with_reducible rfl)
          simp only [Act.put, List.getElem_toArray, List.getElem_cons_zero, List.getElem_cons_succ, List.setIfInBounds_toArray, List.set_cons_zero, List.set_cons_succ]
          refine wpAnyH_take (i := 10) (v := ?_) rfl (by kernel_rfl) (by kernel_rfl) (by kernel_rfl) (fun _ _ _ h => h) (Or.inl ⟨by rfl, ?_⟩) (by assumption) ?_
          rotate_left
          · intro W hSw
            (try dsimp only at hSw)
            go_simp
            (try with_reducible rfl)
          simp only [Act.put, List.getElem_toArray, List.getElem_cons_zero, List.getElem_cons_succ, List.setIfInBounds_toArray, List.set_cons_zero, List.set_cons_succ]
          refine wpAnyH_take (i := 11) (v := ?_) rfl (by kernel_rfl) (by kernel_rfl) (by kernel_rfl) (fun _ _ _ h => h) (Or.inl ⟨by rfl, ?_⟩) (by assumption) ?_
          rotate_left
          · intro W hSw
            (try dsimp only at hSw)
            go_simp
            (try with_reducible rfl)
          simp only [Act.put, List.getElem_toArray, List.getElem_cons_zero, List.getElem_cons_succ, List.setIfInBounds_toArray, List.set_cons_zero, List.set_cons_succ]
          refine wpAnyH_take (i := 12) (v := ?_) rfl (by kernel_rfl) (by kernel_rfl) (by kernel_rfl) (fun _ _ _ h => h) (Or.inl ⟨by rfl, ?_⟩) (by assumption) ?_
          rotate_left
          · intro W hSw
            (try dsimp only at hSw)
            go_simp
            (try with_reducible rfl)
          simp only [Act.put, List.getElem_toArray, List.getElem_cons_zero, List.getElem_cons_succ, List.setIfInBounds_toArray, List.set_cons_zero, List.set_cons_succ]
          refine wpAnyH_take (i := 13) (v := ?_) rfl (by kernel_rfl) (by kernel_rfl) (by kernel_rfl) (fun _ _ _ h => h) (Or.inl ⟨by rfl, ?_⟩) (by assumption) ?_
          rotate_left
          · intro W hSw
            (try dsimp only at hSw)
            go_simp
            (try with_reducible rfl)
          simp only [Act.put, List.getElem_toArray, List.getElem_cons_zero, List.getElem_cons_succ, List.setIfInBounds_toArray, List.set_cons_zero, List.set_cons_succ]
          refine wpAnyH_take (i := 14) (v := ?_) rfl (by kernel_rfl) (by kernel_rfl) (by kernel_rfl) (fun _ _ _ h => h) (Or.inl ⟨by rfl, ?_⟩) (by assumption) ?_
          rotate_left
          · intro W hSw
            (try dsimp only at hSw)
            go_simp
            (try with_reducible rfl)
          simp only [Act.put, List.getElem_toArray, List.getElem_cons_zero, List.getElem_cons_succ, List.setIfInBounds_toArray, List.set_cons_zero, List.set_cons_succ]
          refine wpAnyH_take (i := 15) (v := ?_) rfl (by kernel_rfl) (by kernel_rfl) (by kernel_rfl) (fun _ _ _ h => h) (Or.inl ⟨by rfl, ?_⟩) (by assumption) ?_
          rotate_left
          · intro W hSw
            (try dsimp only at hSw)
            go_simp
            (try with_reducible rfl)
          simp only [Act.put, List.getElem_toArray, List.getElem_cons_zero, List.getElem_cons_succ, List.setIfInBounds_toArray, List.set_cons_zero, List.set_cons_succ]
          refine wpAnyH_take (i := 16) (v := ?_) rfl (by kernel_rfl) (by kernel_rfl) (by kernel_rfl) (fun _ _ _ h => h) (Or.inl ⟨by rfl, ?_⟩) (by assumption) ?_
          rotate_left
          · intro W hSw
            (try dsimp only at hSw)
            go_simp
            (try with_reducible rfl)
          simp only [Act.put, List.getElem_toArray, List.getElem_cons_zero, List.getElem_cons_succ, List.setIfInBounds_toArray, List.set_cons_zero, List.set_cons_succ]
          refine wpAnyH_take (i := 17) (v := ?_) rfl (by kernel_rfl) (by kernel_rfl) (by kernel_rfl) (fun _ _ _ h => h) (Or.inl ⟨by rfl, ?_⟩) (by assumption) ?_
          rotate_left
          · intro W hSw
            (try dsimp only at hSw)
            go_simp
            (try with_reducible rfl)
          simp only [Act.put, List.getElem_toArray, List.getElem_cons_zero, List.getElem_cons_succ, List.setIfInBounds_toArray, List.set_cons_zero, List.set_cons_succ]
          refine wpAnyH_take (i := 18) (v := ?_) rfl (by kernel_rfl) (by kernel_rfl) (by kernel_rfl) (fun _ _ _ h => h) (Or.inl ⟨by rfl, ?_⟩) (by assumption) ?_
          rotate_left
          · intro W hSw
            (try dsimp only at hSw)
            go_simp
            (try with_reducible rfl)
          simp only [Act.put, List.getElem_toArray, List.getElem_cons_zero, List.getElem_cons_succ, List.setIfInBounds_toArray, List.set_cons_zero, List.set_cons_succ]
          refine wpAnyH_take (i := 19) (v := ?_) rfl (by kernel_rfl) (by kernel_rfl) (by kernel_rfl) (fun _ _ _ h => h) (Or.inl ⟨by rfl, ?_⟩) (by assumption) ?_
          rotate_left
          · intro W hSw
            (try dsimp only at hSw)
            go_simp
            (try with_reducible rfl)
          simp only [Act.put, List.getElem_toArray, List.getElem_cons_zero, List.getElem_cons_succ, List.setIfInBounds_toArray, List.set_cons_zero, List.set_cons_succ]
          refine wpAnyH_take (i := 20) (v := ?_) rfl (by kernel_rfl) (by kernel_rfl) (by kernel_rfl) (fun _ _ _ h => h) (Or.inl ⟨by rfl, ?_⟩) (by assumption) ?_
          rotate_left
          · intro W hSw
            (try dsimp only at hSw)
            go_simp
            (try with_reducible rfl)
          simp only [Act.put, List.getElem_toArray, List.getElem_cons_zero, List.getElem_cons_succ, List.setIfInBounds_toArray, List.set_cons_zero, List.set_cons_succ]
          refine wpAnyH_take (i := 21) (v := ?_) rfl (by kernel_rfl) (by kernel_rfl) (by kernel_rfl) (fun _ _ _ h => h) (Or.inl ⟨by rfl, ?_⟩) (by assumption) ?_
          rotate_left
          · intro W hSw
            (try dsimp only at hSw)
            go_simp
            (try with_reducible rfl)
          simp only [Act.put, List.getElem_toArray, List.getElem_cons_zero, List.getElem_cons_succ, List.setIfInBounds_toArray, List.set_cons_zero, List.set_cons_succ]
          refine wpAnyH_take (i := 22) (v := ?_) rfl (by kernel_rfl) (by kernel_rfl) (by kernel_rfl) (fun _ _ _ h => h) (Or.inl ⟨by rfl, ?_⟩) (by assumption) ?_
          rotate_left
          · intro W hSw
            (try dsimp only at hSw)
            go_simp
            (try with_reducible rfl)
          simp only [Act.put, List.getElem_toArray, List.getElem_cons_zero, List.getElem_cons_succ, List.setIfInBounds_toArray, List.set_cons_zero, List.set_cons_succ]
          refine wpAnyH_take (i := 23) (v := ?_) rfl (by kernel_rfl) (by kernel_rfl) (by kernel_rfl) (fun _ _ _ h => h) (Or.inl ⟨by rfl, ?_⟩) (by assumption) ?_
          rotate_left
          · intro W hSw
            (try dsimp only at hSw)
            go_simp
            (try with_reducible rfl)
          simp only [Act.put, List.getElem_toArray, List.getElem_cons_zero, List.getElem_cons_succ, List.setIfInBounds_toArray, List.set_cons_zero, List.set_cons_succ]
          refine wpAnyH_take (i := 24) (v := ?_) rfl (by kernel_rfl) (by kernel_rfl) (by kernel_rfl) (fun _ _ _ h => h) (Or.inl ⟨by rfl, ?_⟩) (by assumption) ?_
          rotate_left
          · intro W hSw
            (try dsimp only at hSw)
            go_simp
            (try with_reducible rfl)
          simp only [Act.put, List.getElem_toArray, List.getElem_cons_zero, List.getElem_cons_succ, List.setIfInBounds_toArray, List.set_cons_zero, List.set_cons_succ]
          refine wpAnyH_take (i := 25) (v := ?_) rfl (by kernel_rfl) (by kernel_rfl) (by kernel_rfl) (fun _ _ _ h => h) (Or.inl ⟨by rfl, ?_⟩) (by assumption) ?_
          rotate_left
          · intro W hSw
            (try dsimp only at hSw)
            go_simp
            (try with_reducible rfl)
          simp only [Act.put, List.getElem_toArray, List.getElem_cons_zero, List.getElem_cons_succ, List.setIfInBounds_toArray, List.set_cons_zero, List.set_cons_succ]
          refine wpAnyH_take (i := 26) (v := ?_) rfl (by kernel_rfl) (by kernel_rfl) (by kernel_rfl) (fun _ _ _ h => h) (Or.inl ⟨by rfl, ?_⟩) (by assumption) ?_
          rotate_left
          · intro W hSw
            (try dsimp only at hSw)
            go_simp
            (try with_reducible rfl)
          simp only [Act.put, List.getElem_toArray, List.getElem_cons_zero, List.getElem_cons_succ, List.setIfInBounds_toArray, List.set_cons_zero, List.set_cons_succ]
          refine wpAnyH_ready (rs := [27]) (by kernel_rfl) (by simp) ?_
          refine AllReadyH.cons rfl (fun K hK => ?_) AllReadyH.nil
          go_simp
          refine (HBY.out _ (Below.refl _ _).drew).mono ?_
          rintro e w7 ⟨rfl, hbb⟩
          have hbq7 : Below w6.heap.size w6 w7 := Below.trans (b := World.drew w6) (Below.refl _ _).drew hbb
          refine hK.out _ _ (HSS.out w7 hbq7) ?_
          clear hK K hS
          intro hS
          skip
          refine wpAnyH_take (i := 28) (v := ?_) rfl (by kernel_rfl) (by kernel_rfl) (by kernel_rfl) (fun _ _ _ h => h) (Or.inl ⟨by rfl, ?_⟩) (by assumption) ?_
          rotate_left
          · intro W hSw
            (try dsimp only at hSw)
            go_simp
            (try with_reducible rfl)
          simp only [Act.put, List.getElem_toArray, List.getElem_cons_zero, List.getElem_cons_succ, List.setIfInBounds_toArray, List.set_cons_zero, List.set_cons_succ]
          refine wpAnyH_take (i := 29) (v := ?_) rfl (by kernel_rfl) (by kernel_rfl) (by kernel_rfl) (fun _ _ _ h => h) (Or.inl ⟨by rfl, ?_⟩) (by assumption) ?_
          rotate_left
          · intro W hSw
            (try dsimp only at hSw)
            go_simp
            (try with_reducible rfl)
          simp only [Act.put, List.getElem_toArray, List.getElem_cons_zero, List.getElem_cons_succ, List.setIfInBounds_toArray, List.set_cons_zero, List.set_cons_succ]
          refine wpAnyH_take (i := 30) (v := ?_) rfl (by kernel_rfl) (by kernel_rfl) (by kernel_rfl) (fun _ _ _ h => h) (Or.inl ⟨by rfl, ?_⟩) (by assumption) ?_
          rotate_left
          · intro W hSw
            (try dsimp only at hSw)
            go_simp
            (try with_reducible rfl)
          simp only [Act.put, List.getElem_toArray, List.getElem_cons_zero, List.getElem_cons_succ, List.setIfInBounds_toArray, List.set_cons_zero, List.set_cons_succ]
          refine wpAnyH_take (i := 31) (v := ?_) rfl (by kernel_rfl) (by kernel_rfl) (by kernel_rfl) (fun _ _ _ h => h) (Or.inl ⟨by rfl, ?_⟩) (by assumption) ?_
          rotate_left
          · intro W hSw
            (try dsimp only at hSw)
            go_simp
            (try with_reducible rfl)
          simp only [Act.put, List.getElem_toArray, List.getElem_cons_zero, List.getElem_cons_succ, List.setIfInBounds_toArray, List.set_cons_zero, List.set_cons_succ]
          refine wpAnyH_take (i := 32) (v := ?_) rfl (by kernel_rfl) (by kernel_rfl) (by kernel_rfl) (fun _ _ _ h => h) (Or.inl ⟨by rfl, ?_⟩) (by assumption) ?_
          rotate_left
          · intro W hSw
            (try dsimp only at hSw)
            go_simp
            (try with_reducible rfl)
          simp only [Act.put, List.getElem_toArray, List.getElem_cons_zero, List.getElem_cons_succ, List.setIfInBounds_toArray, List.set_cons_zero, List.set_cons_succ]
          refine wpAnyH_take (i := 33) (v := ?_) rfl (by kernel_rfl) (by kernel_rfl) (by kernel_rfl) (fun _ _ _ h => h) (Or.inl ⟨by rfl, ?_⟩) (by assumption) ?_
          rotate_left
          · intro W hSw
            (try dsimp only at hSw)
            go_simp
            (try with_reducible rfl)
          simp only [Act.put, List.getElem_toArray, List.getElem_cons_zero, List.getElem_cons_succ, List.setIfInBounds_toArray, List.set_cons_zero, List.set_cons_succ]
          refine wpAnyH_ready (rs := [34]) (by kernel_rfl) (by simp) ?_
          refine AllReadyH.cons rfl (fun K hK => ?_) AllReadyH.nil
          go_simp
          refine (HSI.out _ hbq7).mono ?_
          rintro e w8 ⟨rfl, q8, hw8⟩
          subst hw8
          refine hK.out _ _ (HSS.out _ (below_drewN_ hbq7 q8)) ?_
          clear hK K hS
          intro hS
          skip
          refine wpAnyH_take (i := 35) (v := ?_) rfl (by kernel_rfl) (by kernel_rfl) (by kernel_rfl) (fun _ _ _ h => h) (Or.inl ⟨by rfl, ?_⟩) (by assumption) ?_
          rotate_left
          · intro W hSw
            (try dsimp only at hSw)
            go_simp
            (try with_reducible rfl)
          simp only [Act.put, List.getElem_toArray, List.getElem_cons_zero, List.getElem_cons_succ, List.setIfInBounds_toArray, List.set_cons_zero, List.set_cons_succ]
          refine wpAnyH_take (i := 36) (v := ?_) rfl (by kernel_rfl) (by kernel_rfl) (by kernel_rfl) (fun _ _ _ h => h) (Or.inl ⟨by rfl, ?_⟩) (by assumption) ?_
          rotate_left
          · intro W hSw
            (try dsimp only at hSw)
            go_simp
            (try with_reducible rfl)
          simp only [Act.put, List.getElem_toArray, List.getElem_cons_zero, List.getElem_cons_succ, List.setIfInBounds_toArray, List.set_cons_zero, List.set_cons_succ]
          refine wpAnyH_take (i := 37) (v := ?_) rfl (by kernel_rfl) (by kernel_rfl) (by kernel_rfl) (fun _ _ _ h => h) (Or.inl ⟨by rfl, ?_⟩) (by assumption) ?_
          rotate_left
          · intro W hSw
            (try dsimp only at hSw)
            go_simp
            (try with_reducible rfl)
          simp only [Act.put, List.getElem_toArray, List.getElem_cons_zero, List.getElem_cons_succ, List.setIfInBounds_toArray, List.set_cons_zero, List.set_cons_succ]
          refine wpAnyH_take (i := 38) (v := ?_) rfl (by kernel_rfl) (by kernel_rfl) (by kernel_rfl) (fun _ _ _ h => h) (Or.inl ⟨by rfl, ?_⟩) (by assumption) ?_
          rotate_left
          · intro W hSw
            (try dsimp only at hSw)
            go_simp
            (try with_reducible rfl)
          simp only [Act.put, List.getElem_toArray, List.getElem_cons_zero, List.getElem_cons_succ, List.setIfInBounds_toArray, List.set_cons_zero, List.set_cons_succ]
          refine wpAnyH_take (i := 39) (v := ?_) rfl (by kernel_rfl) (by kernel_rfl) (by kernel_rfl) (fun _ _ _ h => h) (Or.inl ⟨by rfl, ?_⟩) (by assumption) ?_
          rotate_left
          · intro W hSw
            (try dsimp only at hSw)
            go_simp
            (try with_reducible rfl)
          simp only [Act.put, List.getElem_toArray, List.getElem_cons_zero, List.getElem_cons_succ, List.setIfInBounds_toArray, List.set_cons_zero, List.set_cons_succ]
          refine wpAnyH_take (i := 40) (v := ?_) rfl (by kernel_rfl) (by kernel_rfl) (by kernel_rfl) (fun _ _ _ h => h) (Or.inl ⟨by rfl, ?_⟩) (by assumption) ?_
          rotate_left
          · intro W hSw
            (try dsimp only at hSw)
            go_simp
            (try with_reducible rfl)
          simp only [Act.put, List.getElem_toArray, List.getElem_cons_zero, List.getElem_cons_succ, List.setIfInBounds_toArray, List.set_cons_zero, List.set_cons_succ]
          refine wpAnyH_take (i := 41) (v := ?_) rfl (by kernel_rfl) (by kernel_rfl) (by kernel_rfl) (fun _ _ _ h => h) (Or.inl ⟨by rfl, ?_⟩) (by assumption) ?_
          rotate_left
          · intro W hSw
            (try dsimp only at hSw)
            go_simp
            (try with_reducible rfl)
          simp only [Act.put, List.getElem_toArray, List.getElem_cons_zero, List.getElem_cons_succ, List.setIfInBounds_toArray, List.set_cons_zero, List.set_cons_succ]
          refine wpAnyH_ready (rs := [42]) (by kernel_rfl) (by simp) ?_
          refine AllReadyH.cons rfl (fun K hK => ?_) AllReadyH.nil
          have hB68 : Below w6.heap.size w6 (w7.drewN q8) := below_drewN_ hbq7 q8
          have hB58 : Below w5.heap.size w5 (w7.drewN q8) := HB56.out.trans (hB68.mono HB56.out.size)
          have HOTW : Hid (Ot (fun k => F0 k ∨ G0 k) w (w7.drewN q8)) := by
            have hws := HR.out.ot.size
            refine (((HR.out.ot.trans' HMID.out.ot (fun j hg hj => ?_)).then_below (hbq.mono (by omega))).trans' HO5.out (fun j hf hj => ?_)).then_below (hB58.mono (by omega))
            · rcases HR.out.gnew j hg with h | h
              · exact Or.inr h
              · omega
            · rcases HR.out.fnew j hf with h | h
              · exact Or.inl h
              · omega
          have HCAL := HTH.out (w7.drewN q8) F2 G2 (stepQ M s n st).1.1 p.1.1 st.lt nv HOTW.out (HM.out.kept HA5.out (fun j hj => hB58.block j (HM.out.low HA5.out j hj))) (HRF.out.kept HG5.out (fun j hj => hB58.block j (HRF.out.low HG5.out j hj))) HAG2.out (by rw [← HNV.out, ← HAG1.out]; exact HI2.out) (by rw [← HNV.out]; exact HJ2.out) (by omega)
          go_simp
          refine HCAL.mono ?_
          rintro e w9 ⟨rfl, hb9⟩
          have HB9 : Hid (Below (w7.drewN q8).heap.size (w7.drewN q8) w9) := hb9
          refine hK.out _ _ (HSS.out _ (hB68.trans (hb9.mono hB68.size))) ?_
          clear hK K hS hb9 HCAL hB68 hB58
          intro hS
          skip
          refine wpAnyH_take (i := 43) (v := ?_) rfl (by kernel_rfl) (by kernel_rfl) (by kernel_rfl) (fun _ _ _ h => h) (Or.inl ⟨by rfl, ?_⟩) (by assumption) ?_
          rotate_left
          · intro W hSw
            (try dsimp only at hSw)
            go_simp
            (try with_reducible rfl)
          simp only [Act.put, List.getElem_toArray, List.getElem_cons_zero, List.getElem_cons_succ, List.setIfInBounds_toArray, List.set_cons_zero, List.set_cons_succ]
          refine wpAnyH_take (i := 44) (v := ?_) rfl (by kernel_rfl) (by kernel_rfl) (by kernel_rfl) (fun _ _ _ h => h) (Or.inl ⟨by rfl, ?_⟩) (by assumption) ?_
          rotate_left
          · intro W hSw
            (try dsimp only at hSw)
            go_simp
            (try with_reducible rfl)
          simp only [Act.put, List.getElem_toArray, List.getElem_cons_zero, List.getElem_cons_succ, List.setIfInBounds_toArray, List.set_cons_zero, List.set_cons_succ]
          refine wpAnyH_take (i := 45) (v := ?_) rfl (by kernel_rfl) (by kernel_rfl) (by kernel_rfl) (fun _ _ _ h => h) (Or.inl ⟨by rfl, ?_⟩) (by assumption) ?_
          rotate_left
          · intro W hSw
            (try dsimp only at hSw)
            go_simp
            (try with_reducible rfl)
          simp only [Act.put, List.getElem_toArray, List.getElem_cons_zero, List.getElem_cons_succ, List.setIfInBounds_toArray, List.set_cons_zero, List.set_cons_succ]
          refine wpAnyH_done (by kernel_rfl) ?_ _
          all_goals
            go_wp2
            go_roundw
            case rel =>
              have hB68a : Below w6.heap.size w6 (w7.drewN q8) := below_drewN_ hbq7 q8
              have hB68 : Below w6.heap.size w6 w9 := hB68a.trans (HB9.out.mono hB68a.size)
              have hB58 : Below w5.heap.size w5 w9 := HB56.out.trans (hB68.mono HB56.out.size)
              have hws := HR.out.ot.size
              refine ⟨k + 1, nv, (stepQ M s n st).1.1, p.1.1, F2, G2, by omega, by go_num, rfl, by have := HR.out.le; omega, HAG2.out, HM.out.kept HA5.out (fun j hj => hB58.block j (HM.out.low HA5.out j hj)), ?_, HRF.out.kept HG5.out (fun j hj => hB58.block j (HRF.out.low HG5.out j hj)), ?_, fun j hf hg => ?_, ?_, fun b hb => ?_, fun j hj => ?_, fun j hj => ?_, ?_⟩
              · rw [HNX.out, ← HNV.out, ← HAG1.out]; exact HI2.out
              · rw [HNX.out, ← HNV.out]; exact HJ2.out
              · rcases HF5.out j hf with h | h
                · exact HGF.out j hg h
                · have := HRF.out.low HPW.out j hg; omega
              · refine Seg.below (Seg.oth (Seg.below (Seg.oth HR.out.trow HMID.out.ot (fun j hj hg => (HR.out.tnew j hj).2.2 hg)) hbq) HO5.out (fun j hj hf => (HR.out.tnew j hj).2.1 hf)) hB58
              · obtain ⟨h1, h2, h3⟩ := HR.out.tnew b hb
                have h4 := Seg.lt HR.out.trow hb
                refine ⟨h1, fun hf => ?_, fun hg => ?_⟩
                · rcases HF5.out b hf with h | h
                  · exact h2 h
                  · omega
                · rcases HMID.out.gnew b hg with h | h
                  · exact h3 h
                  · omega
              · rcases HF5.out j hj with h | h
                · exact HR.out.fnew j h
                · right; omega
              · rcases HMID.out.gnew j hj with h | h
                · exact HR.out.gnew j h
                · right; omega
              · refine (((HR.out.ot.trans' HMID.out.ot (fun j hg hj => ?_)).then_below (hbq.mono (by omega))).trans' HO5.out (fun j hf hj => ?_)).then_below (hB58.mono (by omega))
                · rcases HR.out.gnew j hg with h | h
                  · exact Or.inr h
                  · omega
                · rcases HR.out.fnew j hf with h | h
                  · exact Or.inl h
                  · omega
            case measure => simp [intOf]; omega
    · obtain rfl : k = q := by omega
      go_wp2
      go_ret
      exact ⟨rfl, HR.out.ot, F, G, s, r, HR.out.mpos, HR.out.rpos, HR.out.fnew, HR.out.gnew⟩
end Go.Proofs.YtefflbibacmboaaDoor
