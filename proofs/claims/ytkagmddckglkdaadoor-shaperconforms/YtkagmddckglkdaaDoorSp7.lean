/-
  millracekeep.ShaperConforms: it returns true at every bucket and for all steps; nothing that was there before is otherwise. Conditions: errors.errorType holds its handle; the steps lie in memory.
-/
import Derived.Test.YtkagmddckglkdaaDoorSp6
namespace Go.Proofs.YtkagmddckglkdaaDoor
open Go.RowKit Go.Extern.Stop Go.Stop Go.Extern

set_option maxRecDepth 20000 in
set_option maxHeartbeats 4000000 in
theorem shconf_any (n t R : Int) (x : Option Addr) (cap : Nat) (xs : List Stp) (w : World) (hLd : Laid w) (hl : Lies w x (flt Stp.cs xs)) (hm : xs.length ≤ maxLen) :
    Calls Tryd.prog 3 #[.agg #[.int .i64 n, .int .i64 t, .int .i64 R], .slice x xs.length cap] w fun e w' => e = .returned (.bool true) ∧ Below w.heap.size w w' := by
  have HL : Hid (Lies w x (flt Stp.cs xs)) := hl
  have HLD : Hid (Laid w) := hLd
  clear hl hLd
  unfold maxLen at hm
  by_cases hlen : 120 < xs.length
  · go_enter Tryd.func3, Tryd.ntmps3
    go_wp2
    go_ret
    exact ⟨rfl, below_alloc_ (Below.refl _ _) _⟩
  obtain ⟨q, hq⟩ : ∃ q, xs.length = q := ⟨_, rfl⟩
  have HN : Hid (xs.length = q) := hq
  rw [hq] at hlen ⊢
  clear hq hm
  have hq120 : decide ((120 : Int) < (q : Int)) = false := by simp only [decide_eq_false_iff_not]; omega
  have hB0 : Below w.heap.size w (w.alloc (.cells #[.int .i64 n, .int .i64 t, .int .i64 R] 25)) := below_alloc_ (Below.refl _ _) _
  have HBX : Hid ((w.alloc (.cells #[.int .i64 n, .int .i64 t, .int .i64 R] 25)).heap[w.heap.size]? = some (.cells #[.int .i64 n, .int .i64 t, .int .i64 R] 25 (0, 0))) := new_block _ _
  have hs0 : (w.alloc (.cells #[.int .i64 n, .int .i64 t, .int .i64 R] 25)).heap.size = w.heap.size + 1 := by simp
  have HS0 : Hid ((w.alloc (.cells #[.int .i64 n, .int .i64 t, .int .i64 R] 25)).heap.size = w.heap.size + 1) := hs0
  have HB0 : Hid (Below w.heap.size w (w.alloc (.cells #[.int .i64 n, .int .i64 t, .int .i64 R] 25))) := hB0
  go_enter Tryd.func3, Tryd.ntmps3
  clear hB0 hs0
  go_wp2_with (go_at_call 6; fail)
  generalize w.alloc (.cells #[.int .i64 n, .int .i64 t, .int .i64 R] 25) = w0 at *
  refine (newFifo_yes 50 1000000 false w0 (by decide) (by decide) (by decide) (by decide)).mono ?_
  rintro e w1 ⟨rfl, hl1, hw1⟩
  have hb1 : Below w0.heap.size w0 w1 := by rw [hw1]; exact below_alloc_ (Below.refl _ _) _
  clear hw1
  go_wp2_with (first | (go_at_call 7; refine (first_all _).mono ?_; rintro e w2 ⟨rfl, hb2⟩) | (go_at_call 8; refine (poured_true _).mono ?_; rintro e w3 ⟨rfl, hb3⟩; have hb13 : Below w1.heap.size w1 w3 := hb2.trans (hb3.mono hb2.size); have hl3 := hl1.below hb13; have hbx3 := (hb13.block w.heap.size (by have := HS0.out; have := lt_of_block hl1.blk; omega)).trans ((hb1.block w.heap.size (by have := HS0.out; omega)).trans HBX.out); have c0 : w3.cell? ⟨w.heap.size, 0, none⟩ = some (.int .i64 n) := (by simp [World.cell?, hbx3]); have c1 : w3.cell? ⟨w.heap.size, 1, none⟩ = some (.int .i64 t) := (by simp [World.cell?, hbx3]); have c2 : w3.cell? ⟨w.heap.size, 2, none⟩ = some (.int .i64 R) := (by simp [World.cell?, hbx3])) | (go_at_call 9; fail))
  have hb03 : Below w.heap.size w w3 := HB0.out.trans ((hb1.trans (hb13.mono hb1.size)).mono HB0.out.size)
  have hf3 : w0.heap.size < w3.heap.size := lt_of_block hl3.blk
  by_cases hok : ¬ okB n t R
  · have HNO : Hid (¬ okB n t R) := hok
    have HB3 : Hid (Below w.heap.size w w3) := hb03
    clear hok hbx3 hl3 hl1 hb1 hb2 hb3 hb13 hb03
    refine (snew_no n t R _ _ w3 HNO.out).mono ?_
    rintro e w4 ⟨rfl, hb4⟩
    go_wp2
    go_ret
    exact ⟨rfl, HB3.out.trans (hb4.mono HB3.out.size)⟩
  replace hok := Classical.not_not.1 hok
  refine (snew_yes n t R _ _ w3 hok).mono ?_
  rintro e w4 ⟨B, rfl, hBs, hst4, hb4⟩
  have HOK : Hid (okB n t R) := hok
  have hl4 := hl3.below hb4
  have hbx4 := (hb4.block w.heap.size (by have := HS0.out; omega)).trans hbx3
  have hb04 : Below w.heap.size w w4 := hb03.trans (hb4.mono hb03.size)
  have hli4 : Lies w4 x (flt Stp.cs xs) := HL.out.below hb04
  have hcalm := fifo_calm w0.heap.size 50 1000000 false (by decide) (by decide) (by decide)
  have HP := play_any (ShaperM (FifoM w0.heap.size 50 1000000 false) B n t R) (shaperM_fine hcalm B hok) (fun k => k = B ∨ k = w0.heap.size) (⟨[], R * t, 0, none⟩ : ShS (List Hd)) x cap xs w4 hli4 (by rw [HN.out]; omega) ⟨(· = w0.heap.size), hd0, ⟨hst4, newFifo_at _ _ _ _ hl4, fun e => by have e' : B = w0.heap.size := e; omega, fun y hy => by simp at hy⟩, fun _ => Iff.rfl⟩ ⟨fifo_inv0 _ _ _ _, hok.room.1, Int.le_refl _, Int.le_refl _, Int.le_refl _, fun y hy => by simp at hy⟩
  rw [HN.out] at HP
  have hrun := sh_run (f := w0.heap.size) (B := B) (P := 50) (Rm := 1000000) (by decide) (by decide) (by decide) hok xs (by rw [HN.out]; omega) ⟨[], R * t, 0, none⟩ rfl (playFrom (ShaperM (FifoM w0.heap.size 50 1000000 false) B n t R) (⟨[], R * t, 0, none⟩ : ShS (List Hd)) 0 (timesL 0 xs)) rfl
  obtain ⟨G, G2, hG0, hG⟩ := play_keeps (shaper_keeps hcalm (fifo_keeps w0.heap.size 50 1000000 false) B n t R) (s0 := (⟨[], R * t, 0, none⟩ : ShS (List Hd))) rfl (timesL 0 xs)
  have hsl : (playFrom (ShaperM (FifoM w0.heap.size 50 1000000 false) B n t R) (⟨[], R * t, 0, none⟩ : ShS (List Hd)) 0 (timesL 0 xs)).length = q := by
    have := playFrom_length (ShaperM (FifoM w0.heap.size 50 1000000 false) B n t R) (⟨[], R * t, 0, none⟩ : ShS (List Hd)) 0 (timesL 0 xs)
    rw [timesL_length, HN.out] at this
    exact this
  have HPH : Hid (Calls Tryd.prog 10 #[.iface 33 (.pointer (some ⟨B, 0, none⟩)), .slice x q cap] w4 fun e w' => ∃ u us F, e = .returned u ∧ Sns w' w4.heap.size F u (playFrom (ShaperM (FifoM w0.heap.size 50 1000000 false) B n t R) (⟨[], R * t, 0, none⟩ : ShS (List Hd)) 0 (timesL 0 xs)) us ∧ Ot (fun k => k = B ∨ k = w0.heap.size) w4 w') := HP
  obtain ⟨ss, hss⟩ : ∃ ss, playFrom (ShaperM (FifoM w0.heap.size 50 1000000 false) B n t R) (⟨[], R * t, 0, none⟩ : ShS (List Hd)) 0 (timesL 0 xs) = ss := ⟨_, rfl⟩
  rw [hss] at HPH hrun hG hsl
  have HRUN : Hid _ := hrun
  have HG : Hid (G 0 = ls0 ∧ ∀ i t sn, (timesL 0 xs)[i]? = some t → ss[i]? = some sn → LStep (G i) t sn (G2 i) (G (i + 1))) := ⟨hG0, hG⟩
  have HSL : Hid (ss.length = q) := hsl
  have HB4 : Hid (Below w.heap.size w w4) := hb04
  have HBX4 : Hid (w4.heap[w.heap.size]? = some (.cells #[.int .i64 n, .int .i64 t, .int .i64 R] 25 (0, 0))) := hbx4
  have HSZ : Hid (w.heap.size < w0.heap.size ∧ w0.heap.size < B ∧ w0.heap.size < w4.heap.size) := ⟨by have := HS0.out; omega, by omega, lt_of_block hl4.blk⟩
  clear hok hl4 hbx4 hb04 hli4 hcalm HP hrun hG0 hG hsl hss hst4 hb4 hbx3 hl3 hl1 hb1 hb2 hb3 hb13 hb03 c0 c1 c2 hf3 hBs
  go_wp2_with (go_at_call 10; fail)
  refine HPH.out.mono ?_
  rintro e w5 ⟨u, us, F, rfl, hsn, hot⟩
  have hb5 : Below w.heap.size w w5 := HB4.out.trans (hot.below HB4.out.size (fun k hk => by have := HSZ.out; omega))
  have hbx5 : w5.heap[w.heap.size]? = some (.cells #[.int .i64 n, .int .i64 t, .int .i64 R] 25 (0, 0)) := (hot.block w.heap.size (lt_of_block HBX4.out) (fun e => by have := HSZ.out; omega)).trans HBX4.out
  have hli5 : Lies w5 x (flt Stp.cs xs) := HL.out.below hb5
  have hk := kept_any xs ss us G G2 x cap u _ F w5 hli5 (by rw [HN.out]; omega) hsn (by rw [HSL.out, HN.out]) HG.out.1 HG.out.2
  rw [HN.out] at hk
  have HSN : Hid (Sns w5 w4.heap.size F u ss us) := hsn
  have HB5 : Hid (Below w.heap.size w w5) := hb5
  have HBX5 : Hid (w5.heap[w.heap.size]? = some (.cells #[.int .i64 n, .int .i64 t, .int .i64 R] 25 (0, 0))) := hbx5
  obtain ⟨sx, scap, hu, _⟩ := hsn.lies
  rw [HSL.out] at hu
  subst hu
  clear hsn hot hb5 hbx5 hli5 HPH HG HB4 HBX4
  go_wp2_with (go_at_call 11; refine hk.mono ?_; rintro e w6 ⟨rfl, hb6⟩)
  have hb06 : Below w.heap.size w w6 := HB5.out.trans (hb6.mono HB5.out.size)
  have HTC := times_any x cap xs w6 (HL.out.below hb06) (by rw [HN.out]; omega)
  rw [HN.out] at HTC
  have HS6 : Hid (Sns w6 w4.heap.size F (.slice sx q scap) ss us) := HSN.out.ot (F' := F) (Ot.of_below (S := fun _ => False) hb6) (fun _ _ _ _ h => h) (fun _ _ h => h)
  have HB6 : Hid (Below w.heap.size w w6) := hb06
  have HBX6 : Hid (w6.heap[w.heap.size]? = some (.cells #[.int .i64 n, .int .i64 t, .int .i64 R] 25 (0, 0))) := (hb6.block _ (lt_of_block HBX5.out)).trans HBX5.out
  clear hb6 hk hb06 HSN HB5 HBX5
  refine HTC.mono ?_
  rintro e w7 ⟨tv, rfl, ht7, hn7, hb7⟩
  obtain ⟨tx, tcap, htv, htl⟩ := ht7.lies
  rw [timesL_length, HN.out] at htv
  subst htv
  have HTL : Hid (Lies w7 tx (flt Stp.cs (timesL 0 xs))) := htl
  have HB7 : Hid (Below w.heap.size w w7) := HB6.out.trans (hb7.mono HB6.out.size)
  have HS7 : Hid (Sns w7 w4.heap.size F (.slice sx q scap) ss us) := HS6.out.ot (F' := F) (Ot.of_below (S := fun _ => False) hb7) (fun _ _ _ _ h => h) (fun _ _ h => h)
  have HBX7 : Hid (w7.heap[w.heap.size]? = some (.cells #[.int .i64 n, .int .i64 t, .int .i64 R] 25 (0, 0))) := (hb7.block _ (lt_of_block HBX6.out)).trans HBX6.out
  have HTN0 : Hid ((timesL 0 xs).length = q) := by show _ = _; rw [timesL_length, HN.out]
  rw [HN.out] at HRUN
  clear htl hb7 ht7 hn7 HTC HS6 HB6 HBX6
  obtain ⟨ts, hts⟩ : ∃ ts, timesL 0 xs = ts := ⟨_, rfl⟩
  rw [hts] at HTL HRUN HTN0
  clear hts
  obtain ⟨BB, hBB⟩ : ∃ BB, w7.heap.size = BB := ⟨_, rfl⟩
  have HJ : Hid (∀ i, i ≤ q → ∃ s nn, ShJ n t R (lwRun ts ss i) s nn) := HRUN.out.1
  have HO : Hid (∀ (i : Nat) (st : Stp) (sn : Sn), ts[i]? = some st → ss[i]? = some sn → 0 ≤ sn.taken → (lwRun ts ss i).last < sn.taken ∧ sn.taken < ((lens1 (lwRun ts ss i) st).length : Int)) := HRUN.out.2.1
  have HWC : Hid (∀ (i : Nat) (st : Stp) (sn sn' : Sn), ss[i]? = some sn → ts[i + 1]? = some st → ss[i + 1]? = some sn' → 0 ≤ sn.when → st.what = 1 → decide (0 ≤ sn'.taken) = decide (sn.when ≤ st.lt)) := HRUN.out.2.2
  clear HRUN
  obtain ⟨i0, hi, hz0, hz1, hz2⟩ := info_parts infoInt1
  obtain ⟨j0, hj, hy0, hy1, hy2⟩ := info_parts infoItem
  go_wp2
  go_loopw [10, 11, 12, 13] (fun lv gv la i wr => ∃ k : Nat, k ≤ q ∧ i = .int .i64 k ∧ la = .int .i64 (lwRun ts ss k).last ∧ ShR w7 BB lv gv (lwRun ts ss k).lens (lwRun ts ss k).gone wr) (fun _ _ _ i _ => q - (intOf i).toNat)
  case atStart => exact ⟨0, Nat.zero_le _, rfl, rfl, ⟨Ins.nil _, Seg.nil _ _ _, fun b hb => by simp [Value.ownBlock] at hb, fun b hb => by simp [Value.ownBlock] at hb, fun b hb => by simp [Value.ownBlock] at hb, Below.refl _ _, by rw [← hBB]; exact Nat.le_refl _⟩⟩
  case round =>
    obtain ⟨k, hkq, rfl, rfl, hrr⟩ := hrel
    have HRR : Hid (ShR w7 BB u10 u11 (lwRun ts ss k).lens (lwRun ts ss k).gone wr) := hrr
    have hBw := hrr.size
    clear hrr
    have hcl := lwRun_le ts ss k
    by_cases hlt : k < q
    · obtain ⟨sn, hsn⟩ : ∃ sn, ss[k]? = some sn := ⟨_, List.getElem?_eq_getElem (by rw [HSL.out]; exact hlt)⟩
      obtain ⟨uu, huu⟩ : ∃ uu, us[k]? = some uu := ⟨_, List.getElem?_eq_getElem (by rw [HS7.out.len, HSL.out]; exact hlt)⟩
      obtain ⟨st, hst⟩ : ∃ st, ts[k]? = some st := ⟨_, List.getElem?_eq_getElem (by rw [HTN0.out]; exact hlt)⟩
      have HOK1 : Hid (0 ≤ sn.taken → (lwRun ts ss k).last < sn.taken ∧ sn.taken < ((lens1 (lwRun ts ss k) st).length : Int)) := HO.out k st sn hst hsn
      have HSU : Hid (lwRun ts ss (k + 1) = lwS (lwRun ts ss k) st sn) := lwRun_succ hst hsn
      have HWK : Hid (∀ k0 sn0, k = k0 + 1 → ss[k0]? = some sn0 → 0 ≤ sn0.when → st.what = 1 → decide (0 ≤ sn.taken) = decide (sn0.when ≤ st.lt)) := fun k0 sn0 e h1 h2 h3 => by subst e; exact HWC.out k0 st sn0 sn h1 hst hsn h2 h3
      obtain ⟨sx', scap', he, hlies⟩ := HS7.out.lies
      simp only [HSL.out, Value.slice.injEq, true_and] at he
      obtain ⟨rfl, rfl⟩ := he
      obtain ⟨sb, so, rfl, hsb, s0, s1, s2, s3, s4, s5⟩ := hlies.seen (zip_at hsn huu)
      have HPV : Hid (∀ k0, k = k0 + 1 → ∃ sn0, ss[k0]? = some sn0 ∧ w7.cell? ⟨sb, so + k0 * 6 + 2, none⟩ = some (.int .i64 sn0.when)) := by
        intro k0 e
        obtain ⟨sn0, h0⟩ : ∃ sn0, ss[k0]? = some sn0 := ⟨_, List.getElem?_eq_getElem (by rw [HSL.out]; omega)⟩
        obtain ⟨uu0, h1⟩ : ∃ uu0, us[k0]? = some uu0 := ⟨_, List.getElem?_eq_getElem (by rw [HS7.out.len, HSL.out]; omega)⟩
        obtain ⟨sb', so', e', _, _, _, r2, _⟩ := hlies.seen (zip_at h0 h1)
        simp only [Option.some.injEq, Addr.mk.injEq, and_true] at e'
        obtain ⟨rfl, rfl⟩ := e'
        exact ⟨sn0, h0, r2⟩
      obtain ⟨tb, tof, rfl, htb, c0, c1, c2, c3, c4, c5, c6⟩ := HTL.out.seven hst
      have HSE : Hid (∀ W : World, Below BB w7 W → (W.cell? ⟨sb, so + k * 6, none⟩ = some (.int .i64 sn.taken) ∧ sb < W.heap.size) ∧ (W.cell? ⟨tb, tof + k * 7, none⟩ = some (.int .i64 st.what) ∧ W.cell? ⟨tb, tof + k * 7 + 1, none⟩ = some (.int .i64 st.lt) ∧ W.cell? ⟨tb, tof + k * 7 + 3, none⟩ = some (.int .i64 st.l) ∧ tb < W.heap.size) ∧ ∀ p : Addr, p.block < w7.heap.size → W.cell? p = w7.cell? p) := by
        intro W hW
        have hc : ∀ (p : Addr), p.block < w7.heap.size → W.cell? p = w7.cell? p := fun p hp => World.cell?_of_block (w := w7) (hW.block p.block (by omega))
        have hsz := hW.size
        exact ⟨⟨(hc _ hsb).trans s0, by omega⟩, ⟨(hc _ htb).trans c0, (hc _ htb).trans c1, (hc _ htb).trans c3, by omega⟩, hc⟩
      have HSB : Hid (sb < w7.heap.size) := hsb
      clear hlies hsn huu hst s0 s1 s2 s3 s4 s5 c0 c1 c2 c3 c4 c5 c6 hsb htb
      obtain ⟨⟨s0, hsb⟩, ⟨c0, c1, c3, htb⟩, _⟩ := HSE.out wr HRR.out.below
      obtain ⟨S, hS⟩ : ∃ S, lwRun ts ss k = S := ⟨_, rfl⟩
      rw [hS] at HRR HOK1 HSU hcl
      have HSE2 : Hid (lwRun ts ss k = S) := hS
      rw [hS]
      clear hS
      go_upto_if 70 with (fail)
      go_cut [10] (fun lv wx => ShR w7 BB lv u11 (lens1 S st) S.gone wx)
      case first =>
        by_cases hw0 : st.what = 0
        · have hw2 : (st.what == 0) = true := by simpa using hw0
          have HCK0 : Hid (lens1 S st = S.lens ++ [st.l]) := by show _ = _; unfold lens1; rw [if_pos hw0]
          clear hw0
          go_wp2_with (at_builtin; refine wpList_append_seg _ rfl (.tmp 71) (.tmp 78) 40 rfl 3 i0 _ 1 8 Tryd.underlying40 hi hz0 hz1 hz2 rfl (by decide) _ _ _ rfl (Seg.below HRR.out.lens (below_alloc_ (Below.refl _ _) _)) ⟨wr.heap.size, 0, none⟩ 1 1 [.int .i64 st.l] rfl rfl (news_of (new_block_ (by simp))) (by simp [Value.oneCell']) (by decide) (by unfold maxLen; omega) (by omega) _ rfl ?_; intro g off cap2 w8 hs8 hg8 ha8 hl8)
          go_meet
          case rel =>
            rw [HCK0.out]
            exact HRR.out.lens_app hs8 hg8 (by rcases ha8 with h | h; exact Or.inl h; right; simp at h; omega)
        · have hw2 : (st.what == 0) = false := by simpa using hw0
          have HCK0 : Hid (lens1 S st = S.lens) := by show _ = _; unfold lens1; rw [if_neg hw0]
          clear hw0
          go_wp2
          go_meet
          case rel =>
            rw [HCK0.out]
            exact HRR.out
      case rest =>
        have HR2 : Hid (ShR w7 BB u10 u11 (lens1 S st) S.gone wc) := hcut
        have hBc := hcut.size
        clear s0 c0 c1 c3 hsb htb HRR hBw hcut
        obtain ⟨⟨s0, hsb⟩, ⟨c0, c1, c3, htb⟩, _⟩ := HSE.out wc HR2.out.below
        obtain ⟨lx, lcap, hlu⟩ := HR2.out.lens.slice
        obtain ⟨nl, hnl⟩ : ∃ nl, (lens1 S st).length = nl := ⟨_, rfl⟩
        have HNL : Hid ((lens1 S st).length = nl) := hnl
        rw [hnl] at hlu
        subst hlu
        clear hnl
        go_upto_if 86 with (fail)
        go_cut [11, 12] (fun gv la wx => la = .int .i64 (lwS S st sn).last ∧ ShR w7 BB (.slice lx nl lcap) gv (lwS S st sn).lens (lwS S st sn).gone wx)
        case first =>
          by_cases ht : 0 ≤ sn.taken
          · have o3 : decide (0 ≤ sn.taken) = true := decide_eq_true ht
            obtain ⟨hla, hln⟩ := HOK1.out ht
            rw [HNL.out] at hln
            have hjl : sn.taken.toNat < (lens1 S st).length := by rw [HNL.out]; omega
            obtain ⟨v, hv⟩ : ∃ v, (lens1 S st)[sn.taken.toNat]? = some v := ⟨_, List.getElem?_eq_getElem hjl⟩
            have HLW : Hid (lwS S st sn = ⟨lens1 S st, S.gone ++ [⟨st.lt, v, 0, 0, 0⟩], sn.taken⟩) := by
              show _ = _
              unfold lwS
              rw [if_pos ht, List.getD_eq_getElem?_getD, hv]
              rfl
            obtain ⟨cb, cof, ccap, e2, hcb, hcc, _⟩ := HR2.out.lens.at hv
            simp only [Value.slice.injEq] at e2
            obtain ⟨rfl, hx9, rfl⟩ := e2
            clear hx9
            have o1 : decide (sn.taken ≤ S.last) = false := by simp only [decide_eq_false_iff_not]; omega
            have o2 : decide ((nl : Int) ≤ sn.taken) = false := by simp only [decide_eq_false_iff_not]; omega
            have hgl : S.gone.length ≤ 121 := by omega
            rw [o3]
            clear hv hla hjl
            go_wp2
            go_region_law (refine step_append_seg _ (by rfl) (.tmp 97) (.tmp 108) 41 (by rfl) 43 j0 _ 5 40 Tryd.underlying41 hj hy0 hy1 hy2 rfl (by decide) _ _ _ (by rfl) (Seg.below HR2.out.gone (by repeat' (first | with_reducible exact Below.refl _ _ | with_reducible refine Below.drew ?_ | with_reducible refine below_alloc_ ?_ _))) ⟨wc.heap.size, 0, none⟩ 1 1 (itCs ⟨st.lt, v, 0, 0, 0⟩) (by rfl) rfl (news_of (new_block_ (by simp))) (by simp [itCs, Value.oneCell']) (by decide) (by unfold maxLen; omega) (by omega) _ rfl ?_; intro g off cap2 w8 hs8 hg8 ha8 hl8)
            all_goals
              go_wp2
              go_meet
              case rel =>
                rw [HLW.out]
                exact ⟨rfl, HR2.out.gone_app (by repeat' (first | with_reducible exact Below.refl _ _ | with_reducible refine Below.drew ?_ | with_reducible refine below_alloc_ ?_ _)) hs8 hg8 (by rcases ha8 with h | h; exact Or.inl h; right; simp at h; omega)⟩
          · have o3 : decide (0 ≤ sn.taken) = false := decide_eq_false ht
            have HLW : Hid (lwS S st sn = ⟨lens1 S st, S.gone, S.last⟩) := by show _ = _; unfold lwS; rw [if_neg ht]
            rw [o3]
            clear ht
            go_wp2
            go_meet
            case rel =>
              rw [HLW.out]
              exact ⟨rfl, HR2.out⟩
        case rest =>
          obtain ⟨rfl, hcut⟩ := hcut
          have HR3 : Hid (ShR w7 BB (.slice lx nl lcap) u11 (lwS S st sn).lens (lwS S st sn).gone wc) := hcut
          have hBc3 := hcut.size
          clear s0 c0 c1 c3 hsb htb hcut HR2 hBc
          obtain ⟨⟨s0, hsb⟩, ⟨c0, c1, c3, htb⟩, hcc⟩ := HSE.out wc HR3.out.below
          rcases Nat.eq_zero_or_pos k with hk0 | hk0
          · have o4 : decide (0 < k) = false := by simp only [decide_eq_false_iff_not]; omega
            clear hk0 hcc
            go_wp2
            refine wp_region_quiet_lit (by kernel_rfl) (by kernel_rfl) ?_
            generalize hA : ({ tmps := _, defers := _ } : Act) = A
            iterate 40 ((refine wpQuiet_step (fun K hK => ?_)); subst hA; go_simp; (generalize hA : ({ tmps := _, defers := _ } : Act) = A); (refine hK _ ?_); clear hK K)
            subst hA
            refine wpQuiet_nil ?_
            intro _ hw'
            obtain ⟨nq, hw''⟩ := hw'
            subst hw''
            go_wp2
            go_roundw
            case rel => exact ⟨k + 1, by omega, by go_num, by rw [HSU.out], by rw [HSU.out]; exact HR3.out.drewN _⟩
            case measure => simp [intOf]; omega
          · obtain ⟨k0, hk1⟩ : ∃ k0, k = k0 + 1 := ⟨k - 1, by omega⟩
            obtain ⟨sn0, h0, r2⟩ := HPV.out k0 hk1
            have pw : wc.cell? ⟨sb, so + k0 * 6 + 2, none⟩ = some (.int .i64 sn0.when) := (hcc _ HSB.out).trans r2
            have HWK2 : Hid (0 ≤ sn0.when → st.what = 1 → decide (0 ≤ sn.taken) = decide (sn0.when ≤ st.lt)) := HWK.out k0 sn0 hk1 h0
            have o4 : decide (0 < k) = true := by simp only [decide_eq_true_eq]; omega
            have hk0q : (k0 : Int) < (q : Int) := by omega
            have hwk : IntKind.i64.wrap ((k : Int) - 1) = (k0 : Int) := by rw [hk1, show (((k0 + 1 : Nat) : Int) - 1) = (k0 : Int) by omega]; rw [IntKind.wrap_i64]; omega
            clear hk0 hk1 hcc r2 h0
            by_cases hw0 : 0 ≤ sn0.when
            · have o5 : decide (0 ≤ sn0.when) = true := decide_eq_true hw0
              by_cases hw1 : st.what = 1
              · have o6 : (st.what == 1) = true := by simpa using hw1
                have hdd := HWK2.out hw0 hw1
                clear hw0 hw1
                cases hb : decide (0 ≤ sn.taken) with
                | true =>
                  have o8 : decide (sn0.when ≤ st.lt) = true := by rw [← hdd]; exact hb
                  clear hdd
                  go_wp2
                  refine wp_region_quiet_lit (by kernel_rfl) (by kernel_rfl) ?_
                  generalize hA : ({ tmps := _, defers := _ } : Act) = A
                  iterate 40 ((refine wpQuiet_step (fun K hK => ?_)); subst hA; go_simp; (generalize hA : ({ tmps := _, defers := _ } : Act) = A); (refine hK _ ?_); clear hK K)
                  subst hA
                  refine wpQuiet_nil ?_
                  intro _ hw'
                  obtain ⟨nq, hw''⟩ := hw'
                  subst hw''
                  go_wp2
                  go_roundw
                  case rel => exact ⟨k + 1, by omega, by go_num, by rw [HSU.out], by rw [HSU.out]; exact HR3.out.drewN _⟩
                  case measure => simp [intOf]; omega
                | false =>
                  have o8 : decide (sn0.when ≤ st.lt) = false := by rw [← hdd]; exact hb
                  clear hdd
                  go_wp2
                  refine wp_region_quiet_lit (by kernel_rfl) (by kernel_rfl) ?_
                  generalize hA : ({ tmps := _, defers := _ } : Act) = A
                  iterate 40 ((refine wpQuiet_step (fun K hK => ?_)); subst hA; go_simp; (generalize hA : ({ tmps := _, defers := _ } : Act) = A); (refine hK _ ?_); clear hK K)
                  subst hA
                  refine wpQuiet_nil ?_
                  intro _ hw'
                  obtain ⟨nq, hw''⟩ := hw'
                  subst hw''
                  go_wp2
                  go_roundw
                  case rel => exact ⟨k + 1, by omega, by go_num, by rw [HSU.out], by rw [HSU.out]; exact HR3.out.drewN _⟩
                  case measure => simp [intOf]; omega
              · have o6 : (st.what == 1) = false := by simpa using hw1
                clear hw0 hw1
                go_wp2
                refine wp_region_quiet_lit (by kernel_rfl) (by kernel_rfl) ?_
                generalize hA : ({ tmps := _, defers := _ } : Act) = A
                iterate 40 ((refine wpQuiet_step (fun K hK => ?_)); subst hA; go_simp; (generalize hA : ({ tmps := _, defers := _ } : Act) = A); (refine hK _ ?_); clear hK K)
                subst hA
                refine wpQuiet_nil ?_
                intro _ hw'
                obtain ⟨nq, hw''⟩ := hw'
                subst hw''
                go_wp2
                go_roundw
                case rel => exact ⟨k + 1, by omega, by go_num, by rw [HSU.out], by rw [HSU.out]; exact HR3.out.drewN _⟩
                case measure => simp [intOf]; omega
            · have o5 : decide (0 ≤ sn0.when) = false := decide_eq_false hw0
              clear hw0
              go_wp2
              refine wp_region_quiet_lit (by kernel_rfl) (by kernel_rfl) ?_
              generalize hA : ({ tmps := _, defers := _ } : Act) = A
              iterate 40 ((refine wpQuiet_step (fun K hK => ?_)); subst hA; go_simp; (generalize hA : ({ tmps := _, defers := _ } : Act) = A); (refine hK _ ?_); clear hK K)
              subst hA
              refine wpQuiet_nil ?_
              intro _ hw'
              obtain ⟨nq, hw''⟩ := hw'
              subst hw''
              go_wp2
              go_roundw
              case rel => exact ⟨k + 1, by omega, by go_num, by rw [HSU.out], by rw [HSU.out]; exact HR3.out.drewN _⟩
              case measure => simp [intOf]; omega
    · obtain rfl : k = q := by omega
      obtain ⟨sJ, nJ, hJ⟩ := HJ.out k (Nat.le_refl _)
      have hgle := hcl.2
      obtain ⟨gx, gcap, hgu, hit⟩ := HRR.out.gone.items
      have HIT : Hid (ItemsAt wr gx (lwRun ts ss k).gone) := hit
      have HFin : Hid (Below w.heap.size w wr) := HB7.out.trans (HRR.out.below.mono (by rw [← hBB]; exact HB7.out.size))
      have hbxr : wr.heap[w.heap.size]? = some (.cells #[.int .i64 n, .int .i64 t, .int .i64 R] 25 (0, 0)) := (HRR.out.below.block w.heap.size (by rw [← hBB]; exact lt_of_block HBX7.out)).trans HBX7.out
      have c0 : wr.cell? ⟨w.heap.size, 0, none⟩ = some (.int .i64 n) := by simp [World.cell?, hbxr]
      have c1 : wr.cell? ⟨w.heap.size, 1, none⟩ = some (.int .i64 t) := by simp [World.cell?, hbxr]
      have c2 : wr.cell? ⟨w.heap.size, 2, none⟩ = some (.int .i64 R) := by simp [World.cell?, hbxr]
      have HJJ : Hid ((∀ y ∈ (lwRun ts ss k).gone, y.ok = true) ∧ ((lwRun ts ss k).gone.map It.a).Pairwise (· ≤ ·) ∧ ∀ j, j < (lwRun ts ss k).gone.length → bok n t R (lwRun ts ss k).gone j = true) := ⟨fun y hy => (hJ.gok y hy).1, hJ.gord, hJ.ok⟩
      clear hit hJ hbxr HRR hcl
      generalize (lwRun ts ss k).gone = G at *
      generalize (lwRun ts ss k).last = la at *
      obtain ⟨ng, hng⟩ : ∃ ng, G.length = ng := ⟨_, rfl⟩
      have HNG : Hid (G.length = ng) := hng
      rw [hng] at hgu hgle
      subst hgu
      clear hng
      by_cases h100 : 100 < ng
      · go_wp2
        go_ret
        exact ⟨rfl, HFin.out⟩
      · have hF := fine_of HJJ.out.1 HJJ.out.2.1
        have hokL : okL G := okL_of (by rw [HNG.out]; omega) (fun j y hy => HJJ.out.1 y (List.mem_of_getElem? hy)) (fun j y z hy hz => (hF j y hy).2 z hz)
        have HCF := conform_yes n t R gx gcap G wr HOK.out hokL (HLD.out.below HFin.out) HIT.out
        rw [HNG.out] at HCF
        clear hF hokL
        go_wp2_with (go_at_call 13; refine HCF.mono ?_; rintro e w8 ⟨g, rfl, hg, hrow, hb8⟩)
        have HROW : Hid (RowB w8 g ng (bok n t R G)) := hrow
        have HB8 : Hid (Below w.heap.size w w8) := HFin.out.trans (hb8.mono HFin.out.size)
        clear hrow hb8 HCF
        go_loopw [16] (fun i wx => ∃ j : Nat, j ≤ ng ∧ i = .int .i64 j ∧ wx = w8) (fun i _ => ng - (intOf i).toNat)
        case atStart => exact ⟨0, Nat.zero_le _, rfl, rfl⟩
        case round =>
          obtain ⟨j, hjn, rfl, rfl⟩ := hrel
          by_cases hjl : j < ng
          · have d0 := HROW.out j hjl
            rw [HJJ.out.2.2 j (by rw [HNG.out]; exact hjl)] at d0
            go_wp2
            go_roundw
            case rel => exact ⟨j + 1, by omega, by go_num, trivial⟩
            case measure => simp [intOf]; omega
          · obtain rfl : j = ng := by omega
            go_wp2
            go_ret
            exact ⟨rfl, HB8.out⟩
end Go.Proofs.YtkagmddckglkdaaDoor
