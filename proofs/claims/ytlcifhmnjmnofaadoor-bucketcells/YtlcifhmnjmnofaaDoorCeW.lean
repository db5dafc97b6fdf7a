/-
  millraceref.Cells, walked: in new memory which packets conform; nothing that was there before is otherwise. Conditions: a bucket that may be; packets that may be lie in memory.
-/
import Derived.Test.YtlcifhmnjmnofaaDoorCeR
namespace Go.Proofs.YtlcifhmnjmnofaaDoor
open Go.RowKit Go.Deep

theorem due_lim {n t R : Int} {xs : List It} (hF : Fine xs) (hb : okB n t R) (k : Nat) (hk : k ≤ xs.length) : 0 ≤ due n t R xs k ∧ due n t R xs k ≤ 2000000000000000 := by
  have h1 := due_bounds (n := n) (t := t) (R := R) hF hb.1.1 hb.2.1.1 hb.2.2.1 k hk
  have h2 := hb.room
  have h3 := hb.1
  omega
set_option maxRecDepth 20000 in
set_option maxHeartbeats 4000000 in
theorem rcells_any (n t R : Int) (x : Option Addr) (cap : Nat) (xs : List It) (w : World) (hb : okB n t R) (hl : okL xs) (hI : ItemsAt w x xs) :
    Calls Tryd.prog 6 #[.agg #[.int .i64 n, .int .i64 t, .int .i64 R], .slice x xs.length cap] w fun e w' => ∃ v, e = .returned v ∧ Bls w' v (cokL n t R xs xs.length) ∧ Below w.heap.size w w' := by
  obtain ⟨hF, h100⟩ := hl.fine
  have HOK : Hid (okB n t R) := hb
  have HF : Hid (Fine xs) := hF
  have HI : Hid (ItemsAt w x xs) := hI
  have HN : Hid ((1 ≤ n ∧ n ≤ 1000000) ∧ (1 ≤ t ∧ t ≤ 1000000) ∧ 0 ≤ R ∧ R ≤ 1000000) := hb
  obtain ⟨m, hm⟩ : ∃ m, xs.length = m := ⟨_, rfl⟩
  have HM : Hid (xs.length = m) := hm
  rw [hm] at h100 ⊢
  have hB0 : Below w.heap.size w (w.alloc (.cells #[.int .i64 n, .int .i64 t, .int .i64 R] 34)) := (Below.refl _ _).alloc (Nat.le_refl _) _
  have HB0 : Hid (Below w.heap.size w (w.alloc (.cells #[.int .i64 n, .int .i64 t, .int .i64 R] 34))) := hB0
  have HC0 : Hid ((w.alloc (.cells #[.int .i64 n, .int .i64 t, .int .i64 R] 34)).heap[w.heap.size]? = some (.cells #[.int .i64 n, .int .i64 t, .int .i64 R] 34 (0, 0))) := heap_alloc_new _ _
  clear hb hl hI hF hm hB0
  go_enter Tryd.func6, Tryd.ntmps6
  go_wp2_with fail
  generalize w.alloc (.cells #[.int .i64 n, .int .i64 t, .int .i64 R] 34) = w0 at *
  refine (rInt_any 0 _ (by decide)).mono ?_
  rintro e w1 ⟨b1, rfl, h1, hb1⟩
  have HZ : Hid (FracR w1 b1 0 1) := h1
  have HB1 : Hid (Below w.heap.size w w1) := HB0.out.trans (hb1.mono HB0.out.size)
  have HC1 : Hid (w1.heap[w.heap.size]? = some (.cells #[.int .i64 n, .int .i64 t, .int .i64 R] 34 (0, 0))) := (hb1.block _ (lt_of_block HC0.out)).trans HC0.out
  have HK : Hid (∀ W : World, Below w1.heap.size w1 W → W.cell? ⟨w.heap.size, 0, none⟩ = some (.int .i64 n) ∧ W.cell? ⟨w.heap.size, 1, none⟩ = some (.int .i64 t) ∧ W.cell? ⟨w.heap.size, 2, none⟩ = some (.int .i64 R)) := by
    intro W hW
    have h2 := (hW.block _ (lt_of_block HC1.out)).trans HC1.out
    exact ⟨by simp [World.cell?, h2], by simp [World.cell?, h2], by simp [World.cell?, h2]⟩
  clear h1 hb1 HB0 HC0
  go_wp2
  go_cut [6] (fun v wx => ∃ b, v = .pointer (some ⟨b, 0, none⟩) ∧ FracR wx b t n ∧ Below w1.heap.size w1 wx)
  case first =>
    obtain ⟨c0, c1, c2⟩ := HK.out w1 (Below.refl _ _)
    go_region_held3 (fun W => W.cell? ⟨w.heap.size, 0, none⟩ = some (.int .i64 n) ∧ W.cell? ⟨w.heap.size, 1, none⟩ = some (.int .i64 t)) (first | (with_reducible exact ⟨(HK.out _ HD.out.2).1, (HK.out _ HD.out.2).2.1⟩) | (with_reducible exact ⟨(HK.out _ HS.out.2).1, (HK.out _ HS.out.2).2.1⟩) | (with_reducible exact ⟨(HK.out _ HA.out.2).1, (HK.out _ HA.out.2).2.1⟩) | (with_reducible exact ⟨(HK.out _ (Below.refl _ _).drew).1, (HK.out _ (Below.refl _ _).drew).2.1⟩) | exact ⟨c0, c1⟩)
      (first
        | (go_at_call 15; refine (cTick_any ba bs n t _ (HA.out.1.below hbs) HS.out.1 HN.out.1 HN.out.2.1).mono ?_; rintro e wd ⟨bd, rfl, hd, hbd⟩; have HD : Hid (FracR wd bd t n ∧ Below w1.heap.size w1 wd) := ⟨hd, HS.out.2.trans (hbd.mono HS.out.2.size)⟩; clear hd)
        | (go_at_call 16; refine (rSpeed_any n t _ (by have := HN.out; omega) (by have := HN.out; omega)).mono ?_; rintro e ws ⟨bs, rfl, hs, hbs⟩; have HS : Hid (FracR ws bs n t ∧ Below w1.heap.size w1 ws) := ⟨hs, HA.out.2.trans (hbs.mono HA.out.2.size)⟩; clear hs)
        | (go_at_call 14; refine (rInt_any 1 _ (by decide)).mono ?_; rintro e wa ⟨ba, rfl, ha, hba⟩; have HA : Hid (FracR wa ba 1 1 ∧ Below w1.heap.size w1 wa) := ⟨ha, (Below.refl _ _).drew.trans hba⟩; clear ha))
    all_goals
      go_wp2
      go_meet
      case rel => exact ⟨_, rfl, HD.out.1, HD.out.2⟩
  case rest =>
    obtain ⟨tk, rfl, htk, hb2⟩ := hcut
    have HT : Hid (FracR wc tk t n) := htk
    have HB2 : Hid (Below w1.heap.size w1 wc) := hb2
    clear htk hb2
    obtain ⟨i0, hi, hz0, hz1, hz2⟩ := info_parts infoBool1
    go_wp2
    go_loopw [5, 7, 20] (fun tv ov i wr => ∃ (k tb : Nat), k ≤ m ∧ i = .int .i64 k ∧ tv = .pointer (some ⟨tb, 0, none⟩) ∧ FracR wr tb (due n t R xs k) n ∧ Bls wr ov (cokL n t R xs k) ∧ (∀ b, ov.ownBlock = some b → wc.heap.size ≤ b) ∧ Below wc.heap.size wc wr) (fun _ _ i _ => m - (intOf i).toNat)
    case atStart => exact ⟨0, b1, Nat.zero_le _, rfl, rfl, (HZ.out.below HB2.out).same HN.out.1.1 (by simp [due]), Prw.nil _ _ _, fun b hb => by simp [Value.ownBlock] at hb, Below.refl _ _⟩
    case round =>
      obtain ⟨k, tb, hkm, rfl, rfl, hfr, hbl, hon, hbe⟩ := hrel
      have HFR : Hid (FracR wr tb (due n t R xs k) n) := hfr
      have HBL : Hid (Bls wr u7 (cokL n t R xs k)) := hbl
      have HON : Hid (∀ b, u7.ownBlock = some b → wc.heap.size ≤ b) := hon
      have HBE : Hid (Below wc.heap.size wc wr) := hbe
      have hsz := hbe.size
      clear hfr hbl hon hbe
      by_cases hlt : k < m
      · obtain ⟨y, hy⟩ : ∃ y, xs[k]? = some y := ⟨_, List.getElem?_eq_getElem (by rw [HM.out]; exact hlt)⟩
        have hfy := (HF.out k y hy).1
        have HYB : Hid ((0 ≤ y.a ∧ y.a ≤ 1000000000) ∧ 0 ≤ y.l ∧ y.l ≤ 10000) := ⟨⟨hfy.1, hfy.2.1⟩, by omega, by omega⟩
        have HDB : Hid (0 ≤ due n t R xs k ∧ due n t R xs k ≤ 2000000000000000) := due_lim HF.out HOK.out k (by rw [HM.out]; omega)
        have HCK : Hid (cok n t R xs k = !decide (y.a * n + R * t < (if due n t R xs k ≤ y.a * n then y.a * n else due n t R xs k) + y.l * t)) := by show _ = _; unfold cok; rw [hy]
        have HDS : Hid (due n t R xs (k + 1) = if y.a * n + R * t < (if due n t R xs k ≤ y.a * n then y.a * n else due n t R xs k) + y.l * t then due n t R xs k else (if due n t R xs k ≤ y.a * n then y.a * n else due n t R xs k) + y.l * t) := due_succ hy
        have hBw : Below w.heap.size w wr := HB1.out.trans ((HB2.out.trans (HBE.out.mono HB2.out.size)).mono HB1.out.size)
        obtain ⟨yb, yo, hxe, hIt⟩ : ∃ yb yo, x = some ⟨yb, yo, none⟩ ∧ Items w yb yo xs := by
          rcases HI.out with h | ⟨b, off, e, h⟩
          · rw [h] at hy; simp at hy
          · exact ⟨b, off, e, h⟩
        subst hxe
        obtain ⟨k0, k1, k2, k3, k4⟩ := (hIt.below hBw) k y hy
        have hybl := lt_of_cell k0
        simp only at hybl
        obtain ⟨G, hG⟩ : ∃ G, (if due n t R xs k ≤ y.a * n then y.a * n else due n t R xs k) = G := ⟨_, rfl⟩
        rw [hG] at HCK HDS
        have HG0 : Hid ((if due n t R xs k ≤ y.a * n then y.a * n else due n t R xs k) = G) := hG
        have HGB : Hid ((0 ≤ G ∧ G ≤ 2000000000000000) ∧ (0 ≤ y.l * t ∧ y.l * t ≤ 10000000000) ∧ (0 ≤ y.a * n ∧ y.a * n ≤ 1000000000000000) ∧ 0 ≤ R * t ∧ R * t ≤ 1000000000000) := by
          have h1 := prod_bounds (n := n) (R := y.a) (a := 1000000) (b := 1000000000) (by have := HN.out; omega) HN.out.1.2 HYB.out.1.1 HYB.out.1.2
          have h2 := prod_bounds (n := t) (R := y.l) (a := 1000000) (b := 10000) (by have := HN.out; omega) HN.out.2.1.2 HYB.out.2.1 HYB.out.2.2
          have h3 := HOK.out.room
          have h4 := HDB.out
          refine ⟨?_, by omega, by omega, h3⟩
          rw [← hG]
          split <;> omega
        clear hy hfy hIt hBw hG
        go_wp2
        have HWI : Hid (Below wr.heap.size wr (wr.alloc (.cells #[.int .i64 y.a, .int .i64 y.l, .int .i64 y.f, .int .i64 y.b, .int .i64 y.m] 51)) ∧ (wr.alloc (.cells #[.int .i64 y.a, .int .i64 y.l, .int .i64 y.f, .int .i64 y.b, .int .i64 y.m] 51)).heap[wr.heap.size]? = some (.cells #[.int .i64 y.a, .int .i64 y.l, .int .i64 y.f, .int .i64 y.b, .int .i64 y.m] 51 (0, 0))) := ⟨(Below.refl _ _).alloc (Nat.le_refl _) _, heap_alloc_new _ _⟩
        clear k0 k1 k2 k3 k4 hybl
        generalize wr.alloc (.cells #[.int .i64 y.a, .int .i64 y.l, .int .i64 y.f, .int .i64 y.b, .int .i64 y.m] 51) = wi at *
        obtain ⟨ib, hib⟩ : ∃ ib, wr.heap.size = ib := ⟨_, rfl⟩
        rw [hib] at HWI ⊢
        have HIB : Hid (wr.heap.size = ib) := hib
        have HKI : Hid (∀ W : World, Below wi.heap.size wi W → (W.cell? ⟨ib, 0, none⟩ = some (.int .i64 y.a) ∧ W.cell? ⟨ib, 1, none⟩ = some (.int .i64 y.l)) ∧ W.cell? ⟨w.heap.size, 2, none⟩ = some (.int .i64 R)) := by
          intro W hW
          have h2 := (hW.block _ (lt_of_block HWI.out.2)).trans HWI.out.2
          have hbw : Below w1.heap.size w1 W := (HB2.out.trans ((HBE.out.trans ((HWI.out.1.mono (by omega) : Below wc.heap.size wr wi))).mono HB2.out.size)).trans (hW.mono (by have := HB2.out.size; have := HWI.out.1.size; omega))
          exact ⟨⟨by simp [World.cell?, h2], by simp [World.cell?, h2]⟩, (HK.out W hbw).2.2⟩
        have HFI : Hid (FracR wi tb (due n t R xs k) n) := HFR.out.below (by have := HWI.out.1; rw [← HIB.out] at this; exact this)
        have HTI : Hid (FracR wi tk t n) := HT.out.below (HBE.out.trans ((HWI.out.1.mono (by omega))))
        clear hib
        go_cut [10] (fun v wx => ∃ b, v = .pointer (some ⟨b, 0, none⟩) ∧ FracR wx b (G + y.l * t) n ∧ Below wi.heap.size wi wx)
        case first =>
          obtain ⟨⟨c0, c1⟩, _⟩ := HKI.out wi (Below.refl _ _)
          go_region_held3 (fun W => W.cell? ⟨ib, 0, none⟩ = some (.int .i64 y.a) ∧ W.cell? ⟨ib, 1, none⟩ = some (.int .i64 y.l)) (first | (with_reducible exact (HKI.out _ HE.out.2).1) | (with_reducible exact (HKI.out _ HD.out.2).1) | (with_reducible exact (HKI.out _ HC.out.2).1) | (with_reducible exact (HKI.out _ HBB.out.2).1) | (with_reducible exact (HKI.out _ HA.out.2).1) | (with_reducible exact (HKI.out _ (Below.refl _ _).drew).1) | exact ⟨c0, c1⟩)
            (first
              | (go_at_call 17; refine (cAdd_any bg bm G (y.l * t) n _ ((HBB.out.1.below hbc).below hbd) HD.out.1 (by have := HGB.out; omega) (by have := HGB.out; omega) HN.out.1).mono ?_; rintro e we ⟨be, rfl, he, hbe⟩; have HE : Hid (FracR we be (G + y.l * t) n ∧ Below wi.heap.size wi we) := ⟨he, HD.out.2.trans (hbe.mono HD.out.2.size)⟩; clear he)
              | (go_at_call 19; refine (cMul_any bl tk y.l t n _ HC.out.1 (HTI.out.below HC.out.2) (by have := HYB.out; omega) HN.out.1 HN.out.2.1).mono ?_; rintro e wd ⟨bm, rfl, hd, hbd⟩; have HD : Hid (FracR wd bm (y.l * t) n ∧ Below wi.heap.size wi wd) := ⟨hd, HC.out.2.trans (hbd.mono HC.out.2.size)⟩; clear hd)
              | (go_at_call 14; refine (rInt_any y.l _ (by have := HYB.out; omega)).mono ?_; rintro e wl ⟨bl, rfl, hc, hbc⟩; have HC : Hid (FracR wl bl y.l 1 ∧ Below wi.heap.size wi wl) := ⟨hc, HBB.out.2.trans (hbc.mono HBB.out.2.size)⟩; clear hc)
              | (go_at_call 18; refine (cGreater_any tb ba (due n t R xs k) y.a n _ (HFI.out.below HA.out.2) HA.out.1 (by have := HDB.out; omega) HYB.out.1 HN.out.1).mono ?_; rintro e wg ⟨bg, rfl, hg, hbg⟩; rw [HG0.out] at hg; have HBB : Hid (FracR wg bg G n ∧ Below wi.heap.size wi wg) := ⟨hg, HA.out.2.trans (hbg.mono HA.out.2.size)⟩; clear hg)
              | (go_at_call 14; refine (rInt_any y.a _ (by have := HYB.out; omega)).mono ?_; rintro e wa ⟨ba, rfl, ha, hba⟩; have HA : Hid (FracR wa ba y.a 1 ∧ Below wi.heap.size wi wa) := ⟨ha, (Below.refl _ _).drew.trans hba⟩; clear ha))
          all_goals
            go_wp2
            go_meet
            case rel => exact ⟨_, rfl, HE.out.1, HE.out.2⟩
        case rest =>
          obtain ⟨nb, rfl, hnb, hbn⟩ := hcut
          have HNB : Hid (FracR wc nb (G + y.l * t) n) := hnb
          have HBN : Hid (Below wi.heap.size wi wc) := hbn
          have HKJ : Hid (∀ W : World, Below wc.heap.size wc W → W.cell? ⟨ib, 0, none⟩ = some (.int .i64 y.a) ∧ W.cell? ⟨w.heap.size, 2, none⟩ = some (.int .i64 R)) := fun W hW => ⟨(HKI.out W (HBN.out.trans (hW.mono HBN.out.size))).1.1, (HKI.out W (HBN.out.trans (hW.mono HBN.out.size))).2⟩
          have HTC : Hid (FracR wc tk t n) := HTI.out.below HBN.out
          have HFC : Hid (FracR wc tb (due n t R xs k) n) := HFI.out.below HBN.out
          clear hnb hbn
          go_wp2
          go_cut [11] (fun v wx => v = .bool (cok n t R xs k) ∧ Below wc.heap.size wc wx)
          case first =>
            obtain ⟨c0, c2⟩ := HKJ.out wc (Below.refl _ _)
            go_region_held3 (fun W => W.cell? ⟨ib, 0, none⟩ = some (.int .i64 y.a) ∧ W.cell? ⟨w.heap.size, 2, none⟩ = some (.int .i64 R)) (first | (with_reducible exact HKJ.out _ HEE.out) | (with_reducible exact HKJ.out _ HE.out.2) | (with_reducible exact HKJ.out _ HD.out.2) | (with_reducible exact HKJ.out _ HC.out.2) | (with_reducible exact HKJ.out _ HA.out.2) | (with_reducible exact HKJ.out _ (Below.refl _ _).drew) | exact ⟨c0, c2⟩)
              (first
                | (go_at_call 20; refine (cCmp_any nb be (G + y.l * t) (y.a * n + R * t) n _ (HNB.out.below HE.out.2) HE.out.1 (by have := HGB.out; omega) (by have := HGB.out; omega) HN.out.1).mono ?_; rintro e wf ⟨rfl, hbf⟩; have HEE : Hid (Below wc.heap.size wc wf) := HE.out.2.trans (hbf.mono HE.out.2.size))
                | (go_at_call 17; refine (cAdd_any ba bm (y.a * n) (R * t) n _ (((HA.out.1.whole HN.out.1.1).below hbc).below hbd) HD.out.1 (by have := HGB.out; omega) (by have := HGB.out; omega) HN.out.1).mono ?_; rintro e we ⟨be, rfl, he, hbe⟩; have HE : Hid (FracR we be (y.a * n + R * t) n ∧ Below wc.heap.size wc we) := ⟨he, HD.out.2.trans (hbe.mono HD.out.2.size)⟩; clear he)
                | (go_at_call 19; refine (cMul_any bl tk R t n _ HC.out.1 (HTC.out.below HC.out.2) (by have := HN.out; omega) HN.out.1 HN.out.2.1).mono ?_; rintro e wd ⟨bm, rfl, hd, hbd⟩; have HD : Hid (FracR wd bm (R * t) n ∧ Below wc.heap.size wc wd) := ⟨hd, HC.out.2.trans (hbd.mono HC.out.2.size)⟩; clear hd)
                | (go_at_call 14; refine (rInt_any R _ (by have := HN.out; omega)).mono ?_; rintro e wl ⟨bl, rfl, hc, hbc⟩; have HC : Hid (FracR wl bl R 1 ∧ Below wc.heap.size wc wl) := ⟨hc, HA.out.2.trans (hbc.mono HA.out.2.size)⟩; clear hc)
                | (go_at_call 14; refine (rInt_any y.a _ (by have := HYB.out; omega)).mono ?_; rintro e wa ⟨ba, rfl, ha, hba⟩; have HA : Hid (FracR wa ba y.a 1 ∧ Below wc.heap.size wc wa) := ⟨ha, (Below.refl _ _).drew.trans hba⟩; clear ha))
            all_goals
              go_wp2
              go_meet
              case rel => exact ⟨by rw [HCK.out, cmpZ_le], HEE.out⟩
          case rest =>
            obtain ⟨rfl, hbx⟩ := hcut
            have HWX : Hid (Below wr.heap.size wr wc) := by
              have h1 := HWI.out.1
              rw [← HIB.out] at h1
              exact (h1.trans (HBN.out.mono h1.size)).trans (hbx.mono (Nat.le_trans h1.size HBN.out.size))
            have HNX : Hid (FracR wc nb (G + y.l * t) n) := HNB.out.below hbx
            have HFX : Hid (FracR wc tb (due n t R xs k) n) := HFC.out.below hbx
            have HRX : Hid (Bls wc u7 (cokL n t R xs k)) := Prw.below HBL.out HWX.out
            have hcx : wr.heap.size ≤ wc.heap.size := HWX.out.size
            have hlc : (cokL n t R xs k).length = k := cokL_length _ _ _ _ _
            clear hbx
            cases hck : cok n t R xs k with
            | true =>
              have HDX : Hid (due n t R xs (k + 1) = G + y.l * t) := by
                have h1 := HCK.out
                rw [hck] at h1
                have h2 := HDS.out
                rw [if_neg (by simpa using h1.symm)] at h2
                exact h2
              have HCX : Hid (cok n t R xs k = true) := hck
              clear hck
              go_wp2_with (at_builtin; refine wpList_append_prw (K := isB) _ rfl (.tmp 49) (.tmp 51) 32 rfl 4 i0 _ 1 Tryd.underlying32 hi hz0 hz1 hz2 rfl ⟨false, rfl⟩ _ _ rfl (Prw.below HRX.out ((Below.refl _ _).alloc (Nat.le_refl _) _)) ⟨wc.heap.size, 0, none⟩ 1 (.bool true) rfl (by simp) rfl ⟨true, rfl⟩ (by simp [hlc]; unfold maxLen; omega) (by simp [hlc]; omega) ?_; intro v8 w8 hs8 hg8 ha8)
              go_roundw
              case rel =>
                have hA8 : Below wc.heap.size wc (wc.alloc (.cells #[.bool true] 4)) := (Below.refl _ _).alloc (Nat.le_refl _) _
                refine ⟨k + 1, nb, by omega, by go_num, rfl, ?_, ?_, ?_, ?_⟩
                · rw [HDX.out]; exact HNX.out.grown hA8 HRX.out hg8 isB_slice isB_u32
                · unfold Bls; rw [cokL_succ, List.map_append, HCX.out]; exact hs8
                · intro b hb
                  rcases ha8 with h | h
                  · exact HON.out b (h ▸ hb)
                  · rw [h] at hb; simp at hb; omega
                · exact (HBE.out.trans ((HWX.out.trans (hA8.mono hcx)).mono hsz)).grown hg8 (by simp; omega) HON.out
              case measure => simp [intOf]; omega
            | false =>
              have HDX : Hid (due n t R xs (k + 1) = due n t R xs k) := by
                have h1 := HCK.out
                rw [hck] at h1
                have h2 := HDS.out
                rw [if_pos (by simpa using h1.symm)] at h2
                exact h2
              have HCX : Hid (cok n t R xs k = false) := hck
              clear hck
              go_wp2_with (at_builtin; refine wpList_append_prw (K := isB) _ rfl (.tmp 49) (.tmp 51) 32 rfl 4 i0 _ 1 Tryd.underlying32 hi hz0 hz1 hz2 rfl ⟨false, rfl⟩ _ _ rfl (Prw.below HRX.out ((Below.refl _ _).alloc (Nat.le_refl _) _)) ⟨wc.heap.size, 0, none⟩ 1 (.bool false) rfl (by simp) rfl ⟨false, rfl⟩ (by simp [hlc]; unfold maxLen; omega) (by simp [hlc]; omega) ?_; intro v8 w8 hs8 hg8 ha8)
              go_roundw
              case rel =>
                have hA8 : Below wc.heap.size wc (wc.alloc (.cells #[.bool false] 4)) := (Below.refl _ _).alloc (Nat.le_refl _) _
                refine ⟨k + 1, tb, by omega, by go_num, rfl, ?_, ?_, ?_, ?_⟩
                · rw [HDX.out]; exact HFX.out.grown hA8 HRX.out hg8 isB_slice isB_u32
                · unfold Bls; rw [cokL_succ, List.map_append, HCX.out]; exact hs8
                · intro b hb
                  rcases ha8 with h | h
                  · exact HON.out b (h ▸ hb)
                  · rw [h] at hb; simp at hb; omega
                · exact (HBE.out.trans ((HWX.out.trans (hA8.mono hcx)).mono hsz)).grown hg8 (by simp; omega) HON.out
              case measure => simp [intOf]; omega
      · obtain rfl : k = m := by omega
        go_wp2
        go_ret
        exact ⟨_, rfl, HBL.out, HB1.out.trans ((HB2.out.trans (HBE.out.mono HB2.out.size)).mono HB1.out.size)⟩
end Go.Proofs.YtlcifhmnjmnofaaDoor
