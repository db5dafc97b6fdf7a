/-
  millracekeep.LinkShaped: it returns true at every bucket and rate and for all packets; nothing that was there before is otherwise. Conditions: errors.errorType holds its handle; the packets lie in memory.
-/
import Derived.Test.YtgklojgflcekoaaDoorLk7
import Derived.Test.YtgklojgflcekoaaDoorLk8
import Derived.Test.YtgklojgflcekoaaDoorSn1
import Derived.Test.YtgklojgflcekoaaDoorBkCf
namespace Go.Proofs.YtgklojgflcekoaaDoor
open Go.RowKit Go.Extern.Stop Go.Stop Go.Extern

theorem okL_made {xs : List It} (h100 : xs.length ≤ 100) (hok : ∀ x ∈ xs, x.ok = true) (hF : Fine xs) : okL xs := by
  unfold okL
  rw [listE_fine (by omega)]
  intro j hj
  obtain ⟨x, hx⟩ : ∃ x, xs[j]? = some x := ⟨_, List.getElem?_eq_getElem hj⟩
  have ho := hok x (List.mem_of_getElem? hx)
  cases j with
  | zero => exact fault_first hx ho
  | succ j =>
    obtain ⟨y, hy⟩ : ∃ y, xs[j]? = some y := ⟨_, List.getElem?_eq_getElem (by omega)⟩
    exact fault_none hx hy ho (by have := (hF j y hy).2 x hx; omega)
theorem seg_items {w : World} {v : Value} {L : List It} {n : Nat} (h : Seg w 46 5 v n (flt itc L)) (hn : L.length = n) : ∃ x cap, v = .slice x n cap ∧ ItemsAt w x L := by
  rcases h.form with ⟨rfl, h0, _⟩ | ⟨b, off, cap, rfl, _, _, hb, hc⟩
  · exact ⟨none, 0, by rw [h0], Or.inl (List.length_eq_zero_iff.1 (by omega))⟩
  · refine ⟨_, _, rfl, Or.inr ⟨b, off, rfl, fun i x hx => ?_⟩⟩
    have hat : ∀ j, j < 5 → (flt itc L)[i * 5 + j]? = (itc x)[j]? := fun j hj => flt_at itc 5 itc_len hx hj
    exact ⟨hc _ _ (hat 0 (by omega)), hc _ _ (hat 1 (by omega)), hc _ _ (hat 2 (by omega)), hc _ _ (hat 3 (by omega)), hc _ _ (hat 4 (by omega))⟩
theorem infoItem : (Tryd.prog.info? 46).map (fun i => (i.zero, i.size, i.bytes)) = some (some (.agg #[.int .i64 0, .int .i64 0, .int .i64 0, .int .i64 0, .int .i64 0]), 5, 40) := by kernel_rfl
set_option maxRecDepth 20000 in
set_option maxHeartbeats 4000000 in
theorem lkshaped_any (n t R rn rt : Int) (x : Option Addr) (cap : Nat) (xs : List It) (w : World) (hLd : Laid w) (hI : ItemsAt w x xs) (hm : xs.length ≤ maxLen) :
    Calls Tryd.prog 3 #[.agg #[.int .i64 n, .int .i64 t, .int .i64 R], .agg #[.int .i64 rn, .int .i64 rt], .slice x xs.length cap] w fun e w' => e = .returned (.bool true) ∧ Below w.heap.size w w' := by
  have HI : Hid (ItemsAt w x xs) := hI
  have HLD : Hid (Laid w) := hLd
  have HMM : Hid (xs.length ≤ maxLen) := hm
  clear hI hLd
  unfold maxLen at hm
  by_cases hlen : 40 < xs.length
  · go_enter Tryd.func3, Tryd.ntmps3
    go_wp2
    go_ret
    exact ⟨rfl, below_alloc_ (below_alloc_ (Below.refl _ _) _) _⟩
  obtain ⟨q, hq⟩ : ∃ q, xs.length = q := ⟨_, rfl⟩
  have HN : Hid (xs.length = q) := hq
  rw [hq] at hlen ⊢
  clear hq hm
  have hq40 : decide ((40 : Int) < (q : Int)) = false := by simp only [decide_eq_false_iff_not]; omega
  go_enter Tryd.func3, Tryd.ntmps3
  go_wp2_with (go_at_call 4; fail)
  have HB0 : Hid (Below w.heap.size w ((w.alloc (.cells #[.int .i64 n, .int .i64 t, .int .i64 R] 25)).alloc (.cells #[.int .i64 rn, .int .i64 rt] 23))) := below_alloc_ (below_alloc_ (Below.refl _ _) _) _
  have hbk0 : ((w.alloc (.cells #[.int .i64 n, .int .i64 t, .int .i64 R] 25)).alloc (.cells #[.int .i64 rn, .int .i64 rt] 23)).heap[w.heap.size]? = some (.cells #[.int .i64 n, .int .i64 t, .int .i64 R] 25 (0, 0)) := by rw [Below.heap_alloc _ _ _ (by simp)]; exact new_block _ _
  have hrt0 : ((w.alloc (.cells #[.int .i64 n, .int .i64 t, .int .i64 R] 25)).alloc (.cells #[.int .i64 rn, .int .i64 rt] 23)).heap[w.heap.size + 1]? = some (.cells #[.int .i64 rn, .int .i64 rt] 23 (0, 0)) := new_block_ (by simp)
  generalize (w.alloc (.cells #[.int .i64 n, .int .i64 t, .int .i64 R] 25)).alloc (.cells #[.int .i64 rn, .int .i64 rt] 23) = w0 at *
  have HKEEP : Hid (∀ W, Below w0.heap.size w0 W → (W.heap[w.heap.size]? = some (.cells #[.int .i64 n, .int .i64 t, .int .i64 R] 25 (0, 0))) ∧ (W.heap[w.heap.size + 1]? = some (.cells #[.int .i64 rn, .int .i64 rt] 23 (0, 0))) ∧ Below w.heap.size w W) := fun W hW => ⟨(hW.block _ (lt_of_block hbk0)).trans hbk0, (hW.block _ (lt_of_block hrt0)).trans hrt0, HB0.out.trans (hW.mono HB0.out.size)⟩
  have hs0 : w.heap.size + 1 < w0.heap.size := lt_of_block hrt0
  clear hbk0 hrt0
  by_cases hok : ¬ okB n t R
  · refine (bcheck_no n t R w0 hok).mono ?_
    rintro e w1 ⟨rfl, hb1⟩
    have HFin : Hid (Below w.heap.size w w1) := (HKEEP.out _ hb1).2.2
    clear hb1
    go_wp2
    go_ret
    exact ⟨rfl, HFin.out⟩
  replace hok := Classical.not_not.1 hok
  have HOK : Hid (okB n t R) := hok
  refine (bcheck_yes n t R w0 hok).mono ?_
  rintro e w1 ⟨rfl, hb1⟩
  have HB1 : Hid (Below w0.heap.size w0 w1) := hb1
  clear hok hb1
  go_wp2_with (go_at_call 5; fail)
  refine (newFifo_yes 1000 1000000 false w1 (by decide) (by decide) (by decide) (by decide)).mono ?_
  rintro e w2 ⟨rfl, hl2, hw2⟩
  have HB2 : Hid (Below w0.heap.size w0 w2) := HB1.out.trans ((show Below w1.heap.size w1 w2 by rw [hw2]; exact below_alloc_ (Below.refl _ _) _).mono HB1.out.size)
  have HL2 : Hid (LAt w2 w1.heap.size 57 (frest 1000 1000000 false []) (.slice none 0 0) []) := hl2
  have hs2 : w1.heap.size < w2.heap.size := lt_of_block hl2.blk
  have hs1 : w0.heap.size ≤ w1.heap.size := HB1.out.size
  clear hw2 hl2
  go_wp2_with (go_at_call 6; fail)
  refine (linked_true w2 (HLD.out.below (HKEEP.out _ HB2.out).2.2)).mono ?_
  rintro e w3 ⟨rfl, hb3⟩
  have HB3 : Hid (Below w0.heap.size w0 w3) := HB2.out.trans (hb3.mono HB2.out.size)
  have HL3 : Hid (LAt w3 w1.heap.size 57 (frest 1000 1000000 false []) (.slice none 0 0) []) := HL2.out.below hb3
  obtain ⟨hbk3, hrt3, _⟩ := HKEEP.out _ HB3.out
  have c0 : w3.cell? ⟨w.heap.size, 0, none⟩ = some (.int .i64 n) := by simp [World.cell?, hbk3]
  have c1 : w3.cell? ⟨w.heap.size, 1, none⟩ = some (.int .i64 t) := by simp [World.cell?, hbk3]
  have c2 : w3.cell? ⟨w.heap.size, 2, none⟩ = some (.int .i64 R) := by simp [World.cell?, hbk3]
  have hs3 : w1.heap.size < w3.heap.size := by have := hb3.size; omega
  clear hbk3 hrt3 hb3
  go_wp2_with (go_at_call 7; fail)
  refine (snew_yes n t R _ _ w3 HOK.out).mono ?_
  rintro e w4 ⟨B, rfl, hBs, hst4, hb4⟩
  have HB4 : Hid (Below w0.heap.size w0 w4) := HB3.out.trans (hb4.mono HB3.out.size)
  have HL4 : Hid (LAt w4 w1.heap.size 57 (frest 1000 1000000 false []) (.slice none 0 0) []) := HL3.out.below hb4
  obtain ⟨hbk4, hrt4, hbw4⟩ := HKEEP.out _ HB4.out
  have HST4 : Hid (StG w4 B 1 [.iface 30 (.pointer (some ⟨w1.heap.size, 0, none⟩))] (shPost hd0 false) 68 n t R (R * t) 0) := hst4
  have HBw4 : Hid (Below w.heap.size w w4) := hbw4
  have r0 : w4.cell? ⟨w.heap.size + 1, 0, none⟩ = some (.int .i64 rn) := by simp [World.cell?, hrt4]
  have r1 : w4.cell? ⟨w.heap.size + 1, 1, none⟩ = some (.int .i64 rt) := by simp [World.cell?, hrt4]
  clear c0 c1 c2 hbk4 hrt4 hst4 hbw4 hb4
  go_wp2_with (go_at_call 8; fail)
  by_cases hgood : okRate rn rt = true ∧ okL xs
  · obtain ⟨hr, hl⟩ := hgood
    have HOKL : Hid (okL xs) := hl
    have hcalm := fifo_calm w1.heap.size 1000 1000000 false (by decide) (by decide) (by decide)
    have HRUN := run_yes (shaperM_fine hcalm B HOK.out) (fun k => k = B ∨ k = w1.heap.size) (⟨[], R * t, 0, none⟩ : ShS (List Hd)) rn rt x cap xs 10000000 w4 ⟨(· = w1.heap.size), hd0, ⟨HST4.out, fifo_at0 _ _ _ _ HL4.out, fun e => by have e' : B = w1.heap.size := e; omega, fun y hy => by simp at hy⟩, fun _ => Iff.rfl⟩ ⟨fifo_inv00 _ _ _ _, HOK.out.room.1, Int.le_refl _, Int.le_refl _, Int.le_refl _, fun y hy => by simp at hy⟩ hr hl (HLD.out.below HBw4.out) (HI.out.below HBw4.out) (fun a ha hne e => by
        rcases HI.out with h | ⟨b, off, h, hc⟩
        · exact hne h
        · rw [h] at ha
          obtain rfl := Option.some.inj ha
          obtain ⟨y, r, hy⟩ : ∃ y r, xs = y :: r := by cases hxs : xs with | nil => exact absurd hxs hne | cons y r => exact ⟨y, r, rfl⟩
          have hlt := lt_of_cell (hc 0 y (by rw [hy]; rfl)).1
          have hlt' : b < w.heap.size := hlt
          have e' : b = B ∨ b = w1.heap.size := e
          omega) HMM.out (by decide) (by decide)
    rw [HN.out] at HRUN
    refine HRUN.mono ?_
    rintro e w5 ⟨k, sv, lv, F, rfl, hR⟩
    have hJ := lsJ_run (f := w1.heap.size) (B := B) (P := 1000) (Rm := 1000000) (rn := rn) (rt := rt) (by decide) (by decide) (by decide) HOK.out hl (by decide : (10000000 : Int) ≤ 10000000) k hR.on
    have HCONF := hJ.conf hl.fine.2
    have HNUM : Hid (∀ s ∈ (itL (ShaperM (FifoM w1.heap.size 1000 1000000 false) B n t R) xs rn rt (⟨[], R * t, 0, none⟩ : ShS (List Hd)) k).1.sent, 0 ≤ s.n ∧ s.n < xs.length) := hJ.num
    have hsent := hR.sent
    have HB5 : Hid (Below w0.heap.size w0 w5) := HB4.out.trans (hR.ot.below HB4.out.size (fun j hj => by have : j = B ∨ j = w1.heap.size := hj; omega))
    have HSVL : Hid (∀ b, sv.ownBlock = some b → b < w5.heap.size) := fun b hb => hsent.lt hb
    obtain ⟨lx, ln, lc, rfl⟩ : ∃ x n c, lv = .slice x n c := by rcases Seg.form hR.lost with ⟨h, _⟩ | ⟨b, o, c, h, _⟩ <;> exact ⟨_, _, _, h⟩
    clear hJ hR HRUN hr hl hcalm
    generalize (ShaperM (FifoM w1.heap.size 1000 1000000 false) B n t R).len _ = a1
    generalize (itL (ShaperM (FifoM w1.heap.size 1000 1000000 false) B n t R) xs rn rt (⟨[], R * t, 0, none⟩ : ShS (List Hd)) k).1.most = a2
    generalize (itL (ShaperM (FifoM w1.heap.size 1000 1000000 false) B n t R) xs rn rt (⟨[], R * t, 0, none⟩ : ShS (List Hd)) k).1.sent = ss at *
    have HC : Hid (ss.length ≤ 100 ∧ (∀ x ∈ ss.map (sIt xs), x.ok = true) ∧ Fine (ss.map (sIt xs)) ∧ ∀ j, j < ss.length → bok n t R (ss.map (sIt xs)) j = true) := HCONF
    have HSEG : Hid (Seg w5 44 4 sv ss.length (flt Snt.cs ss)) := hsent
    have hns100 : ss.length ≤ 100 := HCONF.1
    obtain ⟨svx, svc, rfl⟩ : ∃ x c, sv = .slice x ss.length c := by
      rcases hsent.form with ⟨h, h0, _⟩ | ⟨b, o, c, h, _⟩
      · exact ⟨none, 0, by rw [h, h0]⟩
      · exact ⟨_, _, h⟩
    obtain ⟨ns, hns⟩ : ∃ ns, ss.length = ns := ⟨_, rfl⟩
    have HNS : Hid (ss.length = ns) := hns
    rw [hns] at hns100 HSEG ⊢
    clear hns hsent HCONF
    obtain ⟨hbk5, _, hbw5⟩ := HKEEP.out _ HB5.out
    have HBK5 : Hid (w5.heap[w.heap.size]? = some (.cells #[.int .i64 n, .int .i64 t, .int .i64 R] 25 (0, 0))) := hbk5
    have HBW5 : Hid (Below w.heap.size w w5) := hbw5
    clear hbk5 hbw5 r0 r1
    obtain ⟨j0, hj, hy0, hy1, hy2⟩ := info_parts infoItem
    go_wp2
    have HB6 : Hid (Below w5.heap.size w5 (w5.alloc (.cells #[.slice svx ns svc, .slice lx ln lc, .int .i64 a1, .int .i64 a2] 40))) := below_alloc_ (Below.refl _ _) _
    have HG6 : Hid ((w5.alloc (.cells #[.slice svx ns svc, .slice lx ln lc, .int .i64 a1, .int .i64 a2] 40)).heap[w5.heap.size]? = some (.cells #[.slice svx ns svc, .slice lx ln lc, .int .i64 a1, .int .i64 a2] 40 (0, 0))) := new_block _ _
    generalize w5.alloc (.cells #[.slice svx ns svc, .slice lx ln lc, .int .i64 a1, .int .i64 a2] 40) = w6 at *
    have hs56 : w5.heap.size < w6.heap.size := lt_of_block HG6.out
    go_loopw [11, 12] (fun gv i wr => ∃ k : Nat, k ≤ ns ∧ i = .int .i64 k ∧ Seg wr 46 5 gv k (flt itc ((ss.take k).map (sIt xs))) ∧ (∀ b, gv.ownBlock = some b → w6.heap.size ≤ b) ∧ Below w6.heap.size w6 wr) (fun _ i _ => ns - (intOf i).toNat)
    case atStart => exact ⟨0, Nat.zero_le _, rfl, by simpa [flt] using Seg.nil _ _ _, fun b hb => by simp [Value.ownBlock] at hb, Below.refl _ _⟩
    case round =>
      obtain ⟨i, hin, rfl, hgs, hgn, hbr⟩ := hrel
      have HGS : Hid (Seg wr 46 5 u11 i (flt itc ((ss.take i).map (sIt xs)))) := hgs
      have HGN : Hid (∀ b, u11.ownBlock = some b → w6.heap.size ≤ b) := hgn
      have HBR : Hid (Below w6.heap.size w6 wr) := hbr
      have HB5r : Hid (Below w5.heap.size w5 wr) := HB6.out.trans (hbr.mono HB6.out.size)
      have hwr : w6.heap.size ≤ wr.heap.size := hbr.size
      have hlg : wr.heap[w5.heap.size]? = some (.cells #[.slice svx ns svc, .slice lx ln lc, .int .i64 a1, .int .i64 a2] 40 (0, 0)) := (hbr.block _ hs56).trans HG6.out
      obtain ⟨⟨g0, _⟩, _⟩ := four hlg
      clear hgs hgn hbr hlg
      by_cases hlt : i < ns
      · obtain ⟨sn, hsn⟩ : ∃ sn, ss[i]? = some sn := ⟨_, List.getElem?_eq_getElem (by rw [HNS.out]; exact hlt)⟩
        obtain ⟨hn0, hn1⟩ := HNUM.out sn (List.mem_of_getElem? hsn)
        rw [HN.out] at hn1
        obtain ⟨y, hy⟩ : ∃ y, xs[sn.n.toNat]? = some y := ⟨_, List.getElem?_eq_getElem (by rw [HN.out]; omega)⟩
        have HSI : Hid (sIt xs sn = ⟨sn.f, y.l, 0, 0, 0⟩) := by
          show _ = _
          unfold sIt
          rw [List.getD_eq_getElem?_getD, List.getElem?_map, hy]
          rfl
        have HTK : Hid ((ss.take (i + 1)).map (sIt xs) = (ss.take i).map (sIt xs) ++ [⟨sn.f, y.l, 0, 0, 0⟩]) := by
          show _ = _
          rw [List.take_add_one, hsn, List.map_append, Option.toList_some, List.map_cons, List.map_nil, HSI.out]
        have hseg := HSEG.out.below HB5r.out
        obtain ⟨sb, so, sc, he, _, _, hsb, hsc⟩ := hseg.some (by omega)
        simp only [Value.slice.injEq] at he
        obtain ⟨rfl, hx9, rfl⟩ := he
        clear hx9
        have hat : ∀ m, m < 4 → (flt Snt.cs ss)[i * 4 + m]? = (Snt.cs sn)[m]? := fun m hm => flt_at Snt.cs 4 Snt.len hsn hm
        have q0 : wr.cell? ⟨sb, so + i * 4, none⟩ = some (.int .i64 sn.n) := hsc _ _ (hat 0 (by omega))
        have q1 : wr.cell? ⟨sb, so + i * 4 + 1, none⟩ = some (.int .i64 sn.f) := hsc _ _ (hat 1 (by omega))
        have hitr := HI.out.below (HBW5.out.trans (HB5r.out.mono HBW5.out.size))
        rcases hitr with h | ⟨xb, xo, rfl, hxc⟩
        · exfalso; rw [h] at hy; simp at hy
        obtain ⟨_, y1, _⟩ := hxc _ y hy
        have hxb : xb < wr.heap.size := lt_of_cell y1
        have hsb' : sb < wr.heap.size := hsb
        have o1 : decide (sn.n < 0) = false := by simp only [decide_eq_false_iff_not]; omega
        have o2 : decide ((q : Int) ≤ sn.n) = false := by simp only [decide_eq_false_iff_not]; omega
        obtain ⟨pn, hpn⟩ : ∃ pn : Nat, sn.n = pn := ⟨sn.n.toNat, by omega⟩
        rw [hpn] at q0 o1 o2 hn0 hn1 y1
        rw [Int.toNat_natCast] at y1
        have hpq : pn < q := by omega
        clear hseg hsc hat hxc hsn hy hpn
        go_wp2
        go_region_law (refine step_append_seg _ (by rfl) (.tmp 86) (.tmp 99) 26 (by rfl) 46 j0 _ 5 40 Tryd.underlying26 hj hy0 hy1 hy2 rfl (by decide) _ _ _ (by rfl) (Seg.below HGS.out (by repeat' (first | with_reducible exact Below.refl _ _ | with_reducible refine Below.drew ?_ | with_reducible refine below_alloc_ ?_ _))) ⟨wr.heap.size, 0, none⟩ 1 1 (itc ⟨sn.f, y.l, 0, 0, 0⟩) (by rfl) rfl (news_of (new_block_ (by simp))) (by simp [itc, Value.oneCell']) (by decide) (by unfold maxLen; omega) (by omega) _ rfl ?_; intro g off cap2 w8 hs8 hg8 ha8 hl8)
        all_goals
          go_wp2
          go_roundw
          case rel =>
            refine ⟨i + 1, by omega, by go_num, ?_, ?_, ?_⟩
            · rw [HTK.out, flt_append, flt_one]
              exact hs8
            · intro b hb
              simp only [Value.ownBlock, Option.some.injEq] at hb
              subst hb
              rcases ha8 with h | h
              · exact HGN.out _ h
              · simp at h; omega
            · refine HBR.out.trans ?_
              refine Below.grown ?_ hg8 ?_ (fun b hb => HGN.out b hb)
              · repeat' (first | with_reducible exact Below.refl _ _ | with_reducible refine Below.drew ?_ | with_reducible refine Below.alloc ?_ hwr _)
              · simp; omega
          case measure => simp [intOf]; omega
      · obtain rfl : i = ns := by omega
        have hall : (ss.take i).map (sIt xs) = ss.map (sIt xs) := by rw [List.take_of_length_le (by rw [HNS.out]; exact Nat.le_refl _)]
        have hgs := HGS.out
        rw [hall] at hgs
        obtain ⟨gx, gcap, rfl, hgi⟩ := seg_items hgs (by rw [List.length_map, HNS.out])
        have HGI : Hid (ItemsAt wr gx (ss.map (sIt xs))) := hgi
        have HFin : Hid (Below w.heap.size w wr) := HBW5.out.trans (HB5r.out.mono HBW5.out.size)
        have hbk : wr.heap[w.heap.size]? = some (.cells #[.int .i64 n, .int .i64 t, .int .i64 R] 25 (0, 0)) := (HB5r.out.block _ (lt_of_block HBK5.out)).trans HBK5.out
        have c0 : wr.cell? ⟨w.heap.size, 0, none⟩ = some (.int .i64 n) := by simp [World.cell?, hbk]
        have c1 : wr.cell? ⟨w.heap.size, 1, none⟩ = some (.int .i64 t) := by simp [World.cell?, hbk]
        have c2 : wr.cell? ⟨w.heap.size, 2, none⟩ = some (.int .i64 R) := by simp [World.cell?, hbk]
        have HCF := conform_yes n t R gx gcap (ss.map (sIt xs)) wr HOK.out (okL_made (by rw [List.length_map]; exact HC.out.1) HC.out.2.1 HC.out.2.2.1) (HLD.out.below HFin.out) HGI.out
        rw [List.length_map, HNS.out] at HCF
        clear hgs hgi hall hbk
        go_wp2_with (go_at_call 9; refine HCF.mono ?_; rintro e w8 ⟨g, rfl, hg, hrow, hb8⟩)
        have HROW : Hid (RowB w8 g i (bok n t R (ss.map (sIt xs)))) := hrow
        have HB8 : Hid (Below w.heap.size w w8) := HFin.out.trans (hb8.mono HFin.out.size)
        clear hrow hb8 HCF
        go_loopw [15] (fun iv wx => ∃ j : Nat, j ≤ i ∧ iv = .int .i64 j ∧ wx = w8) (fun iv _ => i - (intOf iv).toNat)
        case atStart => exact ⟨0, Nat.zero_le _, rfl, rfl⟩
        case round =>
          obtain ⟨j, hjn, rfl, rfl⟩ := hrel
          by_cases hjl : j < i
          · have d0 := HROW.out j hjl
            rw [HC.out.2.2.2 j (by rw [HNS.out]; exact hjl)] at d0
            go_wp2
            go_roundw
            case rel => exact ⟨j + 1, by omega, by go_num, trivial⟩
            case measure => simp [intOf]; omega
          · obtain rfl : j = i := by omega
            go_wp2
            go_ret
            exact ⟨rfl, HB8.out⟩
  · have HRUN := run_no 34 (.pointer (some ⟨B, 0, none⟩)) rn rt x xs.length cap 10000000 w4 (fun W hW => by
      by_cases hr : okRate rn rt = true
      · exact lkcheck_list _ _ rn rt x cap xs 10000000 W hr (fun hl => hgood ⟨hr, hl⟩) (HLD.out.below (HBw4.out.trans (hW.mono HBw4.out.size))) (HI.out.below (HBw4.out.trans (hW.mono HBw4.out.size))) HMM.out
      · refine (lkcheck_rate _ _ rn rt x xs.length cap 10000000 W (by simpa using hr)).mono ?_
        rintro e w' ⟨rfl, hb⟩
        exact ⟨_, _, rfl, hb⟩)
    rw [HN.out] at HRUN
    refine HRUN.mono ?_
    rintro e w5 ⟨ey, ev, rfl, hb5⟩
    have HFin : Hid (Below w.heap.size w w5) := HBw4.out.trans (hb5.mono HBw4.out.size)
    clear HRUN hb5 hgood r0 r1
    go_wp2
    go_ret
    exact ⟨rfl, HFin.out.alloc HFin.out.size _⟩
end Go.Proofs.YtgklojgflcekoaaDoor
