/-
  The law ScedServes returns true at any flows and any number of ticks. Conditions: the flows lie in memory, and no slice is longer than memory.
-/
import Derived.Test.YtakggmhjfghfkaaSde
namespace Go.Proofs.Ytakggmhjfghfkaa
open Go.RowKit Go.Extern.Stop Go.Stop Go.Extern

set_option maxRecDepth 20000 in
set_option maxHeartbeats 8000000 in
theorem serves_any (x : Option Addr) (cap m : Nat) (ticks : Int) (F : Nat → Flw) (w : World) (hm : m ≤ maxLen) (hA : FlArg w x m F) :
    Calls Try.prog 4 #[.slice x m cap, .int .i64 ticks] w fun e w' => e = .returned (.bool true) ∧ Below w.heap.size w w' := by
  have HA : Hid (FlArg w x m F) := hA
  have HML : Hid (m ≤ maxLen) := hm
  unfold maxLen at hm
  clear hA
  go_enter Try.func4, Try.ntmps4
  go_wp2
  go_loopw [5, 6] (fun s i wr => LenR w m s i wr) (fun _ i _ => m - (intOf i).toNat)
  case atStart => exact ⟨0, 0, 0, Nat.zero_le _, rfl, rfl, rfl⟩
  case round =>
    obtain ⟨k, z, q, hk, rfl, rfl, rfl⟩ := hrel
    by_cases hlt : k < m
    · obtain ⟨b, off, rfl, hF⟩ : ∃ b off, x = some ⟨b, off, none⟩ ∧ FlsAt w b off m F := by
        rcases HA.out with h | h
        · omega
        · exact h
      obtain ⟨c0, c1, _⟩ := hF k hlt
      clear hF
      go_wp2
      go_quiet (fail)
      go_wp2
      go_roundw
      case rel => exact ⟨k + 1, _, _, by omega, by go_num, rfl, rfl⟩
      case measure => simp [intOf]; omega
    · obtain rfl : k = m := by omega
      have HD : Hid (Below w.heap.size w (w.drewN q)) := below_drewN' (Below.refl _ _) q
      by_cases hz : 600 < z
      · go_wp2
        go_ret
        exact ⟨rfl, HD.out⟩
      by_cases hk10 : 10 < k
      · go_wp2
        go_ret
        exact ⟨rfl, HD.out⟩
      by_cases hE : scedE k F = 0
      · have hok := scedE_zero.1 hE
        obtain ⟨b, off, rfl, hF⟩ : ∃ b off, x = some ⟨b, off, none⟩ ∧ FlsAt w b off k F := by
          rcases HA.out with h | h
          · have := hok.lo; omega
          · exact h
        have HF : Hid (FlsAt w b off k F) := hF
        have HOK : Hid (FsOk k F) := hok
        have hk8 := hok.hi
        have hk1 := hok.lo
        clear hE hok hF
        by_cases hr : ticks < (F 0).n ∨ (rch F k : Int) ≤ ticks
        · have HR : Hid (ticks < (F 0).n ∨ (rch F k : Int) ≤ ticks) := hr
          clear hr
          go_wp2_with fail
          refine (sfits_any b off cap k F _ (HF.out.below HD.out) HOK.out).mono ?_
          rintro e w1 ⟨rfl, hb1⟩
          have HB1 : Hid (Below w.heap.size w w1) := below_after HD.out hb1
          clear hb1
          go_wp2_with fail
          refine (make_range b off cap k ticks F w1 (HF.out.below HB1.out) HOK.out HR.out).mono ?_
          rw [errV_not (show (2 : Int) ≠ 0 by decide)]
          rintro e w2 ⟨rfl, hb2⟩
          have HB2 : Hid (Below w.heap.size w w2) := below_after HB1.out hb2
          clear hb2
          unfold noPlan
          go_wp2_with fail
          refine (promised_true _).mono ?_
          rintro e w3 ⟨rfl, hb3⟩
          have HB3 : Hid (Below w.heap.size w w3) := below_after (below_alloc_ HB2.out _) hb3
          clear hb3
          go_wp2_with fail
          refine (promised_true _).mono ?_
          rintro e w4 ⟨rfl, hb4⟩
          have HB4 : Hid (Below w.heap.size w w4) := below_after HB3.out hb4
          clear hb4
          go_wp2
          go_ret
          exact ⟨rfl, HB4.out⟩
        · obtain ⟨Tk, rfl⟩ : ∃ Tk : Nat, ticks = Tk := ⟨ticks.toNat, by omega⟩
          have HT1 : Hid ((F 0).n ≤ Tk) := by show _ ≤ _; omega
          have HT2 : Hid (Tk < rch F k) := by show _ < _; omega
          have hT : Tk ≤ 201 := by have := rch_le (F := F) k 0 (by omega); have := (HOK.out.ok 0 (by omega)).cv.len; omega
          clear hr
          obtain ⟨fb, HFB⟩ : ∃ fb, Hid (fitsB k F = fb) := ⟨_, rfl⟩
          go_wp2_with fail
          refine (sfits_any b off cap k F _ (HF.out.below HD.out) HOK.out).mono ?_
          rw [HFB.out]
          rintro e w1 ⟨rfl, hb1⟩
          have HB1 : Hid (Below w.heap.size w w1) := below_after HD.out hb1
          clear hb1
          go_wp2_with fail
          refine (make_any b off cap k Tk F w1 (HF.out.below HB1.out) HOK.out HT1.out HT2.out).mono ?_
          rintro e w2 ⟨sv, prv, thv, rfl, hP, hb2⟩
          have HB2 : Hid (Below w.heap.size w w2) := below_after HB1.out hb2
          obtain ⟨⟨sx, sc, rfl, hsr, _⟩, pb, po, pc, tb, tf, tc, px, tx, pk, tk, rfl, rfl, h3⟩ := hP
          clear hb2
          go_wp2_with fail
          refine (promised_true _).mono ?_
          rintro e w3 ⟨rfl, hb3⟩
          have HB3 : Hid (Below w.heap.size w w3) := below_after (below_alloc_ HB2.out _) hb3
          have hpl : w3.heap[w2.heap.size]? = some (.cells #[.slice sx Tk sc, .slice (some ⟨pb, po, none⟩) k pc, .slice (some ⟨tb, tf, none⟩) k tc] 33 (0, 0)) := (hb3.block _ (by simp)).trans (new_block _ _)
          have HSR : Hid (Row w3 sx Tk (pik (pF F Tk) (cF F) k)) := hsr.below (below_after (below_alloc_ (Below.refl _ _) _) hb3)
          obtain ⟨⟨k0, k1, k2⟩, _, hlp⟩ := plan_cells hpl
          obtain ⟨pq, HPQ⟩ : ∃ pq, Hid (w2.heap.size = pq) := ⟨_, rfl⟩
          rw [HPQ.out] at k0 k1 k2 hlp
          clear hb3 hpl h3 hsr
          rw [HPQ.out]
          have hmk1 := run_make_row' (P := Try.prog) 23 3 (.int .i64 0) 8 Try.underlying23 infoInt rfl .i64 .i64 k (by omega) (by omega)
          have hmk2 := run_make_row' (P := Try.prog) 31 23 (.slice none 0 0) 24 Try.underlying31 infoIntS rfl .i64 .i64 k (by omega) (by omega)
          go_wp2
          clear hmk1 hmk2
          obtain ⟨W5, hW5⟩ : ∃ W5, W5 = ((w3.alloc (.cells (madeCells #[Value.int .i64 0] k) 3)).alloc (.cells (madeCells #[Value.slice none 0 0] k) 23)) := ⟨_, rfl⟩
          rw [← hW5]
          have hBY0 : ByR w3 W5 w3.heap.size (w3.heap.size + 1) k (Tk + 1) (fun i => conv (tot (cF F i)) (F i).p) 0 := by
            subst hW5
            refine ⟨below_alloc_ (below_alloc_ (Below.refl _ _) _) _, (gnAt_made w3 k).kept (Below.heap_alloc _ _ _ (by simp)), madeCells #[Value.slice none 0 0] k, fun _ => 0, new_block_ (by simp), size_madeCells _ _, fun i hi => by omega⟩
          clear hW5
          obtain ⟨gb, HGB⟩ : ∃ gb, Hid (w3.heap.size = gb) := ⟨_, rfl⟩
          obtain ⟨yb, HYB⟩ : ∃ yb, Hid (w3.heap.size + 1 = yb) := ⟨_, rfl⟩
          rw [HYB.out, HGB.out] at hBY0
          rw [HYB.out, HGB.out]
          have HBY0 : Hid (ByR w3 W5 gb yb k (Tk + 1) (fun i => conv (tot (cF F i)) (F i).p) 0) := hBY0
          have hgy : gb < yb := by have := HGB.out; have := HYB.out; omega
          have HW3 : Hid (w.heap.size ≤ gb) := by show _ ≤ _; rw [← HGB.out]; exact HB3.out.size
          clear hBY0
          go_loopw [14] (fun i wr => ∃ j : Nat, j ≤ k ∧ i = .int .i64 j ∧ ByR w3 wr gb yb k (Tk + 1) (fun i => conv (tot (cF F i)) (F i).p) j) (fun i _ => k - (intOf i).toNat)
          case atStart => exact ⟨0, Nat.zero_le _, rfl, HBY0.out⟩
          case round =>
            obtain ⟨j, hj, rfl, hB⟩ := hrel
            have HBY : Hid (ByR w3 wr gb yb k (Tk + 1) (fun i => conv (tot (cF F i)) (F i).p) j) := hB
            have HBW : Hid (Below w.heap.size w wr) := HB3.out.trans (hB.bel.mono HW3.out)
            by_cases hjk : j < k
            · obtain ⟨c0, c1, hw0⟩ := HF.out.below HBW.out j hjk
              have hokj := HOK.out.ok j hjk
              have hrj := rch_le (F := F) k j hjk
              have hnj := hokj.ln
              have HSJ : Hid (∀ f, f = F j → conv (tot (padF f.n f.c)) f.p = (fun i => conv (tot (cF F i)) (F i).p) j) := by rintro f rfl; rfl
              have HT1' : Hid ((F j).n ≤ Tk) := by show _ ≤ _; rw [hnj]; exact HT1.out
              have HT2' : Hid (Tk < (F j).m) := by show _ < _; have := HT2.out; omega
              have hpd : PadOk (padF (F j).n (F j).c) := padOk hokj.come
              have HCV : Hid (okC (F j).m (F j).p) := hokj.cv
              clear hB hokj hrj hnj
              generalize F j = f at *
              obtain ⟨x, cx, n, c, y, cy, mm, p⟩ := f
              obtain ⟨rc, rp, _, _⟩ := hw0
              simp only at c0 c1 rc rp HT1' HT2' hpd HCV
              have hT1 := HT1'.out
              have hT2 := HT2'.out
              obtain ⟨W4, hcp, hown, hot, hsz⟩ := copy_come (wr.alloc (.cells (madeCells #[Value.int .i64 0] (Tk + 1)) 3)) wr.heap.size (Tk + 1) x cx n c (new_block _ _) (rc.below (below_alloc_ (Below.refl _ _) _)) (by omega)
              have h4 : Below wr.heap.size wr W4 := Below.trans (b := wr.alloc (.cells (madeCells #[Value.int .i64 0] (Tk + 1)) 3)) (below_alloc_ (Below.refl _ _) _) (Ot.below hot (by simp) (fun b e => by omega))
              have H4 : Hid (Below wr.heap.size wr W4) := h4
              have HR4 : Hid (Row W4 (some ⟨wr.heap.size, 0, none⟩) (Tk + 1) (padF n c)) := by
                obtain ⟨cur, g1, g2⟩ := hown
                exact Or.inr ⟨_, 0, rfl, fun i hi => by simp only [World.cell?, g1, Nat.zero_add]; exact g2 i hi⟩
              have HRP : Hid (Row W4 y mm p) := rp.below h4
              have HAM : Hid (∀ i, i < Tk + 1 → okAmt (padF n c i)) := fun i _ => ⟨hpd.lo i, by have := hpd.hi i; omega⟩
              have d0 := (h4.cell (World.block_lt_of_cell? wr _ c0)).trans c0
              have d1 := (h4.cell (World.block_lt_of_cell? wr _ c1)).trans c1
              have hbl := World.block_lt_of_cell? wr _ c0
              have hbl4 := World.block_lt_of_cell? W4 _ d0
              have hmk := run_make_row' (P := Try.prog) 23 3 (.int .i64 0) 8 Try.underlying23 infoInt rfl .i64 .i64 (Tk + 1) (by omega) (by omega)
              simp only [Int.natCast_add, Int.natCast_one] at hmk
              clear h4 hown hot hsz rc rp hpd
              go_wp2_with fail
              refine (serve_fresh (some ⟨wr.heap.size, 0, none⟩) y (Tk + 1) cy (Tk + 1) mm (padF n c) p _ HR4.out HRP.out HCV.out (by omega) HAM.out).mono ?_
              rintro e w5 ⟨s, rfl, hrow, hb5, hs5⟩
              obtain ⟨cur, s', q1, q2, q3⟩ := HBY.out.ex
              have q1' : w5.heap[yb]? = some (.cells cur 23 (0, 0)) := ((below_after H4.out hb5).block yb (lt_of_block q1)).trans q1
              obtain ⟨old, hold⟩ : ∃ old, cur[j]? = some old := ⟨_, Array.getElem?_eq_getElem (by omega)⟩
              have z0 : w5.cell? ⟨yb, j, none⟩ = some old := by simp only [World.cell?, q1']; exact hold
              have z1 : w5.frozen? ⟨yb, j, none⟩ = false := by simp [World.frozen?, q1']
              have hyl := lt_of_block q1'
              have HNX : Hid (ByR w3 (w5.setCell ⟨yb, j, none⟩ (.slice (some ⟨s, 0, none⟩) (Tk + 1) (Tk + 1))) gb yb k (Tk + 1) (fun i => conv (tot (cF F i)) (F i).p) (j + 1)) := by
                have hrow' := hrow
                rw [HSJ.out _ rfl] at hrow'
                exact HBY.out.step H4.out hb5 hgy hrow' hs5 hjk
              clear q1 q2 q3 q1' hold hrow hb5 hs5 d0 d1 c0 c1 hcp hmk
              go_wp2
              go_roundw
              case rel => exact ⟨j + 1, by omega, by go_num, HNX.out⟩
              case measure => simp [intOf]; omega
            · obtain rfl : k = j := by omega
              clear hB
              have HCM : Hid (CmOk k Tk (cF F) (kF F Tk)) := cmOk HOK.out
              have HPD : Hid (∀ i, i < k → PadOk (cF F i)) := fun i hi => padOk (HOK.out.ok i hi).come
              have HBD : Hid (∀ t j, j ≤ k → 0 ≤ wtJ (pF F Tk) (cF F) k t j ∧ wtJ (pF F Tk) (cF F) k t j ≤ 1600) := fun t j hj => wtJ_bd (fun i hi t => ⟨(HPD.out i hi).lo t, (HPD.out i hi).hi t⟩) (fun i hi t => ((HPD.out i hi).sum t).2) hk8 t j hj
              obtain ⟨cur, sb, hy1, hy2, hy3⟩ := HBY.out.ex
              have HY : Hid (∀ wx, Ot (fun b => b = gb) wr wx → ∀ i, i < k → wx.cell? ⟨yb, i, none⟩ = some (.slice (some ⟨sb i, 0, none⟩) (Tk + 1) (Tk + 1)) ∧ ∀ t, t < Tk + 1 → wx.cell? ⟨sb i, t, none⟩ = some (.int .i64 (conv (tot (cF F i)) (F i).p t))) := fun wx ho i hi => by
                obtain ⟨e1, e2, e3⟩ := hy3 i hi
                have c1 : wr.cell? ⟨yb, i, none⟩ = some (.slice (some ⟨sb i, 0, none⟩) (Tk + 1) (Tk + 1)) := by simp only [World.cell?, hy1]; exact e1
                refine ⟨(ho.cell (World.block_lt_of_cell? wr _ c1) (show yb ≠ gb by omega)).trans c1, fun t ht => ?_⟩
                have := (row_ot e2 ho (by omega)).at ht
                rwa [Nat.zero_add] at this
              have HB6 : Hid (∀ wx, Ot (fun b => b = gb) wr wx → Below gb w3 wx) := fun wx ho => HBY.out.bel.trans (ho.below (by have := HBY.out.bel.size; have := HGB.out; omega) (fun b e => by omega))
              have HGN : Hid (GnAt wr gb k (fun _ => 0)) := HBY.out.gn
              clear hy1 hy2 hy3 HBY0
              go_wp2
              go_loopw [11, 17] (fun wv i wx => ∃ t : Nat, t ≤ Tk ∧ i = .int .i64 t ∧ wv = .int .i64 (wtB (pF F Tk) (cF F) k t) ∧ Ot (fun b => b = gb) wr wx ∧ GnAt wx gb k (fun i => (gon (pF F Tk) (cF F) k t i : Int))) (fun _ i _ => Tk - (intOf i).toNat)
              case atStart =>
                refine ⟨0, Nat.zero_le _, rfl, ?_, Ot.refl _ _, HGN.out.congr (fun _ _ => rfl)⟩
                have : wtB (pF F Tk) (cF F) k 0 = 0 := tot_zero k (fun i _ => by simp [tot, gon])
                rw [this]
              case round =>
                obtain ⟨t, ht, rfl, rfl, hot, hgn⟩ := hrel
                obtain ⟨wt, HWE⟩ : ∃ wt, Hid (wt = wr) := ⟨_, rfl⟩
                have HBT : Hid (Below gb w3 wr) := HB6.out wr hot
                by_cases hlt : t < Tk
                · have HYT : Hid (∀ i, i < k → wr.cell? ⟨yb, i, none⟩ = some (.slice (some ⟨sb i, 0, none⟩) (Tk + 1) (Tk + 1)) ∧ wr.cell? ⟨sb i, t, none⟩ = some (.int .i64 (conv (tot (cF F i)) (F i).p t))) := fun i hi => ⟨(HY.out wr hot i hi).1, (HY.out wr hot i hi).2 t (by omega)⟩
                  have HGT : Hid (GnAt wr gb k (fun i => (gon (pF F Tk) (cF F) k t i : Int))) := hgn
                  have HOT : Hid (∀ u v q, Ot (fun b => b = gb) _ ((wr.drewN q).setCell ⟨gb, u, none⟩ v)) := fun u v q => Ot.setCell (S := fun b => b = gb) (p := ⟨gb, u, none⟩) (hot.drewN q) (Or.inl rfl) _
                  have HOD : Hid (∀ q, Ot (fun b => b = gb) _ (wr.drewN q)) := fun q => hot.drewN q
                  have hbw : Below w.heap.size w wr := HB3.out.trans (HBT.out.mono HW3.out)
                  have HFW : Hid (FlsAt wr b off k F) := HF.out.below hbw
                  have hb3 : Below w3.heap.size w3 wr := by rw [HGB.out]; exact HBT.out
                  have p0 := (hb3.cell (World.block_lt_of_cell? w3 _ k0)).trans k0
                  have HSW : Hid (Row wr sx Tk (pik (pF F Tk) (cF F) k)) := HSR.out.below hb3
                  have HWT : Hid (GnAt wr gb k (fun i => (gon (pF F Tk) (cF F) k t i : Int))) := hgn
                  clear hot hgn hbw hb3
                  go_wp2
                  go_loopw [11, 18] (fun wv i wx => ∃ j q : Nat, j ≤ k ∧ i = .int .i64 j ∧ wv = .int .i64 (wtJ (pF F Tk) (cF F) k t j) ∧ wx = wr.drewN q) (fun _ i _ => k - (intOf i).toNat)
                  case atStart => exact ⟨0, 0, Nat.zero_le _, rfl, by simp [wtJ, tot], rfl⟩
                  case round =>
                    obtain ⟨j, q, hj, rfl, rfl, rfl⟩ := hrel
                    by_cases hjk : j < k
                    · obtain ⟨y1, y2⟩ := HYT.out j hjk
                      obtain ⟨g1, _, g2⟩ := HGT.out.cell hjk
                      obtain ⟨c0, c1, hw0⟩ := HFW.out j hjk
                      have hy3 := World.block_lt_of_cell? _ _ y1
                      have hsv : fb = true → conv (tot (cF F j)) (F j).p t ≤ gon (pF F Tk) (cF F) k t j := fun e => serves_math HOK.out HT2.out (HFB.out.trans e) (by omega) hjk
                      obtain ⟨b1, b2⟩ := HBD.out t j hj
                      obtain ⟨b3, b4⟩ := HBD.out t (j + 1) (by omega)
                      have HWS : Hid (wtJ (pF F Tk) (cF F) k t (j + 1) = wtJ (pF F Tk) (cF F) k t j + cF F j t) := by
                        show _ = _
                        unfold wtJ
                        simp only [tot]
                        omega
                      obtain ⟨wj, HWJ⟩ : ∃ wj, Hid (wtJ (pF F Tk) (cF F) k t j = wj) := ⟨_, rfl⟩
                      obtain ⟨wj', HWJ'⟩ : ∃ wj, Hid (wtJ (pF F Tk) (cF F) k t (j + 1) = wj) := ⟨_, rfl⟩
                      rw [HWJ.out, HWJ'.out] at HWS
                      rw [HWJ.out] at b1 b2
                      rw [HWJ'.out] at b3 b4
                      rw [HWJ.out]
                      have HCT : Hid (∀ f, f = F j → cF F j t = padF f.n f.c t) := by rintro f rfl; rfl
                      generalize (gon (pF F Tk) (cF F) k t j : Int) = gg at g1 hsv
                      generalize conv (tot (cF F j)) (F j).p t = ss at y2 hsv
                      generalize sb j = sj at y1 y2
                      generalize cF F j t = cjt at HWS HCT
                      generalize F j = f at *
                      obtain ⟨x, cx, n, c, y, cy, mm, p⟩ := f
                      obtain ⟨rc, _, _, _⟩ := hw0
                      simp only at c0 c1 rc
                      have hct := HCT.out _ rfl
                      simp only at hct
                      have HRC : Hid (Row _ x n c) := rc
                      clear rc HCT
                      by_cases htn : t < n
                      · obtain ⟨xb, xo, rfl⟩ := HRC.out.some (by omega)
                        have c2 := HRC.out.at htn
                        have hbl := World.block_lt_of_cell? _ _ c2
                        have hcc : cjt = c t := by rw [hct]; simp [padF, htn]
                        have e0 : IntKind.i64.wrap (wj + c t) = wj' := by rw [IntKind.wrap_i64]; have := HWS.out; omega
                        clear hct hcc b3 b4
                        cases fb with
                        | false =>
                          clear hsv
                          go_wp2
                          go_quiet (fail)
                          go_wp2
                          go_roundw
                          case rel => exact ⟨j + 1, _, by omega, by go_num, by rw [HWJ'.out], by first | rfl | exact World.drewN_drewN _ _ _⟩
                          case measure => simp [intOf]; omega
                        | true =>
                          have hss : ¬ gg < ss := by have := hsv rfl; omega
                          clear hsv
                          go_wp2
                          go_quiet (fail)
                          go_wp2
                          go_roundw
                          case rel => exact ⟨j + 1, _, by omega, by go_num, by rw [HWJ'.out], by first | rfl | exact World.drewN_drewN _ _ _⟩
                          case measure => simp [intOf]; omega
                      · have HEQ : Hid (wj = wj') := by show _ = _; have := HWS.out; rw [hct] at this; simp [padF, htn] at this; exact this.symm
                        clear hct b3 b4
                        cases fb with
                        | false =>
                          clear hsv
                          go_wp2
                          go_quiet (fail)
                          go_wp2
                          go_roundw
                          case rel => exact ⟨j + 1, _, by omega, by go_num, by rw [HWJ'.out, HEQ.out], by first | rfl | exact World.drewN_drewN _ _ _⟩
                          case measure => simp [intOf]; omega
                        | true =>
                          have hss : ¬ gg < ss := by have := hsv rfl; omega
                          clear hsv
                          go_wp2
                          go_quiet (fail)
                          go_wp2
                          go_roundw
                          case rel => exact ⟨j + 1, _, by omega, by go_num, by rw [HWJ'.out, HEQ.out], by first | rfl | exact World.drewN_drewN _ _ _⟩
                          case measure => simp [intOf]; omega
                    · obtain rfl : k = j := by omega
                      obtain ⟨eb, eo, rfl⟩ := HSW.out.some (by omega)
                      have v0 := HSW.out.at hlt
                      have hvl := World.block_lt_of_cell? _ _ v0
                      have hcl : ∀ i, i < k → ∀ t, 0 ≤ cF F i t := fun i hi t => (HPD.out i hi).lo t
                      rcases pik_range (P := pF F Tk) (c := cF F) (m := k) t with hp | ⟨i, hi, hp, _⟩
                      · have hw0 := wt_none (P := pF F Tk) hcl t (by omega)
                        have hnx := wt_next (P := pF F Tk) (C := cF F) (m := k) t
                        rw [if_pos (by omega), hw0] at hnx
                        have HNX : Hid (wtB (pF F Tk) (cF F) k (t + 1) = 0) := hnx
                        have HGN2 : Hid (∀ i, i < k → gon (pF F Tk) (cF F) k t i = gon (pF F Tk) (cF F) k (t + 1) i) := fun i _ => by rw [gon_succ, if_neg (by omega)]
                        rw [hp] at v0
                        rw [hw0]
                        clear hp hw0 hnx hcl
                        go_wp2
                        go_roundw
                        case rel => exact ⟨t + 1, by omega, by go_num, by rw [HNX.out], HOD.out _, (HGT.out.congr (fun i hi => by rw [HGN2.out i hi])).kept rfl⟩
                        case measure => simp [intOf]; omega
                      · obtain ⟨hw0, _⟩ := wt_some (P := pF F Tk) hcl t i hp
                        have hnx := wt_next (P := pF F Tk) (C := cF F) (m := k) t
                        rw [if_neg (by omega)] at hnx
                        obtain ⟨_, hw1⟩ := HBD.out t k (Nat.le_refl _)
                        obtain ⟨g1, g2, g3⟩ := HGT.out.cell hi
                        have hgl := gon_le (P := pF F Tk) hcl t i hi
                        have hgl2 := ((HPD.out i hi).sum t).2
                        obtain ⟨gg, HGG⟩ : ∃ gg, Hid (gon (pF F Tk) (cF F) k t i = gg) := ⟨_, rfl⟩
                        rw [HGG.out] at hgl g1
                        have hgs : gg ≤ 100 := by omega
                        have HST : Hid (GnAt ((wt.drewN q).setCell ⟨gb, i, none⟩ (.int .i64 ((gg : Int) + 1))) gb k (fun i => (gon (pF F Tk) (cF F) k (t + 1) i : Int))) := by
                          rw [HWE.out]
                          refine GnAt.set (HGT.out.kept rfl) i _ fun j hj => ?_
                          rw [gon_succ, hp]
                          by_cases e : j = i
                          · subst e
                            rw [if_pos rfl, if_pos rfl, HGG.out]
                            push_cast
                            rfl
                          · rw [if_neg (by omega), if_neg e]
                        obtain ⟨W, HWW⟩ : ∃ W, Hid (wtJ (pF F Tk) (cF F) k t k = W) := ⟨_, rfl⟩
                        rw [HWW.out] at hw0 hw1 hnx
                        have HNX : Hid (wtB (pF F Tk) (cF F) k (t + 1) = W - 1) := hnx
                        have hw2 : (W == 0) = false := by simp; omega
                        have hw3 : ¬ W = 0 := by omega
                        rw [hp] at v0
                        rw [HWW.out]
                        clear hp hnx hcl hgl hgl2
                        go_wp2
                        go_roundw
                        case rel => exact ⟨t + 1, by omega, by go_num, by rw [HNX.out], HOT.out _ _ _, by have := HST.out; rw [HWE.out] at this; exact this⟩
                        case measure => simp [intOf]; omega
                · obtain rfl : Tk = t := by omega
                  go_wp2
                  go_ret
                  exact ⟨rfl, HB3.out.trans (HBT.out.mono HW3.out)⟩
      · have HV : Hid (errV (scedE k F) = .iface 43 (.int .i64 (scedE k F))) := errV_not hE
        have HE : Hid (scedE k F ≠ 0) := hE
        clear hE
        go_wp2_with fail
        refine (sfits_no x cap k (scedE k F) _ HE.out (checkA x cap k F _ HML.out (HA.out.below HD.out))).mono ?_
        rw [HV.out]
        rintro e w1 ⟨rfl, hb1⟩
        have HB1 : Hid (Below w.heap.size w w1) := below_after HD.out hb1
        clear hb1
        go_wp2_with fail
        refine (make_no x cap k ticks (scedE k F) w1 HE.out (fun W hW => checkA x cap k F _ HML.out (HA.out.below (below_after HB1.out hW)))).mono ?_
        rw [HV.out]
        rintro e w2 ⟨rfl, hb2⟩
        have HB2 : Hid (Below w.heap.size w w2) := below_after HB1.out hb2
        clear hb2
        unfold noPlan
        go_wp2_with fail
        refine (promised_true _).mono ?_
        rintro e w3 ⟨rfl, hb3⟩
        have HB3 : Hid (Below w.heap.size w w3) := below_after (below_alloc_ HB2.out _) hb3
        clear hb3
        go_wp2_with fail
        refine (promised_true _).mono ?_
        rintro e w4 ⟨rfl, hb4⟩
        have HB4 : Hid (Below w.heap.size w w4) := below_after HB3.out hb4
        clear hb4
        go_wp2
        go_ret
        exact ⟨rfl, HB4.out⟩
end Go.Proofs.Ytakggmhjfghfkaa
