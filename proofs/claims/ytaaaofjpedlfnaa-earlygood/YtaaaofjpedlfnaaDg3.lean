/-
  millracekeep.EarlyGood: it returns true at every target, span and all steps; nothing that was there before is otherwise. Conditions: the steps lie in memory.
-/
import Derived.Test.YtaaaofjpedlfnaaDg2
namespace Go.Proofs.Ytaaaofjpedlfnaa
open Go.RowKit Go.Extern.Stop Go.Stop Go.Extern

theorem below_dN {a w : World} (h : Below a.heap.size a w) (n : Nat) : Below a.heap.size a (w.drewN n) := ⟨h.os, h.tape, h.output, h.size, h.block⟩
theorem ptrD (b : Nat) (w : World) : (binOp .eql 52 (.pointer (some ⟨b, 0, none⟩)) (.pointer none)).run Try.prog w = .ok (.bool false) w := by kernel_rfl
set_option maxRecDepth 20000 in
set_option maxHeartbeats 4000000 in
theorem good_any (T0 S0 : Int) (x : Option Addr) (cap : Nat) (xs : List Stp) (w : World) (hl : Lies w x (flt Stp.cs xs)) (hm : xs.length ≤ maxLen) :
    Calls Try.prog 4 #[.int .i64 T0, .int .i64 S0, .slice x xs.length cap] w fun e w' => e = .returned (.bool true) ∧ Below w.heap.size w w' := by
  have HL : Hid (Lies w x (flt Stp.cs xs)) := hl
  clear hl
  unfold maxLen at hm
  obtain ⟨q, hq⟩ : ∃ q, xs.length = q := ⟨_, rfl⟩
  have HN : Hid (xs.length = q) := hq
  rw [hq] at hm ⊢
  clear hq
  have hp1 := ptrD
  by_cases hlen : 120 < q
  · go_enter Try.func4, Try.ntmps4
    go_wp2
    go_ret
    exact ⟨rfl, Below.refl _ _⟩
  obtain ⟨T, hT⟩ : ∃ T, pickN T0 3000 = T := ⟨_, rfl⟩
  obtain ⟨S, hS⟩ : ∃ S, pickN S0 3000 = S := ⟨_, rfl⟩
  have hT1 := pickN_bd T0 3000 (by decide)
  have hS1 := pickN_bd S0 3000 (by decide)
  rw [hT] at hT1
  rw [hS] at hS1
  have HPT := fun W => pick_any T0 3000 W (by decide) (by decide)
  have HPS := fun W => pick_any S0 3000 W (by decide) (by decide)
  rw [hT] at HPT
  rw [hS] at HPS
  clear hT hS hm
  obtain ⟨i0, hi, hz0, hz1, hz2⟩ := info_parts infoInt1
  go_enter Try.func4, Try.ntmps4
  go_wp2_with (go_at_call 5; fail)
  refine (HPT _).mono ?_
  rintro e w0 ⟨rfl, hw0⟩
  subst hw0
  go_wp2_with (go_at_call 5; fail)
  refine (HPS _).mono ?_
  rintro e w0 ⟨rfl, hw0⟩
  subst hw0
  go_wp2_with (go_at_call 14; fail)
  refine (newDelay_yes T (1 + S) 120 _ (by decide) (by decide) hT1.1 (by omega) (by omega) (by omega)).mono ?_
  rintro e w1 ⟨rfl, hd1, hb1⟩
  go_wp2_with (go_at_call 7; fail)
  refine (first_all _).mono ?_
  rintro e w2 ⟨rfl, hb2⟩
  go_wp2_with (go_at_call 15; fail)
  have hb12 : Below w0.heap.size w0 w2 := hb1.trans (hb2.mono hb1.size)
  have hD2 : DAt w2 (w0.heap.size + 1) 120 1000000 T (1 + S) (.slice none 0 0) dl0 := LAt.below hd1 hb2
  have hli2 : Lies w2 x (flt Stp.cs xs) := HL.out.below hb12
  have hS2 : 0 ≤ 1 + S ∧ 1 + S ≤ 1000000 := by omega
  have HP := play_any (DelayM (w0.heap.size + 1) 120 1000000 T (1 + S)) (delayM_fine _ _ _ _ _ (by decide) (by decide) (by decide) hS2.1 hS2.2) (· = w0.heap.size + 1) dl0 x cap xs w2 hli2 (by rw [HN.out]; omega) (newDelay_at hD2) (delay_inv0 _ _ _ _ _)
  rw [HN.out] at HP
  refine HP.mono ?_
  rintro e w3 ⟨u, us, F, rfl, hsn, hot⟩
  have hrun := delay_run (w0.heap.size + 1) (P := 120) (R := 1000000) (T := T) (S := 1 + S) (by decide) (by decide) (by decide) hS2.1 hS2.2 xs (by rw [HN.out]; omega) dl0 ginv0 (delay_inv0 _ _ _ _ _)
  obtain ⟨G, G2, hG0, hG⟩ := play_keeps (delay_keeps (w0.heap.size + 1) 120 1000000 T (1 + S)) (s0 := dl0) rfl (timesL 0 xs)
  have hsl : (playFrom (DelayM (w0.heap.size + 1) 120 1000000 T (1 + S)) dl0 0 (timesL 0 xs)).length = q := by
    have := playFrom_length (DelayM (w0.heap.size + 1) 120 1000000 T (1 + S)) dl0 0 (timesL 0 xs)
    rw [timesL_length, HN.out] at this
    exact this
  have hb3 : Below w0.heap.size w0 w3 := hb12.trans (hot.below hb12.size (fun k hk => by omega))
  generalize playFrom (DelayM (w0.heap.size + 1) 120 1000000 T (1 + S)) dl0 0 (timesL 0 xs) = ss at *
  have hli3 : Lies w3 x (flt Stp.cs xs) := HL.out.below hb3
  have hk := kept_any xs ss us G G2 x cap u _ F w3 hli3 (by rw [HN.out]; omega) hsn (by rw [hsl, HN.out]) hG0 hG
  rw [HN.out] at hk
  have HSN : Hid (Sns w3 w2.heap.size F u ss us) := hsn
  have HB3 : Hid (Below w0.heap.size w0 w3) := hb3
  have HRUN : Hid (∀ i t sn, (timesL 0 xs)[i]? = some t → ss[i]? = some sn → GStep T (lastDl (timesL 0 xs) ss i) (cameD (timesL 0 xs) (i + 1)) t sn ∧ (∀ a ∈ cameD (timesL 0 xs) (i + 1), 0 ≤ a ∧ a ≤ 1000000)) := hrun
  have HSL : Hid (ss.length = q) := hsl
  obtain ⟨sx, scap, hu, _⟩ := hsn.lies
  rw [hsl] at hu
  subst hu
  clear hsn hot hrun hG0 hG hsl hb3 hli3 HP hb12 hD2 hli2 hb1 hd1 hb2
  go_wp2_with (go_at_call 16; fail)
  refine hk.mono ?_
  rintro e w4 ⟨rfl, hb4⟩
  have HB4 : Hid (Below w0.heap.size w0 w4) := HB3.out.trans (hb4.mono HB3.out.size)
  have HS4 : Hid (Sns w4 w2.heap.size F (.slice sx q scap) ss us) := HSN.out.ot (F' := F) (Ot.of_below (S := fun _ => False) hb4) (fun _ _ _ _ h => h) (fun _ _ h => h)
  clear hb4 hk
  have HTC := times_any x cap xs w4 (HL.out.below HB4.out) (by rw [HN.out]; omega)
  rw [HN.out] at HTC
  go_wp2_with (go_at_call 8; fail)
  refine HTC.mono ?_
  rintro e w5 ⟨tv, rfl, ht5, hn5, hb5⟩
  obtain ⟨tx, tcap, htv, htl⟩ := ht5.lies
  rw [timesL_length, HN.out] at htv
  subst htv
  have HTL : Hid (Lies w5 tx (flt Stp.cs (timesL 0 xs))) := htl
  have HB5 : Hid (Below w0.heap.size w0 w5) := HB4.out.trans (hb5.mono HB4.out.size)
  have HS5 : Hid (Sns w5 w2.heap.size F (.slice sx q scap) ss us) := HS4.out.ot (F' := F) (Ot.of_below (S := fun _ => False) hb5) (fun _ _ _ _ h => h) (fun _ _ h => h)
  clear htl hb5 ht5 hn5 HTC
  obtain ⟨ts, hts⟩ : ∃ ts, timesL 0 xs = ts := ⟨_, rfl⟩
  have HTG : Hid (∀ (i : Nat) (st : Stp), ts[i]? = some st → 0 ≤ st.lt ∧ st.lt ≤ 1000000) := by
    intro i st h
    rw [← hts] at h
    have := timesL_get h (by rw [HN.out]; omega)
    omega
  have HTN : Hid (ts.length = q) := by show _ = _; rw [← hts, timesL_length, HN.out]
  rw [hts] at HTL HRUN
  clear hts
  go_wp2
  go_loopw [11, 12, 13] (fun cv l i wr => ∃ k : Nat, k ≤ q ∧ i = .int .i64 k ∧ l = .int .i64 (lastDl ts ss k) ∧ Ins wr cv (cameD ts k) ∧ (∀ b, cv.ownBlock = some b → w5.heap.size ≤ b) ∧ Below w5.heap.size w5 wr) (fun _ _ i _ => q - (intOf i).toNat)
  case atStart => exact ⟨0, Nat.zero_le _, rfl, rfl, Ins.nil _, fun b hb => by simp [Value.ownBlock] at hb, Below.refl _ _⟩
  case round =>
    obtain ⟨k, hkq, rfl, rfl, hcv, hcn, hbr⟩ := hrel
    have HCV : Hid (Ins wr u11 (cameD ts k)) := hcv
    have HCN : Hid (∀ b, u11.ownBlock = some b → w5.heap.size ≤ b) := hcn
    have HBR : Hid (Below w5.heap.size w5 wr) := hbr
    clear hcv hcn hbr
    by_cases hlt : k < q
    · obtain ⟨sn, hsn⟩ : ∃ sn, ss[k]? = some sn := ⟨_, List.getElem?_eq_getElem (by rw [HSL.out]; exact hlt)⟩
      obtain ⟨uu, huu⟩ : ∃ uu, us[k]? = some uu := ⟨_, List.getElem?_eq_getElem (by rw [HS5.out.len, HSL.out]; exact hlt)⟩
      obtain ⟨st, hst⟩ : ∃ st, ts[k]? = some st := ⟨_, List.getElem?_eq_getElem (by rw [HTN.out]; exact hlt)⟩
      obtain ⟨hgs, hca⟩ := HRUN.out k st sn hst hsn
      have HGS : Hid (GStep T (lastDl ts ss k) (cameD ts (k + 1)) st sn) := hgs
      have HCA : Hid (∀ a ∈ cameD ts (k + 1), 0 ≤ a ∧ a ≤ 1000000) := hca
      have hlt0 := HTG.out k st hst
      have HLK : Hid (lastDl ts ss (k + 1) = lastG (lastDl ts ss k) st sn) := lastDl_succ hst hsn
      have HCK : Hid (cameD ts (k + 1) = cameS (cameD ts k) st) := cameD_succ hst
      obtain ⟨sx', scap', he, hlies⟩ := HS5.out.lies
      simp only [HSL.out, Value.slice.injEq, true_and] at he
      obtain ⟨rfl, rfl⟩ := he
      obtain ⟨sb, so, rfl, hsb, s0, s1, s2, s3, s4, s5⟩ := hlies.seen (zip_at hsn huu)
      obtain ⟨hlo, hln⟩ := HS5.out.lost k sn uu hsn huu
      obtain ⟨tb, tof, rfl, htb, c0, c1, c2, c3, c4, c5, c6⟩ := HTL.out.seven hst
      have HLO : Hid (Ins w5 uu sn.lost) := hlo
      have hcl := cameD_len ts k
      obtain ⟨lx, lcap, huv⟩ := hlo.slice
      have HSE : Hid (∀ W : World, Below w5.heap.size w5 W → (W.cell? ⟨sb, so + k * 6, none⟩ = some (.int .i64 sn.taken) ∧ W.cell? ⟨sb, so + k * 6 + 5, none⟩ = some uu ∧ sb < W.heap.size) ∧ W.cell? ⟨tb, tof + k * 7, none⟩ = some (.int .i64 st.what) ∧ W.cell? ⟨tb, tof + k * 7 + 1, none⟩ = some (.int .i64 st.lt) ∧ tb < W.heap.size ∧ Ins W uu sn.lost) := by
        intro W hW
        have hc : ∀ (p : Addr), p.block < w5.heap.size → W.cell? p = w5.cell? p := fun p hp => World.cell?_of_block (w := w5) (hW.block p.block hp)
        exact ⟨⟨(hc _ hsb).trans s0, (hc _ hsb).trans s5, Nat.lt_of_lt_of_le hsb hW.size⟩, (hc _ htb).trans c0, (hc _ htb).trans c1, Nat.lt_of_lt_of_le htb hW.size, Seg.below HLO.out hW⟩
      clear hlies hsn huu hst hgs hca s0 s1 s2 s3 s4 s5 c0 c1 c2 c3 c4 c5 c6 hlo hln hsb htb
      obtain ⟨⟨s0, s5, hsb⟩, c0, c1, htb, hlo⟩ := HSE.out wr HBR.out
      clear hlo
      go_upto_if 62 with (fail)
      go_cut [11] (fun cv wx => Ins wx cv (cameD ts (k + 1)) ∧ (∀ b, cv.ownBlock = some b → w5.heap.size ≤ b) ∧ Below w5.heap.size w5 wx)
      case first =>
        by_cases hw0 : st.what = 0
        · have hw2 : (st.what == 0) = true := by simpa using hw0
          have HCK0 : Hid (cameD ts (k + 1) = cameD ts k ++ [st.lt]) := by show _ = _; rw [HCK.out, cameS, if_pos hw0]
          clear hw0
          go_wp2_with (at_builtin; refine wpList_append_seg _ rfl (.tmp 63) (.tmp 69) 24 rfl 3 i0 _ 1 8 Try.underlying24 hi hz0 hz1 hz2 rfl (by decide) _ _ _ rfl (Seg.below HCV.out (below_alloc_ (Below.refl _ _) _)) ⟨wr.heap.size, 0, none⟩ 1 1 [.int .i64 st.lt] rfl rfl (news_of (new_block_ (by simp))) (by simp [Value.oneCell']) (by decide) (by unfold maxLen; omega) (by omega) _ rfl ?_; intro g off cap2 w6 hs6 hg6 ha6 hl6)
          go_meet
          case rel =>
            rw [HCK0.out]
            refine ⟨by unfold Ins; simpa using hs6, fun b hb => ?_, below_grown_ (below_alloc_ HBR.out _) hg6 HCN.out⟩
            simp only [Value.ownBlock, Option.some.injEq] at hb
            subst hb
            rcases ha6 with h | h
            · exact HCN.out _ h
            · have := HBR.out.size; simp at h; omega
        · have hw2 : (st.what == 0) = false := by simpa using hw0
          have HCK0 : Hid (cameD ts (k + 1) = cameD ts k) := by show _ = _; rw [HCK.out, cameS, if_neg hw0]
          clear hw0
          go_wp2
          go_meet
          case rel =>
            rw [HCK0.out]
            exact ⟨HCV.out, HCN.out, HBR.out⟩
      case rest =>
        obtain ⟨hcv, hcn, hbx⟩ := hcut
        have HCV2 : Hid (Ins wc u11 (cameD ts (k + 1))) := hcv
        have HCN2 : Hid (∀ b, u11.ownBlock = some b → w5.heap.size ≤ b) := hcn
        have HBX : Hid (Below w5.heap.size w5 wc) := hbx
        clear s0 s5 c0 c1 hsb htb
        obtain ⟨⟨s0, s5, hsb⟩, c0, c1, htb, hlo⟩ := HSE.out wc hbx
        have HLO2 : Hid (Ins wc uu sn.lost) := hlo
        have hll : sn.lost.length ≤ 9223372036854775807 := by
          rcases hlo.form with ⟨_, h0, _⟩ | ⟨_, _, _, _, h1, h2, _⟩
          · omega
          · unfold maxLen at h2; omega
        obtain ⟨cx, ccap, hcu⟩ := hcv.slice
        subst hcu huv
        have hcl2 := cameD_len ts (k + 1)
        clear hcv hcn hbx hlo
        go_wp2
        go_loopw [12, 14] (fun l j wy => ∃ m n' : Nat, m ≤ sn.lost.length ∧ j = .int .i64 m ∧ l = .int .i64 (prevS (lastDl ts ss k) sn.lost m) ∧ (¬ st.what = 1 → m = 0) ∧ wy = wc.drewN n') (fun _ j _ => sn.lost.length - (intOf j).toNat)
        case atStart => exact ⟨0, 0, Nat.zero_le _, rfl, rfl, fun _ => rfl, rfl⟩
        case round =>
          obtain ⟨m, n', hm, rfl, rfl, hm0, rfl⟩ := hrel
          by_cases hw1 : st.what = 1
          · have hw3 : (st.what == 1) = true := by simpa using hw1
            have HW1 : Hid (st.what = 1) := hw1
            by_cases hml : m < sn.lost.length
            · obtain ⟨z, hz⟩ : ∃ z, sn.lost[m]? = some z := ⟨_, List.getElem?_eq_getElem hml⟩
              obtain ⟨g1, g2, a, g3, g4⟩ := HGS.out.lost hw1 m z hz
              obtain ⟨j, rfl⟩ : ∃ j : Nat, z = j := ⟨z.toNat, by omega⟩
              rw [Int.toNat_natCast] at g3
              obtain ⟨lb, lof, lcap', e1, hlb, hlc, _⟩ := HLO2.out.at hz
              obtain ⟨cb, cof, ccap', e2, hcb, hcc, _⟩ := HCV2.out.at g3
              simp only [Value.slice.injEq, true_and] at e1 e2
              obtain ⟨rfl, rfl⟩ := e1
              obtain ⟨rfl, rfl⟩ := e2
              have hjl : j < (cameD ts (k + 1)).length := (List.getElem?_eq_some_iff.1 g3).1
              have hab := HCA.out a (List.mem_of_getElem? g3)
              have hwr : IntKind.i64.wrap (st.lt - a) = st.lt - a := by rw [IntKind.wrap_i64]; omega
              have o1 : decide (st.lt - a < T) = false := by simp only [decide_eq_false_iff_not]; omega
              have o2 : decide ((j : Int) ≤ prevS (lastDl ts ss k) sn.lost m) = false := by simp only [decide_eq_false_iff_not]; omega
              have HPV : Hid (prevS (lastDl ts ss k) sn.lost (m + 1) = j) := by show _ = _; simp only [prevS, List.getD_eq_getElem?_getD, hz, Option.getD_some]
              clear g1 g2 g3 g4 hw1 hm0 hz
              go_wp2
              go_quiet (fail)
              go_wp2
              go_roundw
              case rel => exact ⟨m + 1, _, by omega, by go_num, by rw [HPV.out], fun h => absurd HW1.out h, by first | rfl | trivial⟩
              case measure => simp [intOf]; omega
            · obtain rfl : m = sn.lost.length := by omega
              have HL1 : Hid ((if st.what = 1 then prevS (lastDl ts ss k) sn.lost sn.lost.length else lastDl ts ss k) = prevS (lastDl ts ss k) sn.lost sn.lost.length) := by show _ = _; rw [if_pos hw1]
              clear hw1 hm0
              by_cases ht : 0 ≤ sn.taken
              · have o3 : decide (0 ≤ sn.taken) = true := decide_eq_true ht
                have o4 : decide (sn.taken ≤ prevS (lastDl ts ss k) sn.lost sn.lost.length) = false := by
                  have := HGS.out.taken ht
                  rw [HL1.out] at this
                  simp only [decide_eq_false_iff_not]
                  omega
                have HL2 : Hid (lastDl ts ss (k + 1) = sn.taken) := by show _ = _; rw [HLK.out, lastG, if_pos ht]
                clear ht HL1
                go_wp2
                go_roundw
                case rel => exact ⟨k + 1, by omega, by go_num, by rw [HL2.out], Seg.drewN HCV2.out n', HCN2.out, below_dN HBX.out n'⟩
                case measure => simp [intOf]; omega
              · have o3 : decide (0 ≤ sn.taken) = false := decide_eq_false ht
                have HL2 : Hid (lastDl ts ss (k + 1) = prevS (lastDl ts ss k) sn.lost sn.lost.length) := by show _ = _; rw [HLK.out, lastG, if_neg ht, HL1.out]
                clear ht HL1
                go_wp2
                go_roundw
                case rel => exact ⟨k + 1, by omega, by go_num, by rw [HL2.out], Seg.drewN HCV2.out n', HCN2.out, below_dN HBX.out n'⟩
                case measure => simp [intOf]; omega
          · have hw3 : (st.what == 1) = false := by simpa using hw1
            obtain rfl : m = 0 := hm0 hw1
            have HL1 : Hid ((if st.what = 1 then prevS (lastDl ts ss k) sn.lost sn.lost.length else lastDl ts ss k) = prevS (lastDl ts ss k) sn.lost 0) := by show _ = _; rw [if_neg hw1]; rfl
            clear hw1 hm0
            by_cases hml : 0 < sn.lost.length
            · by_cases ht : 0 ≤ sn.taken
              · have o3 : decide (0 ≤ sn.taken) = true := decide_eq_true ht
                have o4 : decide (sn.taken ≤ prevS (lastDl ts ss k) sn.lost 0) = false := by
                  have := HGS.out.taken ht
                  rw [HL1.out] at this
                  simp only [decide_eq_false_iff_not]
                  omega
                have HL2 : Hid (lastDl ts ss (k + 1) = sn.taken) := by show _ = _; rw [HLK.out, lastG, if_pos ht]
                clear ht HL1
                go_wp2
                go_roundw
                case rel => exact ⟨k + 1, by omega, by go_num, by rw [HL2.out], Seg.drewN HCV2.out n', HCN2.out, below_dN HBX.out n'⟩
                case measure => simp [intOf]; omega
              · have o3 : decide (0 ≤ sn.taken) = false := decide_eq_false ht
                have HL2 : Hid (lastDl ts ss (k + 1) = prevS (lastDl ts ss k) sn.lost 0) := by show _ = _; rw [HLK.out, lastG, if_neg ht, HL1.out]
                clear ht HL1
                go_wp2
                go_roundw
                case rel => exact ⟨k + 1, by omega, by go_num, by rw [HL2.out], Seg.drewN HCV2.out n', HCN2.out, below_dN HBX.out n'⟩
                case measure => simp [intOf]; omega
            · by_cases ht : 0 ≤ sn.taken
              · have o3 : decide (0 ≤ sn.taken) = true := decide_eq_true ht
                have o4 : decide (sn.taken ≤ prevS (lastDl ts ss k) sn.lost 0) = false := by
                  have := HGS.out.taken ht
                  rw [HL1.out] at this
                  simp only [decide_eq_false_iff_not]
                  omega
                have HL2 : Hid (lastDl ts ss (k + 1) = sn.taken) := by show _ = _; rw [HLK.out, lastG, if_pos ht]
                clear ht HL1
                go_wp2
                go_roundw
                case rel => exact ⟨k + 1, by omega, by go_num, by rw [HL2.out], Seg.drewN HCV2.out n', HCN2.out, below_dN HBX.out n'⟩
                case measure => simp [intOf]; omega
              · have o3 : decide (0 ≤ sn.taken) = false := decide_eq_false ht
                have HL2 : Hid (lastDl ts ss (k + 1) = prevS (lastDl ts ss k) sn.lost 0) := by show _ = _; rw [HLK.out, lastG, if_neg ht, HL1.out]
                clear ht HL1
                go_wp2
                go_roundw
                case rel => exact ⟨k + 1, by omega, by go_num, by rw [HL2.out], Seg.drewN HCV2.out n', HCN2.out, below_dN HBX.out n'⟩
                case measure => simp [intOf]; omega
    · obtain rfl : k = q := by omega
      go_wp2
      go_ret
      exact ⟨rfl, HB5.out.trans (HBR.out.mono HB5.out.size)⟩
end Go.Proofs.Ytaaaofjpedlfnaa
