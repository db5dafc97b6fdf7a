/-
  HtbOwn: the law's walk where packets are tried. Conditions: a bucket and packets that may be; errors.errorType is laid; the packets lie in memory.
-/
import Derived.Test.YtpgdocmpbeabpaaDoorU38
import Derived.Test.YtpgdocmpbeabpaaDoorU39
import Derived.Test.YtpgdocmpbeabpaaDoorZo5
import Derived.Test.YtpgdocmpbeabpaaDoorU42
import Derived.Deep.OwnRows
import Derived.Deep.DeepCutAuto
import Derived.BigRegion
namespace Go.Proofs.YtpgdocmpbeabpaaDoor
open Go.RowKit Go.Extern.Stop Go.Stop Go.Extern

set_option maxRecDepth 20000 in
set_option maxHeartbeats 8000000 in
theorem own_yes (lv n t R : Int) (px : Option Addr) (cap : Nat) (xs : List It) (w : World) (hk : xs.length ≤ 40) (hb : okB n t R) (hx : okL xs) (hI : ItemsAt w px xs) (hL : Laid w) :
    Calls Tryd.prog 4 #[.int .i64 lv, .agg #[.int .i64 n, .int .i64 t], .int .i64 R, .slice px xs.length cap] w fun e w' => e = .returned (.bool true) ∧ Below w.heap.size w w' := by
  have g1 : ¬ ((40 : Int) < (xs.length : Int)) := by omega
  have hp1 := ptrTrG
  have HL : Hid (∀ W, Below w.heap.size w W → Laid W) := fun W hW => hL.below hW
  have HI : Hid (∀ W, Below w.heap.size w W → ItemsAt W px xs) := fun W hW => hI.below hW
  have HNB : Hid (okB n t R) := hb
  have HNL : Hid (okL xs) := hx
  have HM : Hid (xs.length ≤ 40) := hk
  have HB0 : Hid (Below w.heap.size w (owW w n t R)) := owW_below w n t R
  obtain ⟨M, hM0, hM1, hMe⟩ : ∃ M : Nat, 1 ≤ M ∧ M ≤ 6 ∧ wrap64 (1 + pickN lv 6) = (M : Int) := by
    have := pickN_bd lv 6 (by decide)
    exact ⟨(1 + pickN lv 6).toNat, by omega, by omega, by unfold wrap64; omega⟩
  have HM0 : Hid (1 ≤ M ∧ M ≤ 6) := ⟨hM0, hM1⟩
  clear hL hk hb hx hI hM0 hM1
  go_enter Tryd.func4, Tryd.ntmps4
  go_wp2_with (go_at_call 12; fail)
  refine (pick_any lv 6 _ (by decide) (by decide)).mono ?_
  rintro e w1 ⟨rfl, rfl⟩
  go_wp2_with (go_at_call 6; fail)
  refine (borrows_any _ (HL.out _ HB0.out)).mono ?_
  rintro e w2 ⟨rfl, hb2⟩
  have HB2 : Hid (Below w.heap.size w w2) := HB0.out.trans (hb2.mono HB0.out.size)
  have HW2 : Hid (Below (owW w n t R).heap.size (owW w n t R) w2) := hb2
  obtain ⟨⟨r0, r1⟩, ⟨b0, b1, b2⟩, hlt, hlt0⟩ := owW_mem HW2.out
  clear hb2 hMe
  go_wp2_with (go_at_call 13; fail)
  refine (bcheck_yes n t R _ HNB.out).mono ?_
  rintro e w3 ⟨rfl, hb3⟩
  have HB3 : Hid (Below w.heap.size w w3) := HB2.out.trans (hb3.mono HB2.out.size)
  have HW3 : Hid (Below (owW w n t R).heap.size (owW w n t R) w3) := HW2.out.trans (hb3.mono HW2.out.size)
  clear hb3 r0 r1 b0 b1 b2 hlt hlt0 HB2 HW2
  go_wp2_with (go_at_call 14; fail)
  refine (list_any px cap xs _ (HL.out _ HB3.out) (HI.out _ HB3.out) (by have := HM.out; unfold maxLen; omega)).mono ?_
  rintro e w4 ⟨v, rfl, he, hb4⟩
  have HB4 : Hid (Below w.heap.size w w4) := HB3.out.trans (hb4.mono HB3.out.size)
  have HW4 : Hid (Below (owW w n t R).heap.size (owW w n t R) w4) := HW3.out.trans (hb4.mono HW3.out.size)
  obtain rfl := HNL.out.nil he
  obtain ⟨⟨r0, r1⟩, ⟨b0, b1, b2⟩, hlt, hlt0⟩ := owW_mem HW4.out
  have h4s : w.heap.size + 2 ≤ w4.heap.size := by have := HW4.out.size; simp [owW] at this; omega
  clear hb4 he HB3 HW3
  have hb5 : Below w4.heap.size w4 (w4.alloc (.cells #[.int .i64 1000000, .int .i64 1, .int .i64 1000000] 46)) := below_alloc_ (Below.refl _ _) _
  have HB5 : Hid (Below w.heap.size w (w4.alloc (.cells #[.int .i64 1000000, .int .i64 1, .int .i64 1000000] 46))) := HB4.out.trans (hb5.mono HB4.out.size)
  have HC5 : Hid (∀ W, Below (w4.alloc (.cells #[.int .i64 1000000, .int .i64 1, .int .i64 1000000] 46)).heap.size (w4.alloc (.cells #[.int .i64 1000000, .int .i64 1, .int .i64 1000000] 46)) W → ((W.cell? ⟨w.heap.size + 1, 0, none⟩ = some (.int .i64 n) ∧ W.cell? ⟨w.heap.size + 1, 1, none⟩ = some (.int .i64 t) ∧ W.cell? ⟨w.heap.size + 1, 2, none⟩ = some (.int .i64 R)) ∧ w.heap.size + 1 < W.heap.size) ∧ (W.cell? ⟨w4.heap.size, 0, none⟩ = some (.int .i64 1000000) ∧ W.cell? ⟨w4.heap.size, 1, none⟩ = some (.int .i64 1) ∧ W.cell? ⟨w4.heap.size, 2, none⟩ = some (.int .i64 1000000)) ∧ w4.heap.size < W.heap.size) := fun W hW => by
    have h := owW_mem (HW4.out.trans ((hb5.trans (hW.mono (by simp))).mono HW4.out.size))
    exact ⟨⟨h.2.1, h.2.2.1⟩, wide_at hW⟩
  clear hb5 HB4 HW4
  go_wp2_with fail
  have HSG0 : Hid (Seg ((w4.alloc (.cells #[.int .i64 1000000, .int .i64 1, .int .i64 1000000] 46)).alloc (.cells #[.int .i64 (-1), .int .i64 n, .int .i64 t, .int .i64 0, .int .i64 1000000, .int .i64 1, .int .i64 1000000, .int .i64 0] 48)) 48 8 (.slice (some ⟨w4.heap.size + 1, 0, none⟩) 1 1) (0 + 1) (flt HCl.cs (ownL n t R 0))) := seg_cls (new_block_ (by simp))
  have HSB0 : Hid (Below (w4.alloc (.cells #[.int .i64 1000000, .int .i64 1, .int .i64 1000000] 46)).heap.size (w4.alloc (.cells #[.int .i64 1000000, .int .i64 1, .int .i64 1000000] 46)) ((w4.alloc (.cells #[.int .i64 1000000, .int .i64 1, .int .i64 1000000] 46)).alloc (.cells #[.int .i64 (-1), .int .i64 n, .int .i64 t, .int .i64 0, .int .i64 1000000, .int .i64 1, .int .i64 1000000, .int .i64 0] 48))) := below_alloc_ (Below.refl _ _) _
  have hz5 : (w4.alloc (.cells #[.int .i64 1000000, .int .i64 1, .int .i64 1000000] 46)).heap.size = w4.heap.size + 1 := by simp
  generalize w4.alloc (.cells #[.int .i64 1000000, .int .i64 1, .int .i64 1000000] 46) = w5 at *
  have HZ5 : Hid (w5.heap.size = w4.heap.size + 1) := hz5
  clear r0 r1 b0 b1 b2 hlt hlt0 h4s hz5
  go_loopw [11, 12] (fun cv iv wr => ∃ k : Nat, k ≤ M ∧ iv = .int .i64 k ∧ Hid (Seg wr 48 8 cv (k + 1) (flt HCl.cs (ownL n t R k))) ∧ Hid (∀ z, cv.ownBlock = some z → w5.heap.size ≤ z) ∧ Hid (Below w5.heap.size w5 wr)) (fun _ iv _ => M - (intOf iv).toNat)
  case atStart => exact ⟨0, Nat.zero_le _, rfl, HSG0, fun z hz => by have := HZ5.out; cases hz; show w5.heap.size ≤ w4.heap.size + 1; omega, HSB0⟩
  case round =>
    clear HSG0 HSB0
    obtain ⟨k, hkM, rfl, HSG, HOW, HBW⟩ := hrel
    have HKM : Hid (k ≤ M) := hkM
    by_cases hlt : k < M
    · have hki : (k : Int) < (M : Int) := by omega
      have HLT : Hid (k < M) := hlt
      obtain ⟨⟨⟨b0, b1, b2⟩, b3⟩, ⟨d0, d1, d2⟩, d3⟩ := HC5.out _ HBW.out
      obtain ⟨j0, hj0, hy0, hy1, hy2⟩ := info_parts infoCls
      obtain ⟨vc, hvc⟩ : ∃ vc, u11 = vc := ⟨_, rfl⟩
      have HM6 : Hid (M ≤ 6) := HM0.out.2
      have hm6 : M ≤ 6 := HM0.out.2
      clear hlt hkM
      go_wp2_with (at_builtin; go_loud (refine wpList_append_seg _ rfl (.tmp 70) (.tmp 74) 22 rfl 48 j0 _ 8 64 Tryd.underlying22 hj0 hy0 hy1 hy2 rfl (by decide) _ _ _ rfl (HSG.out.alloc _) ⟨wr.heap.size, 0, none⟩ 1 1 (leafC n t R).cs rfl rfl (news_of (new_block_ rfl)) (HCl.cs_one _) (by decide) (by have := HLT.out; have := HM6.out; unfold maxLen; omega) (by have := HLT.out; have := HM6.out; omega) _ rfl ?_; intro g8 off8 cap8 w8 hs8 hg8 ha8 hl8; have HSG8 : Hid (Seg w8 48 8 (.slice (some ⟨g8, off8, none⟩) (k + 1 + 1) cap8) (k + 1 + 1) (flt HCl.cs (ownL n t R (k + 1)))) := (by show Seg _ _ _ _ _ _; rw [flt_own]; exact hs8); have HOW8 : Hid (w5.heap.size ≤ g8) := (ha8.elim (fun h => HOW.out _ h) (fun h => by have := HBW.out.size; simp at h; show _ ≤ _; omega)); have HBW8 : Hid (Below w5.heap.size w5 w8) := (HBW.out.alloc HBW.out.size _).grown hg8 (by have := HBW.out.size; simp; omega) HOW.out; clear hs8 hg8 ha8 hl8))
      go_roundw
      case rel => exact ⟨k + 1, by have := HLT.out; omega, by go_num, HSG8, fun z hz => by cases hz; exact HOW8.out, HBW8⟩
      case measure => have := HLT.out; simp [intOf]; omega
    · have hke : k = M := by omega
      rw [hke] at HSG ⊢
      obtain ⟨cx, cc, hcv, hArg⟩ := seg_argC (L := ownL n t R M) (by rw [ownL_len]; exact HSG.out)
      rw [ownL_len] at hcv
      rw [hcv]
      have HB6 : Hid (Below w.heap.size w wr) := HB5.out.trans (HBW.out.mono HB5.out.size)
      have hN := hnew_any (ownL n t R M) cx cc 50 wr hArg (HL.out _ HB6.out) (by rw [ownL_len]; have := HM0.out.2; unfold maxLen; omega)
      rw [ownL_len] at hN
      have HN : Hid (Calls Tryd.prog 5 #[.slice cx (M + 1) cc, .int .i64 50] wr fun e w' => Below wr.heap.size wr w' ∧ ((¬ (OkH (ownL n t R M) ∧ (0 : Int) ≤ 50 ∧ (50 : Int) ≤ 1000000) ∧ ∃ ty v, e = .returned (.tuple #[.pointer none, .iface ty v])) ∨ (OkH (ownL n t R M) ∧ ∃ K, e = .returned (.tuple #[.pointer (some ⟨K.tb, 0, none⟩), .nilIface]) ∧ Hid (NewH K (ownL n t R M) 50 wr.heap.size w')))) := hN
      clear hke hlt hkM hcv hArg HSG HKM hN HOW
      go_wp2_with (go_at_call 5; fail)
      refine HN.out.mono ?_
      rintro e w6 ⟨hb6, ⟨hno, _⟩ | ⟨_, K, rfl, HKN⟩⟩
      · exact absurd ⟨ownL_ok HNB.out HM0.out.2, by decide, by decide⟩ hno
      · have HOK : Hid (OwK K n t R M) := OwK.of HKN.out.of HKN.out.ok HKN.out.room HNB.out
        have HB7 : Hid (Below w.heap.size w w6) := HB6.out.trans (hb6.mono HB6.out.size)
        have HC6 : Hid (∀ W, Below w6.heap.size w6 W → ((W.cell? ⟨w.heap.size + 1, 0, none⟩ = some (.int .i64 n) ∧ W.cell? ⟨w.heap.size + 1, 1, none⟩ = some (.int .i64 t) ∧ W.cell? ⟨w.heap.size + 1, 2, none⟩ = some (.int .i64 R)) ∧ w.heap.size + 1 < W.heap.size)) := fun W hW => (HC5.out W ((HBW.out.trans (hb6.mono HBW.out.size)).trans (hW.mono (Nat.le_trans HBW.out.size hb6.size)))).1
        have HTR : Hid (∃ vs ow, HtAt K w6 ⟨nd0 K, 0, 0⟩ vs ow ∧ ∀ k, HtF K vs k → w.heap.size ≤ k) := by
          obtain ⟨vs, ow, h1, h2⟩ := HKN.out.at'
          exact ⟨vs, ow, h1, fun k hk => Nat.le_trans HB6.out.size (h2 k hk)⟩
        have HST : Hid (HtI K 0 0 ⟨nd0 K, 0, 0⟩) := HKN.out.inv.i
        have hm6 : M ≤ 6 := HM0.out.2
        have hmk := make_itR M (by omega)
        have HGO : Hid (GoAt (w6.alloc (.cells (madeCells #[.slice none 0 0] M) 35)) w6.heap.size M (fun _ => .slice none 0 0) (gE M (ofD M xs 0)) w6.heap.size) := go_made w6 M _ (fun c => rfl)
        have HW7 : Hid (Below w6.heap.size w6 (w6.alloc (.cells (madeCells #[.slice none 0 0] M) 35))) := below_alloc_ (Below.refl _ _) _
        clear hb6 HB6 HN HKN HC5 HB5 HBW
        go_wp2
        clear hmk
        generalize w6.alloc (.cells (madeCells #[.slice none 0 0] M) 35) = w7 at *
        go_loopw [16] (fun iv wr => ∃ (i : Nat) (vs : Nat → Value), i ≤ xs.length ∧ iv = .int .i64 i ∧ Hid (GoAt wr w6.heap.size M vs (gE M (ofD M xs i)) w6.heap.size) ∧ Hid (Below w6.heap.size w6 wr)) (fun iv _ => xs.length - (intOf iv).toNat)
        case atStart => exact ⟨0, _, Nat.zero_le _, rfl, HGO, HW7⟩
        case round =>
          clear HGO HW7
          obtain ⟨i, vs, hi, rfl, HG, HW⟩ := hrel
          by_cases hlt : i < xs.length
          · obtain ⟨x, hx⟩ : ∃ x, xs[i]? = some x := ⟨_, List.getElem?_eq_getElem hlt⟩
            have HBX : Hid (Below w.heap.size w wr) := HB7.out.trans (HW.out.mono HB7.out.size)
            obtain ⟨pb, po, rfl, c0, c1, c2, c3, c4⟩ := (HI.out wr HBX.out).at hx
            have hpb := lt_of_cell c0
            have HX : Hid (xs[i]? = some x) := hx
            have hxo := HNL.out.both.1 x (List.mem_of_getElem? hx)
            obtain ⟨f, hfM, hfe, htm⟩ := mod_at HM0.out.1 (z := x.f) (by have := ok_it hxo; omega)
            have HF : Hid (f < M ∧ x.f % (M : Int) = (f : Int)) := ⟨hfM, hfe⟩
            have hz : ¬ (M : Int) = 0 := by have := HM0.out.1; omega
            have hfi : (f : Int) < (M : Int) := by omega
            have hf0 : (0 : Int) ≤ (f : Int) := by omega
            have hil : (i : Int) < (xs.length : Int) := by omega
            have HLT : Hid (i < xs.length) := hlt
            have hr := HG.out.row f (by omega)
            rw [gE_at hfM] at hr
            obtain ⟨gx, gcap, hvm, _⟩ := hr.lies
            have hgc := (HG.out.blk.cell (i := f) hfM).1
            rw [hvm] at hgc hr
            have HVM : Hid (vs f = .slice gx (ofD M xs i f).length gcap) := hvm
            have HRM : Hid (Seg wr 37 5 (.slice gx (ofD M xs i f).length gcap) (ofD M xs i f).length (flt It.cl (ofD M xs i f))) := hr
            have hgb := HG.out.blk.lt
            have HGL : Hid ((ofD M xs i f).length ≤ 40) := by show _ ≤ _; have := ofD_len M xs i f; have := HM.out; omega
            have HWS : Hid (w6.heap.size ≤ wr.heap.size) := HW.out.size
            obtain ⟨j0, hj0, hy0, hy1, hy2⟩ := info_parts infoItP
            clear hx hxo hfM hfe hr hvm hlt hi
            go_wp2_with fail
            go_region_law (refine step_append_seg _ (by rfl) (.tmp 107) (.tmp 112) 35 (by rfl) 37 j0 _ 5 40 Tryd.underlying35 hj0 hy0 hy1 hy2 rfl (by decide) _ _ _ (by rfl) (HRM.out.below (by repeat' (first | with_reducible exact Below.refl _ _ | with_reducible refine Below.drew ?_ | with_reducible refine below_alloc_ ?_ _))) ⟨wr.heap.size, 0, none⟩ 1 1 (It.cl x) (by rfl) rfl (news_of (new_block_ (by simp))) (It.cl_one _) (by decide) (by have := HGL.out; unfold maxLen; omega) (by have := HGL.out; omega) _ rfl ?_; intro g9 off9 cap9 w9 hs9 hg9 ha9 hl9; have HGN := go_nextE HG.out (by repeat' (first | with_reducible exact Below.refl _ _ | with_reducible refine Below.drew ?_ | with_reducible refine below_alloc_ ?_ _)) HF.out.1 HVM.out hs9 hg9 ha9 HWS.out (ofD_next HX.out HF.out.2); have HWN := go_lows (u := .slice (some ⟨g9, off9, none⟩) ((ofD M xs i f).length + 1) cap9) HG.out HW.out (by repeat' (first | with_reducible exact Below.refl _ _ | with_reducible refine Below.drew ?_ | with_reducible refine below_alloc_ ?_ _)) (Nat.le_of_lt HF.out.1) HVM.out hg9; obtain ⟨e0, e1⟩ := (go_mid HG.out (by repeat' (first | with_reducible exact Below.refl _ _ | with_reducible refine Below.drew ?_ | with_reducible refine below_alloc_ ?_ _)) (Nat.le_of_lt HF.out.1) HVM.out hg9).cell HF.out.1; have e2 : w6.heap.size < w9.heap.size := (go_mid HG.out (by repeat' (first | with_reducible exact Below.refl _ _ | with_reducible refine Below.drew ?_ | with_reducible refine below_alloc_ ?_ _)) (Nat.le_of_lt HF.out.1) HVM.out hg9).lt; have HGN : Hid _ := HGN; have HWN : Hid _ := HWN; clear hs9 hg9 ha9 hl9)
            all_goals
              clear e0 e1 e2 c0 c1 c2 c3 c4 hgc
              go_wp2
              go_roundw
              case rel => exact ⟨i + 1, updF vs f (.slice (some ⟨g9, off9, none⟩) ((ofD M xs i f).length + 1) cap9), by have := HLT.out; omega, by go_num, by first | (with_reducible exact HGN) | (with_reducible exact HGN.out.below (Below.refl _ _).drew), by first | (with_reducible exact HWN) | (with_reducible exact HWN.out.drew)⟩
              case measure => have := HLT.out; simp [intOf]; omega
          · have hie : i = xs.length := by omega
            rw [hie] at HG ⊢
            clear hie hlt hi
            have hmk := make_boR M (by omega)
            obtain ⟨w10, rfl⟩ : ∃ w10, w10 = wr := ⟨_, rfl⟩
            have HG10 : Hid (GoAt w10 w6.heap.size M vs (gE M (ofD M xs xs.length)) w6.heap.size) := HG
            have HW10 : Hid (Below w6.heap.size w6 w10) := HW
            have HB10 : Hid (Below w.heap.size w w10) := HB7.out.trans (HW.out.mono HB7.out.size)
            have HMA : Hid (MayAt (w10.alloc (.cells (madeCells #[.slice none 0 0] M) 49)) w10.heap.size M (fun _ => 0) (ofD M xs xs.length) n t R 0 (w10.heap.size + 1)) := MayAt.start _ _ _ _ _ _
            have HW11 : Hid (Below w10.heap.size w10 (w10.alloc (.cells (madeCells #[.slice none 0 0] M) 49))) := below_alloc_ (Below.refl _ _) _
            have HS11 : Hid (w10.heap.size + 1 ≤ (w10.alloc (.cells (madeCells #[.slice none 0 0] M) 49)).heap.size) := by show _ ≤ _; simp
            clear HG HW
            go_wp2
            clear hmk
            generalize w10.alloc (.cells (madeCells #[.slice none 0 0] M) 49) = w11 at *
            go_loopw [14, 19] (fun ev iv wr => ∃ (k : Nat) (B : Nat → Nat), k ≤ M ∧ ev = .nilIface ∧ iv = .int .i64 k ∧ Hid (MayAt wr w10.heap.size M B (ofD M xs xs.length) n t R k (w10.heap.size + 1)) ∧ Hid (Below w10.heap.size w10 wr) ∧ Hid (w10.heap.size + 1 ≤ wr.heap.size)) (fun _ iv _ => M - (intOf iv).toNat)
            case atStart => exact ⟨0, _, Nat.zero_le _, rfl, rfl, HMA, HW11, HS11⟩
            case round =>
              clear HMA HW11 HS11
              obtain ⟨k, B, hk, rfl, rfl, HMA, HWR, HSR⟩ := hrel
              by_cases hlt : k < M
              · have HLT : Hid (k < M) := hlt
                have HM6 : Hid (M ≤ 6) := HM0.out.2
                have hki : (k : Int) < (M : Int) := by omega
                have hGr := HG10.out.below HWR.out
                have hr := hGr.row k (by omega)
                rw [gE_at hlt] at hr
                obtain ⟨gl, hgl⟩ : ∃ gl, ofD M xs xs.length k = gl := ⟨_, rfl⟩
                rw [hgl] at hr
                obtain ⟨gx, gcap, hvk, _⟩ := hr.lies
                have hgc := (hGr.blk.cell (i := k) hlt).1
                have hgb := hGr.blk.lt
                rw [hvk] at hgc hr
                obtain ⟨hit, _⟩ := seg_itemsC hr
                have HGK : Hid (ofD M xs xs.length k = gl) := hgl
                have hokl : okL gl := hgl ▸ ofD_okL HNL.out _ _
                have HBX : Hid (Below w.heap.size w wr) := HB10.out.trans (HWR.out.mono HB10.out.size)
                obtain ⟨⟨b0, b1, b2⟩, b3⟩ := HC6.out wr (HW10.out.trans (HWR.out.mono HW10.out.size))
                obtain ⟨m0, m1⟩ := HMA.out.blk.cell (i := k) hlt
                have m2 := HMA.out.blk.lt
                have hmn : mayC B (ofD M xs xs.length) k k = .slice none 0 0 := if_neg (Nat.lt_irrefl _)
                rw [hmn] at m0
                have HCF : Hid (Calls Tryd.prog 11 #[.agg #[.int .i64 n, .int .i64 t, .int .i64 R], .slice gx gl.length gcap] wr.drew fun e w' => ∃ g, e = .returned (.tuple #[.slice (some ⟨g, 0, none⟩) gl.length gl.length, .nilIface]) ∧ wr.drew.heap.size ≤ g ∧ RowB w' g gl.length (bok n t R gl) ∧ Below wr.drew.heap.size wr.drew w') := conform_yes _ _ _ gx gcap gl wr.drew HNB.out hokl ((HL.out wr HBX.out).below (Below.refl _ _).drew) (hit.below (Below.refl _ _).drew)
                have HF0 : (wr.drew.cell? ⟨w.heap.size + 1, 0, none⟩ = some (.int .i64 n) ∧ wr.drew.cell? ⟨w.heap.size + 1, 1, none⟩ = some (.int .i64 t) ∧ wr.drew.cell? ⟨w.heap.size + 1, 2, none⟩ = some (.int .i64 R)) ∧ wr.drew.cell? ⟨w6.heap.size, k, none⟩ = some (.slice gx gl.length gcap) := ⟨⟨b0, b1, b2⟩, hgc⟩
                have HMC : Hid (wr.drew.cell? ⟨w10.heap.size, k, none⟩ = some (.slice none 0 0) ∧ wr.drew.frozen? ⟨w10.heap.size, k, none⟩ = false) := ⟨m0, m1⟩
                have HLB : Hid (w.heap.size + 1 < wr.heap.size ∧ w6.heap.size < wr.heap.size ∧ w10.heap.size < wr.heap.size) := ⟨b3, hgb, m2⟩
                have HLN : Hid (w.heap.size + 1 < w10.heap.size ∧ w6.heap.size < w10.heap.size) := ⟨(HC6.out w10 HW10.out).2, HG10.out.blk.lt⟩
                clear hr hvk hit hgl hokl b0 b1 b2 m0 m1 hgc hmn hGr hlt hk
                go_wp2_with fail
                go_region_held3 (fun W => (W.cell? ⟨w.heap.size + 1, 0, none⟩ = some (.int .i64 n) ∧ W.cell? ⟨w.heap.size + 1, 1, none⟩ = some (.int .i64 t) ∧ W.cell? ⟨w.heap.size + 1, 2, none⟩ = some (.int .i64 R)) ∧ W.cell? ⟨w6.heap.size, k, none⟩ = some (.slice gx gl.length gcap))
                  (first | (with_reducible exact HF9) | (with_reducible exact HF5) | (with_reducible exact HF0))
                  (first | (go_at_call 11; refine HCF.out.mono ?_; rintro e w8 ⟨cg, rfl, hcg, hrb, hb8⟩; have HF5 : (w8.cell? ⟨w.heap.size + 1, 0, none⟩ = some (.int .i64 n) ∧ w8.cell? ⟨w.heap.size + 1, 1, none⟩ = some (.int .i64 t) ∧ w8.cell? ⟨w.heap.size + 1, 2, none⟩ = some (.int .i64 R)) ∧ w8.cell? ⟨w6.heap.size, k, none⟩ = some (.slice gx gl.length gcap) := ⟨⟨(hb8.cell HLB.out.1).trans HF0.1.1, (hb8.cell HLB.out.1).trans HF0.1.2.1, (hb8.cell HLB.out.1).trans HF0.1.2.2⟩, (hb8.cell HLB.out.2.1).trans HF0.2⟩; have m3 : w8.cell? ⟨w10.heap.size, k, none⟩ = some (.slice none 0 0) := (hb8.cell HLB.out.2.2).trans HMC.out.1; have m4 : w8.frozen? ⟨w10.heap.size, k, none⟩ = false := (hb8.frozen HLB.out.2.2).trans HMC.out.2; have m5 : w10.heap.size < w8.heap.size := lt_of_cell m3; have HF9 : ((w8.setCell ⟨w10.heap.size, k, none⟩ (.slice (some ⟨cg, 0, none⟩) gl.length gl.length)).cell? ⟨w.heap.size + 1, 0, none⟩ = some (.int .i64 n) ∧ (w8.setCell ⟨w10.heap.size, k, none⟩ (.slice (some ⟨cg, 0, none⟩) gl.length gl.length)).cell? ⟨w.heap.size + 1, 1, none⟩ = some (.int .i64 t) ∧ (w8.setCell ⟨w10.heap.size, k, none⟩ (.slice (some ⟨cg, 0, none⟩) gl.length gl.length)).cell? ⟨w.heap.size + 1, 2, none⟩ = some (.int .i64 R)) ∧ (w8.setCell ⟨w10.heap.size, k, none⟩ (.slice (some ⟨cg, 0, none⟩) gl.length gl.length)).cell? ⟨w6.heap.size, k, none⟩ = some (.slice gx gl.length gcap) := ⟨⟨(cell_set (by have := HLN.out.1; show w.heap.size + 1 ≠ w10.heap.size; omega) _).trans HF5.1.1, (cell_set (by have := HLN.out.1; show w.heap.size + 1 ≠ w10.heap.size; omega) _).trans HF5.1.2.1, (cell_set (by have := HLN.out.1; show w.heap.size + 1 ≠ w10.heap.size; omega) _).trans HF5.1.2.2⟩, (cell_set (by have := HLN.out.2; show w6.heap.size ≠ w10.heap.size; omega) _).trans HF5.2⟩))
                have hrb2 : RowB w8 cg (ofD M xs xs.length k).length (bok n t R (ofD M xs xs.length k)) := by rw [HGK.out]; exact hrb
                have hma2 := HMA.out.next (Below.trans (Below.drew (Below.refl _ _)) hb8) HSR.out hcg hrb2
                rw [HGK.out] at hma2
                have HMA2 : Hid (MayAt (w8.setCell ⟨w10.heap.size, k, none⟩ (.slice (some ⟨cg, 0, none⟩) gl.length gl.length)) w10.heap.size M (updF B k cg) (ofD M xs xs.length) n t R (k + 1) (w10.heap.size + 1)) := hma2
                have HWR2 : Hid (Below w10.heap.size w10 (w8.setCell ⟨w10.heap.size, k, none⟩ (.slice (some ⟨cg, 0, none⟩) gl.length gl.length))) := (HWR.out.trans ((Below.trans (Below.drew (Below.refl wr.heap.size wr)) hb8).mono HWR.out.size)).setCell (Nat.le_refl _) _
                have HSR2 : Hid (w10.heap.size + 1 ≤ (w8.setCell ⟨w10.heap.size, k, none⟩ (.slice (some ⟨cg, 0, none⟩) gl.length gl.length)).heap.size) := by show _ ≤ _; simp; exact lt_of_cell m3
                have m6 := (HMA2.out.blk.cell (i := k) HLT.out).1
                have hmc : mayC (updF B k cg) (ofD M xs xs.length) (k + 1) k = .slice (some ⟨cg, 0, none⟩) gl.length gl.length := by unfold mayC; rw [if_pos (Nat.lt_succ_self _), updF_same, HGK.out]
                rw [hmc] at m6
                have m7 := HMA2.out.blk.lt
                have g6 := HF9.2
                have g7 : w6.heap.size < (w8.setCell ⟨w10.heap.size, k, none⟩ (.slice (some ⟨cg, 0, none⟩) gl.length gl.length)).heap.size := lt_of_cell g6
                clear HF0 HF5 HF9 hrb hrb2 hma2 hcg hb8 m3 m4 m5 hmc HCF HMA HWR HSR HMC
                generalize w8.setCell ⟨w10.heap.size, k, none⟩ (.slice (some ⟨cg, 0, none⟩) gl.length gl.length) = w9 at *
                have hm6 : M ≤ 6 := HM6.out
                have hlt : k < M := HLT.out
                go_wp2_with fail
                go_region
                go_wp2
                go_roundw
                case rel => exact ⟨k + 1, updF B k cg, HLT.out, rfl, by go_num, HMA2.out.drew, HWR2.out.drew, HSR2⟩
                case measure => have := HLT.out; simp [intOf]; omega
              · have hke : k = M := by omega
                rw [hke] at HMA ⊢
                clear hke hlt hk
                have hm6 : M ≤ 6 := HM0.out.2
                have hmk := make_inR M (by omega)
                obtain ⟨w12, rfl⟩ : ∃ w12, w12 = wr := ⟨_, rfl⟩
                have HMT : Hid (MayAt w12 w10.heap.size M B (ofD M xs xs.length) n t R M (w10.heap.size + 1)) := HMA
                have HB12 : Hid (Below w.heap.size w w12) := HB10.out.trans (HWR.out.mono HB10.out.size)
                have H612 : Hid (Below w6.heap.size w6 w12) := HW10.out.trans (HWR.out.mono HW10.out.size)
                have HLF : Hid (LwF w w10 w12 (w12.alloc (.cells (madeCells #[.int .i64 0] M) 3)) M xs 0) := LwF.start HB12.out
                have HLT : Hid (LwT K n t R M xs w w10 w12 (w12.alloc (.cells (madeCells #[.int .i64 0] M) 3)) 0) := LwT.start HOK.out HNL.out HTR.out HST.out HW10.out (H612.out.alloc H612.out.size _)
                have H1012 : Hid (w.heap.size ≤ w12.heap.size ∧ w10.heap.size ≤ w12.heap.size) := ⟨HB12.out.size, HWR.out.size⟩
                clear HMA HWR HSR HG10 HW10 HC6 HTR HST HB10 HB7 H612
                go_wp2
                clear hmk
                generalize w12.alloc (.cells (madeCells #[.int .i64 0] M) 3) = w13 at *
                go_loopw [21] (fun iv wr => ∃ i : Nat, i ≤ xs.length ∧ iv = .int .i64 i ∧ Hid (LwF w w10 w12 wr M xs i) ∧ Hid (LwT K n t R M xs w w10 w12 wr i)) (fun iv _ => xs.length - (intOf iv).toNat)
                case atStart => exact ⟨0, Nat.zero_le _, rfl, HLF, HLT⟩
                case round =>
                  clear HLF HLT
                  obtain ⟨i, hi, rfl, HLF, HLT⟩ := hrel
                  by_cases hlt : i < xs.length
                  · obtain ⟨x, hx⟩ : ∃ x, xs[i]? = some x := ⟨_, List.getElem?_eq_getElem hlt⟩
                    obtain ⟨pb, po, rfl, c0, c1, c2, c3, c4⟩ := (HI.out wr HLF.out.bel).at hx
                    have hpb := lt_of_cell c0
                    have HX : Hid (xs[i]? = some x) := hx
                    have hxo := HNL.out.both.1 x (List.mem_of_getElem? hx)
                    have HXO : Hid (x.ok = true) := hxo
                    obtain ⟨f, hfM, hfe, htm⟩ := mod_at HM0.out.1 (z := x.f) (by have := ok_it hxo; omega)
                    have HF : Hid (f < M ∧ x.f % (M : Int) = (f : Int)) := ⟨hfM, hfe⟩
                    have hz : ¬ (M : Int) = 0 := by have := HM0.out.1; omega
                    have hm6 : M ≤ 6 := HM0.out.2
                    have hfi : (f : Int) < (M : Int) := by omega
                    have hf0 : (0 : Int) ≤ (f : Int) := by omega
                    have hf6 : f < 6 := by omega
                    have hil : (i : Int) < (xs.length : Int) := by omega
                    have HLX : Hid (i < xs.length) := hlt
                    obtain ⟨k, hk⟩ : ∃ k, ofC M xs i f = k := ⟨_, rfl⟩
                    have HK : Hid (ofC M xs i f = k) := hk
                    have hat := (HLF.out.at'.cell (i := f) hfM)
                    obtain ⟨a0, a1⟩ := hat
                    simp only [hk] at a0
                    have a2 := HLF.out.at'.lt
                    have hxf := ofD_at hx hlt hfe
                    have hk2 : (ofD M xs i f).length = k := hk
                    rw [hk2] at hxf
                    have HXF : Hid ((ofD M xs xs.length f)[k]? = some x) := hxf
                    have hkl : (k : Int) < ((ofD M xs xs.length f).length : Int) := by have := (List.getElem?_eq_some_iff.1 hxf).1; omega
                    have hk0 : (0 : Int) ≤ (k : Int) := by omega
                    have hk40 : k ≤ 40 := by have := ofD_len M xs i f; have := HM.out; omega
                    obtain ⟨m0, n0⟩ := HLF.out.may HMT.out hfM hxf
                    have m1 := lt_of_cell m0
                    have n1 := lt_of_cell n0
                    clear hx hxo hfM hfe hlt hi hk hk2 hxf
                    cases hbk : bok n t R (ofD M xs xs.length f) k with
                    | false =>
                      rw [hbk] at n0
                      have HBK : Hid (bok n t R (ofD M xs xs.length f) k = false) := hbk
                      clear hbk
                      go_wp2_with fail
                      go_region
                      go_wp2
                      go_roundw
                      case rel => exact ⟨i + 1, by have := HLX.out; omega, by go_num, (HLF.out.below (Below.refl _ _).drew).step HX.out HF.out.2 HK.out H1012.out.1, (HLT.out.below (Below.refl _ _).drew).skip HOK.out HNL.out HX.out HF.out.2 HK.out HBK.out H1012.out.2⟩
                      case measure => have := HLX.out; simp [intOf]; omega
                    | true =>
                      rw [hbk] at n0
                      have HBK : Hid (bok n t R (ofD M xs xs.length f) k = true) := hbk
                      clear hbk
                      go_wp2_with fail
                      go_region
                      have HPB : Hid (pb < w12.heap.size) := by
                        obtain ⟨b', o', he, hc, _⟩ := (HI.out w (Below.refl _ _)).at HX.out
                        cases he
                        have h1 : pb < w.heap.size := lt_of_cell hc
                        have h2 := H1012.out.1
                        show pb < w12.heap.size
                        omega
                      have HD : Hid ((((wr.setCell ⟨w12.heap.size, f, none⟩ (.int .i64 ((k : Int) + 1))).drew.cell? ⟨pb, po + i * 5, none⟩ = some (.int .i64 x.a) ∧ (wr.setCell ⟨w12.heap.size, f, none⟩ (.int .i64 ((k : Int) + 1))).drew.cell? ⟨pb, po + i * 5 + 1, none⟩ = some (.int .i64 x.l)) ∧ (wr.setCell ⟨w12.heap.size, f, none⟩ (.int .i64 ((k : Int) + 1))).drew.cell? ⟨pb, po + i * 5 + 2, none⟩ = some (.int .i64 x.f) ∧ (wr.setCell ⟨w12.heap.size, f, none⟩ (.int .i64 ((k : Int) + 1))).drew.cell? ⟨pb, po + i * 5 + 3, none⟩ = some (.int .i64 x.b) ∧ (wr.setCell ⟨w12.heap.size, f, none⟩ (.int .i64 ((k : Int) + 1))).drew.cell? ⟨pb, po + i * 5 + 4, none⟩ = some (.int .i64 x.m)) ∧ pb < (wr.setCell ⟨w12.heap.size, f, none⟩ (.int .i64 ((k : Int) + 1))).drew.heap.size) := by
                        have hne : pb ≠ w12.heap.size := Nat.ne_of_lt HPB.out
                        have e0 := (cell_set (w := wr) (a := ⟨w12.heap.size, f, none⟩) (p := ⟨pb, po + i * 5, none⟩) hne (.int .i64 ((k : Int) + 1))).trans c0
                        exact ⟨⟨⟨e0, (cell_set (p := ⟨pb, po + i * 5 + 1, none⟩) hne _).trans c1⟩, (cell_set (p := ⟨pb, po + i * 5 + 2, none⟩) hne _).trans c2, (cell_set (p := ⟨pb, po + i * 5 + 3, none⟩) hne _).trans c3, (cell_set (p := ⟨pb, po + i * 5 + 4, none⟩) hne _).trans c4⟩, lt_of_cell e0⟩
                      have HLF1 : Hid (LwF w w10 w12 (wr.setCell ⟨w12.heap.size, f, none⟩ (.int .i64 ((k : Int) + 1))).drew M xs (i + 1)) := (HLF.out.step HX.out HF.out.2 HK.out H1012.out.1).below (Below.refl _ _).drew
                      have HLT1 : Hid (LwU K n t R M xs w w10 w12 (wr.setCell ⟨w12.heap.size, f, none⟩ (.int .i64 ((k : Int) + 1))).drew i) := (HLT.out.set H1012.out.2).below (Below.refl _ _).drew
                      go_upto_region 35 with (fail)
                      clear a0 a1 a2 m0 n0 m1 n1 c0 c1 c2 c3 c4 hpb HLF HLT
                      generalize (wr.setCell ⟨w12.heap.size, f, none⟩ (.int .i64 ((k : Int) + 1))).drew = w14 at *
                      obtain ⟨⟨⟨c0, c1⟩, c2, c3, c4⟩, hpb⟩ := HD.out
                      obtain ⟨s, vs2, ow, T, hAt, hFz, hOI, hTx⟩ := HLT1.out
                      have HLOW : Hid (∀ z, HtF K vs2 z → z < w14.heap.size) := hAt.low
                      have HFZ : Hid (∀ z, HtF K vs2 z → w.heap.size ≤ z ∧ (z < w10.heap.size ∨ w12.heap.size + 1 ≤ z)) := hFz
                      have hi40 : i < 40 := by have := HLX.out; have := HM.out; omega
                      have hT0 := hTx x HX.out
                      have hx1 := ok_it HXO.out
                      obtain ⟨hput, hI1, s2, htk, hOI2⟩ := hOI.step HOK.out HF.out.1 (ofD_okL HNL.out _ _).fine.1 (by rw [HK.out]; exact HXF.out) (by rw [HK.out]; exact HBK.out) hT0 hi40 ⟨x.a, x.l, (f : Int) + 1, x.b, x.m, (i : Int)⟩ rfl (by show (f : Int) + 1 = _; omega)
                      have hP := put_ht HOK.out.ok x.a ⟨x.a, x.l, (f : Int) + 1, x.b, x.m, (i : Int)⟩ (w14.alloc (.cells #[.int .i64 x.a, .int .i64 x.l, .int .i64 ((f : Int) + 1), .int .i64 x.b, .int .i64 x.m] 37)) (hAt.below (below_alloc_ (Below.refl _ _) _)) hOI.hi (Nat.zero_le _) (by show 0 ≤ x.l ∧ x.l ≤ 10000; omega)
                      rw [hput] at hP
                      have HPT : Hid (Calls Tryd.prog 15 #[.pointer (some ⟨K.tb, 0, none⟩), .int .i64 x.a, .agg #[.int .i64 x.a, .int .i64 x.l, .int .i64 ((f : Int) + 1), .int .i64 x.b, .int .i64 x.m, .int .i64 (i : Int)]] (w14.alloc (.cells #[.int .i64 x.a, .int .i64 x.l, .int .i64 ((f : Int) + 1), .int .i64 x.b, .int .i64 x.m] 37)) fun e w' => ∃ u vs' ow', e = .returned u ∧ Hs w' u [] ∧ Hid (HtAt K w' (addN s (f + 1) ⟨x.a, x.l, (f : Int) + 1, x.b, x.m, (i : Int)⟩) vs' ow') ∧ Hid (∀ k, HtF K vs' k → HtF K vs2 k ∨ (w14.alloc (.cells #[.int .i64 x.a, .int .i64 x.l, .int .i64 ((f : Int) + 1), .int .i64 x.b, .int .i64 x.m] 37)).heap.size ≤ k) ∧ (∀ k, u.ownBlock = some k → (w14.alloc (.cells #[.int .i64 x.a, .int .i64 x.l, .int .i64 ((f : Int) + 1), .int .i64 x.b, .int .i64 x.m] 37)).heap.size ≤ k) ∧ Hid (Ot (HtF K vs2) (w14.alloc (.cells #[.int .i64 x.a, .int .i64 x.l, .int .i64 ((f : Int) + 1), .int .i64 x.b, .int .i64 x.m] 37)) w')) := hP
                      have HTK : Hid (takeH K (addN s (f + 1) ⟨x.a, x.l, (f : Int) + 1, x.b, x.m, (i : Int)⟩) x.a = (s2, [], ⟨x.a, x.l, (f : Int) + 1, x.b, x.m, (i : Int)⟩, true)) := htk
                      have HI1 : Hid (HtI K T 1 (addN s (f + 1) ⟨x.a, x.l, (f : Int) + 1, x.b, x.m, (i : Int)⟩)) := hI1
                      have HO2 : Hid (OI K n t R M x.a (i + 1) (ofD M xs xs.length) (updF (ofC M xs i) f (ofC M xs i f + 1)) s2) := hOI2
                      have HT0 : Hid (T ≤ x.a ∧ x.a ≤ 1000000000) := ⟨hT0, hx1.1.2⟩
                      clear hAt hFz hOI hTx hi40 hT0 hx1 hput hI1 htk hOI2 hP
                      go_wp2_with (go_at_call 15; fail)
                      refine HPT.out.mono ?_
                      rintro e w15 ⟨u, vs3, ow3, rfl, hHs, HA1, HN1, hob, HO1⟩
                      obtain ⟨ux, uc, hu, _⟩ := hHs.lies
                      subst hu
                      have hxb : w15.heap[w14.heap.size]? = some (.cells #[.int .i64 x.a, .int .i64 x.l, .int .i64 ((f : Int) + 1), .int .i64 x.b, .int .i64 x.m] 37 (0, 0)) := (HO1.out.block _ (by simp) (fun h => by have := HLOW.out _ h; omega)).trans (new_block _ _)
                      have x0 : w15.cell? ⟨w14.heap.size, 0, none⟩ = some (.int .i64 x.a) := by simp [World.cell?, hxb]
                      have x1 := lt_of_cell x0
                      have hT := take_ht HOK.out.ok x.a w15 HA1.out HI1.out (by omega) (Int.le_trans HI1.out.tm HT0.out.1) HT0.out.2
                      rw [HTK.out] at hT
                      have HTT : Hid (Calls Tryd.prog 16 #[.pointer (some ⟨K.tb, 0, none⟩), .int .i64 x.a] w15 fun e w' => e = .returned (.tuple #[.agg #[.int .i64 x.a, .int .i64 x.l, .int .i64 ((f : Int) + 1), .int .i64 x.b, .int .i64 x.m, .int .i64 (i : Int)], .slice none 0 0, .bool true]) ∧ ∃ vs' ow', Hid (HtAt K w' s2 vs' ow') ∧ Hid (∀ k, HtF K vs' k → HtF K vs3 k ∨ w15.heap.size ≤ k) ∧ Hid (Ot (HtF K vs3) w15 w')) := hT
                      clear hT hHs hob hxb HPT HTK HI1 HT0
                      go_wp2_with (go_at_call 16; fail)
                      refine HTT.out.mono ?_
                      rintro e w16 ⟨rfl, vs4, ow4, HA2, HN2, HO3⟩
                      have HS14 : Hid (w12.heap.size + 1 ≤ w14.heap.size ∧ w14.heap.size + 1 ≤ w15.heap.size) := ⟨HLF1.out.sz, by have := HO1.out.size; simpa using this⟩
                      have HF3 : Hid (∀ z, HtF K vs3 z → w.heap.size ≤ z ∧ (z < w10.heap.size ∨ w12.heap.size + 1 ≤ z)) := fun z hz => (HN1.out z hz).elim (HFZ.out z) (fun h => by have h1 := HS14.out.1; have h2 := H1012.out.1; simp at h; exact ⟨by omega, Or.inr (by omega)⟩)
                      have HF4 : Hid (∀ z, HtF K vs4 z → w.heap.size ≤ z ∧ (z < w10.heap.size ∨ w12.heap.size + 1 ≤ z)) := fun z hz => (HN2.out z hz).elim (HF3.out z) (fun h => by have h1 := HS14.out; have h2 := H1012.out.1; exact ⟨by omega, Or.inr (by omega)⟩)
                      have HLF2 : Hid (LwF w w10 w12 w16 M xs (i + 1)) := (((HLF1.out.below (below_alloc_ (Below.refl _ _) _)).ot HO1.out HFZ.out H1012.out.2).ot HO3.out HF3.out H1012.out.2)
                      have HLT2 : Hid (LwT K n t R M xs w w10 w12 w16 (i + 1)) := ⟨s2, vs4, ow4, x.a, HA2.out, HF4.out, by rw [ofC_succ HX.out HF.out.2]; exact HO2.out, fun y hy => (HNL.out.fine.1 i x HX.out).2 y hy⟩
                      clear HTT HA1 HN1 HO1 HA2 HN2 HO3 HLF1 HLT1 HF3 HF4 HS14 HO2 HLOW HFZ x0 x1 c0 c1 c2 c3 c4 hpb HD
                      go_wp2
                      go_roundw
                      case rel => exact ⟨i + 1, by have := HLX.out; omega, by go_num, HLF2.out.below (below_alloc_ (Below.refl _ _) _), HLT2.out.below (below_alloc_ (Below.refl _ _) _)⟩
                      case measure => have := HLX.out; simp [intOf]; omega
                  · have hie : i = xs.length := by omega
                    rw [hie]
                    go_wp2
                    go_ret
                    exact ⟨rfl, HLF.out.bel⟩
end Go.Proofs.YtpgdocmpbeabpaaDoor
