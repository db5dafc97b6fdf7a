/-
  LINDLEY: the law LinkWaits, where the run goes: its walk. Conditions: as in Lw6.
-/
import Derived.Test.YticplgdfgckicaaGreatDoorLw6
namespace Go.Proofs.YticplgdfgckicaaGreatDoor
open Go.RowKit Go.Extern.Stop Go.Stop Go.Extern

set_option maxRecDepth 20000 in
set_option maxHeartbeats 4000000 in
theorem waits_yes (n t : Int) (x : Option Addr) (cap : Nat) (items : List It) (w : World) (hG : Glob w) (hL : Laid w) (hit : ItemsAt w x items) (h60 : items.length ≤ 60) (hr : okRate n t = true) (hl : okL items) :
    Calls Tryz.prog 4 #[.agg #[.int .i64 n, .int .i64 t], .slice x items.length cap] w fun e w' => e = .returned (.bool true) ∧ Below w.heap.size w w' := by
  have HRN : Hid (∀ w1, Below w.heap.size w w1 → Calls Tryz.prog 5 #[.string ⟨#[102, 105, 102, 111, 32, 49, 48, 48, 48, 32, 49, 48, 48, 48, 48, 48, 48]⟩, .agg #[.int .i64 n, .int .i64 t], .slice x items.length cap, .int .i64 10000000] w1 fun e w' => ∃ (S : LkS (List Hd)) (y : Option Addr) (yc : Nat) (z : Option Addr) (zc : Nat), e = .returned (.tuple #[.agg #[.slice y S.sent.length yc, .slice z 0 zc, .int .i64 S.s.length, .int .i64 S.most], .bool true]) ∧ SentD w' y S.sent.length (fun i => (i : Int)) (bgA items n t) (fun i => frA items n t (i + 1)) (fun i => (S.sent.getD i snt0).m) ∧ (∀ i, i < S.sent.length → bgA items n t i ≤ 10000000) ∧ S.sent.length ≤ items.length ∧ (S.sent.length < items.length → 10000000 < bgA items n t S.sent.length) ∧ (S.sent.length = items.length → S.s = []) ∧ Below w1.heap.size w1 w') := by
    intro w1 h1
    refine (runF_yes n t x cap items 10000000 w1 (hG.below h1) (hL.below h1) hr hl (hit.below h1) (by unfold maxLen; omega) (by decide) (by decide)).mono ?_
    rintro e w' ⟨q, k, sv, lv, rfl, hR⟩
    obtain ⟨S, hS, e1, e2, e3, e4, e5⟩ := lw_end hl hr (by decide) hR.on hR.off
    have hs := hR.sent
    have hlo := hR.lost
    have hS1 : (itL (FifoM q 1000 1000000 false) items n t ([] : List Hd) k).1.sent = S.sent := by rw [hS]
    have hS2 : (itL (FifoM q 1000 1000000 false) items n t ([] : List Hd) k).1.lost = S.lost := by rw [hS]
    have hS3 : List.length (α := Hd) (itL (FifoM q 1000 1000000 false) items n t ([] : List Hd) k).1.s = S.s.length := congrArg (fun z : LkS (List Hd) => z.s.length) hS
    have hS4 : (itL (FifoM q 1000 1000000 false) items n t ([] : List Hd) k).1.most = S.most := by rw [hS]
    rw [hS1] at hs
    rw [hS2, e1] at hlo
    rw [hS3, hS4]
    obtain ⟨y, yc, rfl⟩ : ∃ y yc, sv = .slice y S.sent.length yc := by
      rcases hs.form with ⟨h, h0, _⟩ | ⟨b, o, c, h, _⟩
      · exact ⟨none, 0, by rw [h, h0]⟩
      · exact ⟨_, _, h⟩
    obtain ⟨z, zc, rfl⟩ : ∃ z zc, lv = .slice z 0 zc := by
      rcases Seg.form hlo with ⟨h, h0, _⟩ | ⟨b, o, c, h, _⟩
      · exact ⟨none, 0, h⟩
      · exact ⟨_, _, h⟩
    refine ⟨S, y, yc, z, zc, rfl, sent_of rfl hs (fun i s h => ⟨(e2 i s h).1, (e2 i s h).2.1, (e2 i s h).2.2.1⟩), fun i hi => ?_, e3, e4, e5, hR.below⟩
    obtain ⟨s, hsi⟩ : ∃ s, S.sent[i]? = some s := ⟨_, List.getElem?_eq_getElem hi⟩
    have := (e2 i s hsi).2
    rw [← this.1]; exact this.2.2
  have HLT : Hid (∀ w1, Below w.heap.size w w1 → Calls Tryz.prog 6 #[] w1 fun e w' => e = .returned (.bool true) ∧ Below w1.heap.size w1 w') := fun w1 h1 => linked_true w1 (hL.below h1)
  have HPT : Hid (∀ w1, Below w.heap.size w w1 → Calls Tryz.prog 7 #[] w1 fun e w' => e = .returned (.bool true) ∧ Below w1.heap.size w1 w') := fun w1 h1 => planted_true w1 (hG.below h1)
  have HIT : Hid (∀ w1, Below w.heap.size w w1 → ItemsAt w1 x items) := fun w1 h1 => hit.below h1
  have HTK : Hid (∀ v w1, Calls Tryz.prog 12 #[.agg #[.int .i64 n, .int .i64 t], .int .i64 v] w1 fun e w' => e = .returned (.int .i64 (tkL n t v)) ∧ Below w1.heap.size w1 w') := fun v w1 => takes_both n t v w1 hr
  have HFR : Hid (∀ m, 0 ≤ frA items n t m ∧ frA items n t m ≤ 1000000000 + 1000001000000 * m) := frA_bd hr (fun y hy => by have h1 := hl.all.1 y hy; simp only [It.ok, Bool.and_eq_true, wth_iff] at h1; omega)
  have HAB : Hid (∀ i, i < items.length → 0 ≤ (items.getD i it0).a ∧ (items.getD i it0).a ≤ 1000000000) := fun i hi => by
    have hm : items.getD i it0 ∈ items := by rw [List.getD_eq_getElem?_getD, List.getElem?_eq_getElem hi]; exact List.getElem_mem _
    have h1 := hl.all.1 _ hm; simp only [It.ok, Bool.and_eq_true, wth_iff] at h1; omega
  have a1 : decide ((60 : Int) < (items.length : Int)) = false := by simp; omega
  clear hG hL hit hr hl
  go_enter Tryz.func4, Tryz.ntmps4
  go_wp2_with (go_at_call 5; fail)
  have hb0 : Below w.heap.size w (w.alloc (.cells #[.int .i64 n, .int .i64 t] 23)) := below_alloc_ (Below.refl _ _) _
  refine (HRN.out _ hb0).mono ?_
  rintro e w1 ⟨S, y, yc, z, zc, rfl, hsd, hbg, hml, hmx, hme, hb1⟩
  have hrt1 : w1.heap[w.heap.size]? = some (.cells #[.int .i64 n, .int .i64 t] 23 (0, 0)) := (hb1.block _ (by simp)).trans (new_block _ _)
  have hws1 : w.heap.size < w1.heap.size := lt_of_block hrt1
  have HB1 : Hid (Below w.heap.size w w1) := hb0.trans (hb1.mono hb0.size)
  have HRT1 : Hid (w1.heap[w.heap.size]? = some (.cells #[.int .i64 n, .int .i64 t] 23 (0, 0))) := hrt1
  have HSD : Hid (SentD w1 y S.sent.length (fun i => (i : Int)) (bgA items n t) (fun i => frA items n t (i + 1)) (fun i => (S.sent.getD i snt0).m)) := hsd
  have HBG : Hid (∀ i, i < S.sent.length → bgA items n t i ≤ 10000000) := hbg
  have HMX : Hid (S.sent.length < items.length → 10000000 < bgA items n t S.sent.length) := hmx
  have HME : Hid (S.sent.length = items.length → (S.s.length : Int) = 0) := fun h => by rw [hme h]; rfl
  clear hb0 hb1 hsd hbg hmx hme hrt1 HRN
  generalize S.most = ms at *
  generalize hwt : (S.s.length : Int) = wt at *
  generalize hmm : S.sent.length = m at *
  clear hwt hmm
  go_wp2_with (go_at_call 6; fail)
  have hb2 : Below w1.heap.size w1 (w1.alloc (.cells #[.slice y m yc, .slice z 0 zc, .int .i64 wt, .int .i64 ms] 28)) := below_alloc_ (Below.refl _ _) _
  have hlg2 := new_block w1 (.cells #[.slice y m yc, .slice z 0 zc, .int .i64 wt, .int .i64 ms] 28)
  generalize w1.alloc (.cells #[.slice y m yc, .slice z 0 zc, .int .i64 wt, .int .i64 ms] 28) = w2 at *
  have hb02 : Below w.heap.size w w2 := HB1.out.trans (hb2.mono HB1.out.size)
  refine (HLT.out _ hb02).mono ?_
  rintro e w3 ⟨rfl, hb3⟩
  have hb03 : Below w.heap.size w w3 := hb02.trans (hb3.mono hb02.size)
  have HB3 : Hid (Below w.heap.size w w3) := hb03
  have HB13 : Hid (Below w1.heap.size w1 w3) := hb2.trans (hb3.mono hb2.size)
  have HLG3 : Hid (w3.heap[w1.heap.size]? = some (.cells #[.slice y m yc, .slice z 0 zc, .int .i64 wt, .int .i64 ms] 28 (0, 0))) := (hb3.block _ (lt_of_block hlg2)).trans hlg2
  clear hb2 hlg2 hb02 hb3 hb03
  go_wp2_with (go_at_call 7; fail)
  refine (HPT.out _ HB3.out).mono ?_
  rintro e w4 ⟨rfl, hb4⟩
  have HB4 : Hid (Below w.heap.size w w4) := HB3.out.trans (hb4.mono HB3.out.size)
  have HB14 : Hid (Below w1.heap.size w1 w4) := HB13.out.trans (hb4.mono HB13.out.size)
  have hlg4 : w4.heap[w1.heap.size]? = some (.cells #[.slice y m yc, .slice z 0 zc, .int .i64 wt, .int .i64 ms] 28 (0, 0)) := (hb4.block _ (lt_of_block HLG3.out)).trans HLG3.out
  have HLG4 : Hid (w4.heap[w1.heap.size]? = some (.cells #[.slice y m yc, .slice z 0 zc, .int .i64 wt, .int .i64 ms] 28 (0, 0))) := hlg4
  have l0 : w4.cell? ⟨w1.heap.size, 0, none⟩ = some (.slice y m yc) := by simp [World.cell?, hlg4]
  have l1 : w4.cell? ⟨w1.heap.size, 1, none⟩ = some (.slice z 0 zc) := by simp [World.cell?, hlg4]
  have l2 : w4.cell? ⟨w1.heap.size, 2, none⟩ = some (.int .i64 wt) := by simp [World.cell?, hlg4]
  have l3 : w4.cell? ⟨w1.heap.size, 3, none⟩ = some (.int .i64 ms) := by simp [World.cell?, hlg4]
  clear hb4 hlg4 HLG3 HB13 HB3 HLT HPT
  go_wp2_with (go_at_call 11; fail)
  refine (delays_any x cap items.length (fun i => (items.getD i it0).a) y yc m (fun i => (i : Int)) (bgA items n t) (fun i => frA items n t (i + 1)) (fun i => (S.sent.getD i snt0).m) z 0 zc wt ms w4 (come_of (HIT.out w4 HB4.out)) (HSD.out.below HB14.out) (by omega) (by omega)).mono ?_
  rintro e w5 ⟨dg, rfl, hdg, hown, hb5⟩
  have HB5 : Hid (Below w.heap.size w w5) := HB4.out.trans (hb5.mono HB4.out.size)
  have HSD5 : Hid (SentD w5 y m (fun i => (i : Int)) (bgA items n t) (fun i => frA items n t (i + 1)) (fun i => (S.sent.getD i snt0).m)) := (HSD.out.below HB14.out).below hb5
  have hlg5 : w5.heap[w1.heap.size]? = some (.cells #[.slice y m yc, .slice z 0 zc, .int .i64 wt, .int .i64 ms] 28 (0, 0)) := (hb5.block _ (lt_of_block HLG4.out)).trans HLG4.out
  have HLG5 : Hid (w5.heap[w1.heap.size]? = some (.cells #[.slice y m yc, .slice z 0 zc, .int .i64 wt, .int .i64 ms] 28 (0, 0))) := hlg5
  have HRT5 : Hid (w5.heap[w.heap.size]? = some (.cells #[.int .i64 n, .int .i64 t] 23 (0, 0))) := (hb5.block _ (by have := HB14.out.size; omega)).trans ((HB14.out.block _ hws1).trans HRT1.out)
  have HOW : Hid (OwnD w5 dg items.length (dlK (fun i => (items.getD i it0).a) (fun i => (i : Int)) (fun i => frA items n t (i + 1)) m)) := hown
  clear l0 l1 l2 l3
  have l0 : w5.cell? ⟨w1.heap.size, 0, none⟩ = some (.slice y m yc) := by simp [World.cell?, hlg5]
  have l1 : w5.cell? ⟨w1.heap.size, 1, none⟩ = some (.slice z 0 zc) := by simp [World.cell?, hlg5]
  clear hlg5 hb5 hown hdg HSD HLG4 HB14 HB4
  go_wp2
  clear l0 l1
  go_loopw [8, 9] (fun fv iv wr => ∃ i : Nat, i ≤ items.length ∧ i ≤ m ∧ iv = .int .i64 i ∧ fv = .int .i64 (frA items n t i) ∧ Below w5.heap.size w5 wr) (fun _ iv _ => items.length - (intOf iv).toNat)
  case atStart => exact ⟨0, Nat.zero_le _, Nat.zero_le _, rfl, rfl, Below.refl _ _⟩
  case round =>
    obtain ⟨i, hi, him, rfl, rfl, hbr⟩ := hrel
    have HBR : Hid (Below w5.heap.size w5 wr) := hbr
    have hlgr : wr.heap[w1.heap.size]? = some (.cells #[.slice y m yc, .slice z 0 zc, .int .i64 wt, .int .i64 ms] 28 (0, 0)) := (hbr.block _ (lt_of_block HLG5.out)).trans HLG5.out
    have HLGR : Hid (wr.heap[w1.heap.size]? = some (.cells #[.slice y m yc, .slice z 0 zc, .int .i64 wt, .int .i64 ms] 28 (0, 0))) := hlgr
    by_cases hlt : i < items.length
    · have hbw : Below w.heap.size w wr := HB5.out.trans (hbr.mono HB5.out.size)
      have hg : items[i]? = some (items.getD i it0) := by rw [List.getD_eq_getElem?_getD, List.getElem?_eq_getElem hlt]; rfl
      obtain ⟨xb, xo, hx, hc⟩ : ∃ b off, x = some ⟨b, off, none⟩ ∧ ∀ i x, items[i]? = some x → wr.cell? ⟨b, off + i * 5, none⟩ = some (.int .i64 x.a) ∧ wr.cell? ⟨b, off + i * 5 + 1, none⟩ = some (.int .i64 x.l) := by
        rcases HIT.out wr hbw with h | ⟨b, off, h, hc⟩
        · rw [h] at hlt; simp at hlt
        · exact ⟨b, off, h, fun i x hx => ⟨(hc i x hx).1, (hc i x hx).2.1⟩⟩
      obtain ⟨c0, c1⟩ := hc i _ hg
      have hxl := lt_of_cell c0
      have hxw : xb < w5.heap.size := by
        rcases HIT.out w5 HB5.out with h | ⟨b, off, h, hc5⟩
        · rw [h] at hlt; simp at hlt
        · rw [h] at hx
          simp only [Option.some.injEq, Addr.mk.injEq, and_true] at hx
          have h5 := lt_of_cell (hc5 i _ hg).1
          have h6 : b < w5.heap.size := h5
          omega
      subst hx
      have hrtr : wr.heap[w.heap.size]? = some (.cells #[.int .i64 n, .int .i64 t] 23 (0, 0)) := (hbr.block _ (lt_of_block HRT5.out)).trans HRT5.out
      have r0 : wr.cell? ⟨w.heap.size, 0, none⟩ = some (.int .i64 n) := by simp [World.cell?, hrtr]
      have r1 : wr.cell? ⟨w.heap.size, 1, none⟩ = some (.int .i64 t) := by simp [World.cell?, hrtr]
      have hai := HAB.out i hlt
      have hfi := HFR.out i
      have hfj := HFR.out (i + 1)
      have hfs : frA items n t (i + 1) = bgA items n t i + tkL n t (items.getD i it0).l := frA_succ items n t i
      have hbgd : bgA items n t i = max (frA items n t i) (items.getD i it0).a := rfl
      have hbig := HBG.out i
      have hmx3 : i = m → 10000000 < bgA items n t i := fun e => by
        have h := HMX.out (by omega)
        rw [← e] at h
        exact h
      have HQ : Hid (i < m → ∃ sb so, y = some ⟨sb, so, none⟩ ∧ ∀ w', Below w5.heap.size w5 w' → sb < w'.heap.size ∧ w'.cell? ⟨sb, so + i * 4, none⟩ = some (.int .i64 i) ∧ w'.cell? ⟨sb, so + i * 4 + 1, none⟩ = some (.int .i64 (bgA items n t i))) := by
        intro h
        obtain ⟨sb, so, hse, hsl, q0, q1, _, _⟩ := HSD5.out.some h
        exact ⟨sb, so, hse, fun w' hb' => ⟨Nat.lt_of_lt_of_le hsl hb'.size, (hb'.cell (p := ⟨sb, so + i * 4, none⟩) hsl).trans q0, (hb'.cell (p := ⟨sb, so + i * 4 + 1, none⟩) hsl).trans q1⟩⟩
      obtain ⟨tk, htk⟩ : ∃ tk, tkL n t (items.getD i it0).l = tk := ⟨_, rfl⟩
      have HTK2 : Hid (∀ w1, Calls Tryz.prog 12 #[.agg #[.int .i64 n, .int .i64 t], .int .i64 (items.getD i it0).l] w1 fun e w' => e = .returned (.int .i64 tk) ∧ Below w1.heap.size w1 w') := fun w1 => by rw [← htk]; exact HTK.out _ w1
      rw [htk] at hfs
      have HDI : Hid (∀ w', Below w5.heap.size w5 w' → w'.cell? ⟨dg, i, none⟩ = some (.int .i64 (if i < m then frA items n t (i + 1) - (items.getD i it0).a else -1))) := by
        intro w' hb'
        have hcell := (World.rowIs.cell HOW.out hlt)
        rw [hb'.cell (p := ⟨dg, i, none⟩) HOW.out.lt, hcell]
        congr 2
        split
        · rename_i h1
          rw [dlK_lt h1]
          show wrap64 (frA items n t (i + 1) - (items.getD i it0).a) = frA items n t (i + 1) - (items.getD i it0).a
          unfold wrap64
          omega
        · rename_i h1
          exact dlK_ge (by omega)
      have hws : IntKind.i64.wrap (bgA items n t i + tk) = bgA items n t i + tk := by rw [IntKind.wrap_i64]; omega
      have hsb : IntKind.i64.wrap (frA items n t (i + 1) - (items.getD i it0).a) = frA items n t (i + 1) - (items.getD i it0).a := by rw [IntKind.wrap_i64]; omega
      have HC : Hid (wr.cell? ⟨xb, xo + i * 5, none⟩ = some (.int .i64 (items.getD i it0).a)) := c0
      generalize hfje : frA items n t (i + 1) = fj at *
      have HFJ : Hid (frA items n t (i + 1) = fj) := hfje
      clear hfje
      generalize frA items n t i = fi at *
      generalize bgA items n t i = bg at *
      generalize (items.getD i it0).a = ai at *
      generalize (items.getD i it0).l = li at *
      clear hlgr hbr hrtr hbw hg hc htk HTK HFR HAB
      subst hbgd
      have HFK : Hid (fj = max fi ai + tk) := hfs
      have hsb2 : IntKind.i64.wrap (max fi ai + tk - ai) = max fi ai + tk - ai := by rw [← hfs]; exact hsb
      have hxl2 : xb < wr.heap.size := hxl
      go_upto_region 14 with (fail)
      go_cut [8] (fun fv wx => fv = .int .i64 fj ∧ Below wr.heap.size wr wx)
      case first =>
        go_region_with (go_at_call 12; refine (HTK2.out _).mono ?_; rintro e w6 ⟨rfl, hb6⟩)
        all_goals go_wp2_with fail
        all_goals go_meet
        all_goals exact ⟨by rw [hfs], ⟨hb6.os, hb6.tape, hb6.output, hb6.size, hb6.block⟩⟩
      case rest =>
      obtain ⟨rfl, hbc⟩ := hcut
      clear c0 c1 r0 r1
      generalize wc = w6 at *
      have hb56 : Below w5.heap.size w5 w6 := HBR.out.trans (hbc.mono HBR.out.size)
      have HB6 : Hid (Below w.heap.size w w6) := HB5.out.trans (hb56.mono HB5.out.size)
      have HB56 : Hid (Below w5.heap.size w5 w6) := hb56
      have c0 : w6.cell? ⟨xb, xo + i * 5, none⟩ = some (.int .i64 ai) := (hbc.cell (p := ⟨xb, xo + i * 5, none⟩) hxl2).trans HC.out
      have hlg6 : w6.heap[w1.heap.size]? = some (.cells #[.slice y m yc, .slice z 0 zc, .int .i64 wt, .int .i64 ms] 28 (0, 0)) := (hbc.block _ (lt_of_block HLGR.out)).trans HLGR.out
      have l0 : w6.cell? ⟨w1.heap.size, 0, none⟩ = some (.slice y m yc) := by simp [World.cell?, hlg6]
      have d0 := HDI.out w6 hb56
      have hdl : dg < w6.heap.size := Nat.lt_of_lt_of_le HOW.out.lt hb56.size
      clear hlg6 hbc HDI
      by_cases hbb : 10000000 < max fi ai
      · have hmi : m = i := by
          rcases Nat.lt_or_ge i m with h | h
          · have := hbig h; omega
          · omega
        subst hmi
        rw [if_neg (Nat.lt_irrefl _)] at d0
        clear hb56
        go_wp2
        (try simp only [Exit.inBlock, Exit.then])
        go_ret
        exact ⟨rfl, HB6.out⟩
      · have hmi : i < m := by
          rcases Nat.lt_or_ge i m with h | h
          · exact h
          · have := hmx3 (by omega)
            omega
        rw [if_pos hmi] at d0
        obtain ⟨sb, so, hse, hq⟩ := HQ.out hmi
        obtain ⟨hsl, q0, q1⟩ := hq w6 hb56
        clear hb56 hq HQ hmx3 hbig
        subst hse
        go_upto_region 17 with (fail)
        go_quiet (fail)
        go_wp2
        refine ⟨⟨i + 1, by omega, by omega, by go_num, ?_, ?_⟩, ?_⟩
        · rw [HFJ.out, HFK.out]
        · exact ⟨HB56.out.os, HB56.out.tape, HB56.out.output, HB56.out.size, HB56.out.block⟩
        · simp [intOf]; omega
    · obtain rfl : i = items.length := by omega
      have hmm : m = items.length := by omega
      have l0 : wr.cell? ⟨w1.heap.size, 0, none⟩ = some (.slice y m yc) := by simp [World.cell?, hlgr]
      have l2 : wr.cell? ⟨w1.heap.size, 2, none⟩ = some (.int .i64 0) := by have := HME.out hmm; simp [World.cell?, hlgr, this]
      subst hmm
      clear hlgr hbr
      go_wp2
      (try simp only [Exit.inBlock, Exit.then])
      go_ret
      exact ⟨rfl, HB5.out.trans (HBR.out.mono HB5.out.size)⟩
end Go.Proofs.YticplgdfgckicaaGreatDoor
