/-
  millracekeep.FairHashes: it returns true at every three numbers and all steps; nothing that was there before is otherwise. Conditions: the steps lie in memory.
-/
import Derived.Test.YtjjchknclpfgiaaHm
import Derived.Deep.DeepCutAuto
import Derived.Deep.OwnRows
import Derived.BigQuiet
namespace Go.Proofs.Ytjjchknclpfgiaa
open Go.RowKit Go.Extern.Stop Go.Stop Go.Extern

theorem ptrHa (b : Nat) (w : World) : (binOp .eql 61 (.pointer (some ⟨b, 0, none⟩)) (.pointer none)).run Try.prog w = .ok (.bool false) w := by kernel_rfl
/-- What the law's own loops hold: the list of lists, how many wait in each. -/
structure HhR (p : HaC) (mm M : Nat) (w6 : World) (lv : Value) (W : List Int) (m : Nat → Int) (wr : World) : Prop where
  row : Ins wr lv W
  new : ∀ b, lv.ownBlock = some b → M < b
  blk : Blk wr M mm 3 (fun f => .int .i64 (m f))
  bel : Below M w6 wr
theorem HhR.drewN {p : HaC} {mm M : Nat} {w6 wr : World} {lv : Value} {W : List Int} {m : Nat → Int} (h : HhR p mm M w6 lv W m wr) (n : Nat) : HhR p mm M w6 lv W m (wr.drewN n) := ⟨h.row, h.new, h.blk, ⟨h.bel.os, h.bel.tape, h.bel.output, h.bel.size, h.bel.block⟩⟩
theorem HhR.set {p : HaC} {mm M : Nat} {w6 wr : World} {lv : Value} {W : List Int} {m : Nat → Int} (h : HhR p mm M w6 lv W m wr) (x : Nat) (v : Int) : HhR p mm M w6 lv W (updF m x v) (wr.setCell ⟨M, x, none⟩ (.int .i64 v)) where
  row := Seg.setCell h.row (fun e => by have := h.new _ e; simp at this) _
  new := h.new
  blk := (h.blk.set x _).cong (fun i hi => by
    by_cases e : i = x
    · subst e; rw [updF_same, updC_same]
    · rw [updF_ne e, updC_ne e])
  bel := h.bel.setCell (p := ⟨M, x, none⟩) (Nat.le_refl _) _
theorem ins_few {w : World} {v : Value} {l : List Int} (h : Ins w v l) : l.length ≤ maxLen := by
  rcases h.form with ⟨_, h0, _⟩ | ⟨b, off, cap, _, h1, h2, _⟩
  · omega
  · omega
theorem HhR.app {p : HaC} {mm M : Nat} {w6 w7 w8 : World} {lv : Value} {W W' : List Int} {m : Nat → Int} {K g off cap2 : Nat} (h : HhR p mm M w6 lv W m w7) (hM : M < w7.heap.size) (hW : W' = W ++ [(K : Int)]) (hs : Seg w8 3 1 (.slice (some ⟨g, off, none⟩) (W.length + 1) cap2) (W.length + 1) (W.map (Value.int .i64) ++ [.int .i64 (K : Int)])) (hg : (w7.alloc (.cells #[.int .i64 (K : Int)] 3)).grownBy w8 lv.ownBlock) (ha : lv.ownBlock = some g ∨ (w7.alloc (.cells #[.int .i64 (K : Int)] 3)).heap.size ≤ g) : HhR p mm M w6 (.slice (some ⟨g, off, none⟩) (W.length + 1) cap2) W' m w8 := by
  have hb8 : Below (M + 1) w7 w8 := ((Below.refl (M + 1) w7).alloc (by omega) _).grown hg (by simp; omega) (fun b hb => h.new b hb)
  rw [hW]
  refine ⟨by unfold Ins; simpa using hs, fun b hb => ?_, h.blk.kept (hb8.block M (by omega)), h.bel.trans (hb8.mono (by omega))⟩
  simp only [Value.ownBlock, Option.some.injEq] at hb
  subst hb
  rcases ha with h1 | h1
  · exact h.new _ h1
  · simp at h1; omega
set_option maxRecDepth 20000 in
set_option maxHeartbeats 8000000 in
theorem fairHashes_any (a0 b0 c0 : Int) (x : Option Addr) (cap : Nat) (xs : List Stp) (w : World) (hl : Lies w x (flt Stp.cs xs)) (hm : xs.length ≤ maxLen) :
    Calls Try.prog 6 #[.int .i64 a0, .int .i64 b0, .int .i64 c0, .slice x xs.length cap] w fun e w' => e = .returned (.bool true) ∧ Below w.heap.size w w' := by
  have HL : Hid (Lies w x (flt Stp.cs xs)) := hl
  clear hl
  unfold maxLen at hm
  obtain ⟨q, hq⟩ : ∃ q, xs.length = q := ⟨_, rfl⟩
  have HN : Hid (xs.length = q) := hq
  rw [hq] at hm ⊢
  clear hq
  have hp1 := ptrHa
  by_cases hlen : 120 < q
  · go_enter Try.func6, Try.ntmps6
    go_wp2
    go_ret
    exact ⟨rfl, Below.refl _ _⟩
  clear hm
  have HK1 := fun W => pick_any a0 64 W (by decide) (by decide)
  have HK2 := fun W => pick_any b0 1000 W (by decide) (by decide)
  have HK3 := fun W => pick_any c0 30 W (by decide) (by decide)
  have hb1 := pickN_bd a0 64 (by decide)
  have hb2 := pickN_bd b0 1000 (by decide)
  have hb3 := pickN_bd c0 30 (by decide)
  generalize pickN a0 64 = pa at *
  generalize pickN b0 1000 = pb at *
  generalize pickN c0 30 = pc at *
  obtain ⟨p, hpm, hps, hpr⟩ : ∃ p : HaC, p.many = 1 + pa ∧ p.salt = pb ∧ p.room = 1 + pc := ⟨⟨1 + pa, pb, 1 + pc⟩, rfl, rfl, rfl⟩
  have hm0 : 1 ≤ p.many := by omega
  have hm1 : p.many ≤ 64 := by omega
  have hs0 : 0 ≤ p.salt := by omega
  have hs1 : p.salt ≤ 1000000 := by omega
  have hr0 : 1 ≤ p.room := by omega
  have hr1 : p.room ≤ 900 := by omega
  have HC := newHa_yes p w hm0 hm1 hs0 hs1 hr0 (by omega)
  rw [hpm, hps, hpr] at HC
  have HPM : Hid (p.many = 1 + pa) := hpm
  have HPR : Hid (p.room = 1 + pc) := hpr
  clear hps hpm hpr
  go_enter Try.func6, Try.ntmps6
  go_wp2_with (go_at_call 7; (first | with_reducible refine (HK1 _).mono ?_ | with_reducible refine (HK2 _).mono ?_ | with_reducible refine (HK3 _).mono ?_); rintro e wk ⟨rfl, hwk⟩; subst wk)
  go_wp2_with (go_at_call 24; fail)
  refine HC.mono ?_
  rintro e w1 ⟨rfl, C1, hP1, hb1'⟩
  obtain ⟨b, hb⟩ : ∃ b, w.heap.size = b := ⟨_, rfl⟩
  have HBZ : Hid (w.heap.size = b) := hb
  have HB1 : Hid (Below w.heap.size w w1) := hb1'
  rw [hb] at hP1 ⊢
  have HP1 : Hid (HaP w1 b p C1 (fun _ => .slice none 0 0) (.slice none 0 0) ha0) := hP1
  clear hP1 hb1' hb HC HK1 HK2 HK3
  go_wp2_with (go_at_call 17; fail)
  refine (turns_any _).mono ?_
  rintro e w2 ⟨rfl, hb2'⟩
  have HB2 : Hid (Below w.heap.size w w2) := HB1.out.trans (hb2'.mono HB1.out.size)
  have HA2 : Hid ((HashM b p).At w2 (HaF b (fun _ => .slice none 0 0) (.slice none 0 0)) ha0) := ⟨C1, _, _, HP1.out.below hb2', fun k => Iff.rfl⟩
  have HI0 : Hid ((HashM b p).inv 0 0 ha0) := ⟨HaI.zero p, by decide, fun f hf => ⟨by simp [ha0], by simp [ha0]⟩⟩
  have HM : Hid (HashM b p).Fine := hashM_fine b p hm0 hm1 hs0 hs1
  clear hb2' HP1
  go_wp2_with (go_at_call 20; fail)
  have HP := playA_any (HashM b p) HM.out (HaF b (fun _ => .slice none 0 0) (.slice none 0 0)) ha0 x cap xs w2 (HL.out.below HB2.out) (by rw [HN.out]; omega) HA2.out HI0.out
  rw [HN.out] at HP
  refine HP.mono ?_
  rintro e w3 ⟨u, us, F, rfl, hsn, hot, hA3, hF3⟩
  have hrun := orders_run HM.out (hash_orders b p hm0 hm1) xs (by rw [HN.out]; omega) ha0 rfl HI0.out
  have hhash := hash_run HM.out hm0 hm1 (by omega) hr1 xs (by rw [HN.out]; omega) ha0 (MInv.zero p (by omega)) HI0.out
  obtain ⟨G, G2, hG0, hG⟩ := play_keeps (hash_keeps b p hm0 hm1) (s0 := ha0) rfl (timesL 0 xs)
  have hsl : (playFrom (HashM b p) ha0 0 (timesL 0 xs)).length = q := by
    have := playFrom_length (HashM b p) ha0 0 (timesL 0 xs)
    rw [timesL_length, HN.out] at this
    exact this
  have hb3' : Below w.heap.size w w3 := HB2.out.trans (hot.below HB2.out.size (fun k hk => by
    rcases hk with h | ⟨g, _, h⟩ | h
    · have := HBZ.out; omega
    · simp [Value.ownBlock] at h
    · simp [Value.ownBlock] at h))
  generalize playFrom (HashM b p) ha0 0 (timesL 0 xs) = ss at *
  obtain ⟨sE, hsE⟩ : ∃ sE, (stFrom (HashM b p) ha0 0 (timesL 0 xs) q).1 = sE := ⟨_, rfl⟩
  rw [hsE] at hA3
  have HA3 : Hid ((HashM b p).At w3 F sE) := hA3
  clear hsE hA3 hF3
  have hk := kept_any xs ss us G G2 x cap u _ F w3 (HL.out.below hb3') (by rw [HN.out]; omega) hsn (by rw [hsl, HN.out]) hG0 hG
  rw [HN.out] at hk
  have HSN : Hid (Sns w3 w2.heap.size F u ss us) := hsn
  have HB3 : Hid (Below w.heap.size w w3) := hb3'
  have HRUN : Hid (∀ i t sn, (timesL 0 xs)[i]? = some t → ss[i]? = some sn → OStep (flowD (timesL 0 xs) (i + 1)) (lastO (timesL 0 xs) ss i) sn) := hrun
  have HHS : Hid (∀ i t sn, (timesL 0 xs)[i]? = some t → ss[i]? = some sn → HStep p (whO p (timesL 0 xs) (i + 1)) (manO p (timesL 0 xs) ss i) t sn) := hhash
  have HSL : Hid (ss.length = q) := hsl
  obtain ⟨sx, scap, hu, _⟩ := hsn.lies
  rw [hsl] at hu
  subst hu
  clear hsn hot hrun hhash hG0 hG hsl hb3' HP
  go_wp2_with (go_at_call 21; fail)
  refine hk.mono ?_
  rintro e w4 ⟨rfl, hb4⟩
  have HB4 : Hid (Below w.heap.size w w4) := HB3.out.trans (hb4.mono HB3.out.size)
  have HS4 : Hid (Sns w4 w2.heap.size F (.slice sx q scap) ss us) := HSN.out.ot (F' := F) (Ot.of_below (S := fun _ => False) hb4) (fun _ _ _ _ h => h) (fun _ _ h => h)
  have HA4 : Hid ((HashM b p).At w4 F sE) := HM.out.kept HA3.out (fun j hj => hb4.block j (HM.out.low HA3.out j hj))
  clear hb4 hk HSN HA3
  have HO := ordered_any xs ss us x cap (.slice sx q scap) _ F w4 (HL.out.below HB4.out) (by rw [HN.out]; omega) HS4.out (by rw [HSL.out, HN.out]) HRUN.out
  rw [HN.out] at HO
  go_wp2_with (go_at_call 22; fail)
  refine HO.mono ?_
  rintro e w5 ⟨rfl, hb5⟩
  have HB5 : Hid (Below w.heap.size w w5) := HB4.out.trans (hb5.mono HB4.out.size)
  have HS5 : Hid (Sns w5 w2.heap.size F (.slice sx q scap) ss us) := HS4.out.ot (F' := F) (Ot.of_below (S := fun _ => False) hb5) (fun _ _ _ _ h => h) (fun _ _ h => h)
  have HA5 : Hid ((HashM b p).At w5 F sE) := HM.out.kept HA4.out (fun j hj => hb5.block j (HM.out.low HA4.out j hj))
  clear hb5 HO HS4 HA4 HRUN
  have HTC := times_any x cap xs w5 (HL.out.below HB5.out) (by rw [HN.out]; omega)
  rw [HN.out] at HTC
  go_wp2_with (go_at_call 10; fail)
  refine HTC.mono ?_
  rintro e w6 ⟨tv, rfl, ht6, _, hb6⟩
  obtain ⟨tx, tcap, htv, htl⟩ := ht6.lies
  rw [timesL_length, HN.out] at htv
  subst htv
  have HTL : Hid (Lies w6 tx (flt Stp.cs (timesL 0 xs))) := htl
  have HB6 : Hid (Below w.heap.size w w6) := HB5.out.trans (hb6.mono HB5.out.size)
  have HS6 : Hid (Sns w6 w2.heap.size F (.slice sx q scap) ss us) := HS5.out.ot (F' := F) (Ot.of_below (S := fun _ => False) hb6) (fun _ _ _ _ h => h) (fun _ _ h => h)
  have hA6 : (HashM b p).At w6 F sE := HM.out.kept HA5.out (fun j hj => hb6.block j (HM.out.low HA5.out j hj))
  obtain ⟨C6, vs6, tv6, hP6, _⟩ := hA6
  have HWH : Hid (∀ (W : World) (f : Int), Below w6.heap.size w6 W → 0 ≤ f → f ≤ 1000000 → Calls Try.prog 25 #[.pointer (some ⟨b, 0, none⟩), .int .i64 f] W fun e w' => e = .returned (.int .i64 (whereN p f)) ∧ ∃ n, w' = W.drewN n) := fun W f hW h0 h1 => where_any f W (hP6.below hW) hm0 hm1 hs0 hs1 h0 h1
  have hbb : b < w6.heap.size := hP6.blk.lt
  have HHB : Hid (b < w6.heap.size) := hbb
  clear htl hb6 ht6 HTC HS5 HA5 hP6 hbb
  have HTG : Hid (∀ (i : Nat) (st : Stp), (timesL 0 xs)[i]? = some st → st.what = 0 → 0 ≤ st.f ∧ st.f < 16) := by
    intro i st h hw
    have h1 := (timesL_get h (by rw [HN.out]; omega)).2.2.2.2.2 hw
    have h2 := ok_flow (x := hdOf st 0) h1
    simp only [hdOf] at h2
    omega
  obtain ⟨ts, hts⟩ : ∃ ts, timesL 0 xs = ts := ⟨_, rfl⟩
  have HTN : Hid (ts.length = q) := by show _ = _; rw [← hts, timesL_length, HN.out]
  rw [hts] at HTL HHS HTG
  clear hts
  obtain ⟨i0, hi, hz0, hz1, hz2⟩ := info_parts infoInt1
  obtain ⟨mm, hmm⟩ : ∃ mm : Nat, 1 + pa = (mm : Int) := ⟨(1 + pa).toNat, by omega⟩
  have HMM : Hid (p.many = (mm : Int)) := by show _ = _; rw [HPM.out, hmm]
  have hmm1 : 1 ≤ mm ∧ mm ≤ 64 := by omega
  have hmk := run_make_row' (P := Try.prog) 24 3 (.int .i64 0) 8 Try.underlying24 infoInt1 rfl .i64 .i64 mm (by omega) (by omega)
  obtain ⟨M, hM⟩ : ∃ M, w6.heap.size = M := ⟨_, rfl⟩
  have HM6 : Hid (w6.heap.size = M) := hM
  have HR0 : Hid (HhR p mm M w6 (.slice none 0 0) [] (fun _ => 0) (w6.alloc (.cells (madeCells #[.int .i64 0] mm) 3))) := by
    refine ⟨Ins.nil _, fun b hb => by simp [Value.ownBlock] at hb, ?_, ?_⟩
    · have e1 : Blk (w6.alloc (.cells (madeCells #[.int .i64 0] mm) 3)) w6.heap.size mm 3 (fun _ => .int .i64 0) := World.rowIs_made w6 (.int .i64 0) mm 3
      rw [hM] at e1
      exact e1
    · rw [← hM]; exact below_alloc_ (Below.refl _ _) _
  rw [hmm]
  clear HL HB1 HB2 HB3 HB4 HB5 hs0 hs1
  go_wp2
  go_loopw [13, 15] (fun lv iv wr => ∃ k : Nat, k ≤ q ∧ iv = .int .i64 k ∧ HhR p mm M w6 lv (whO p ts k) (manO p ts ss k) wr) (fun _ i _ => q - (intOf i).toNat)
  case atStart => exact ⟨0, Nat.zero_le _, rfl, HR0.out⟩
  case round =>
    obtain ⟨k, hkq, rfl, hr⟩ := hrel
    have HR : Hid (HhR p mm M w6 u13 (whO p ts k) (manO p ts ss k) wr) := hr
    have hMw : M < wr.heap.size := hr.blk.lt
    clear hr
    by_cases hlt : k < q
    · obtain ⟨sn, hsn⟩ : ∃ sn, ss[k]? = some sn := ⟨_, List.getElem?_eq_getElem (by rw [HSL.out]; exact hlt)⟩
      obtain ⟨uu, huu⟩ : ∃ uu, us[k]? = some uu := ⟨_, List.getElem?_eq_getElem (by rw [HS6.out.len, HSL.out]; exact hlt)⟩
      obtain ⟨st, hst⟩ : ∃ st, ts[k]? = some st := ⟨_, List.getElem?_eq_getElem (by rw [HTN.out]; exact hlt)⟩
      have HGS : Hid (HStep p (whO p ts (k + 1)) (manO p ts ss k) st sn) := HHS.out k st sn hst hsn
      have HMK : Hid (manO p ts ss (k + 1) = manT (whO p ts (k + 1)) (manL (whO p ts (k + 1)) (manP p (manO p ts ss k) st) sn.lost) sn.taken) := manO_succ hst hsn
      have HWK : Hid (whO p ts (k + 1) = whS p (whO p ts k) st) := whO_succ hst
      have HSF : Hid (st.what = 0 → 0 ≤ st.f ∧ st.f < 16) := HTG.out k st hst
      obtain ⟨sx', scap', he, hlies⟩ := HS6.out.lies
      simp only [HSL.out, Value.slice.injEq, true_and] at he
      obtain ⟨rfl, rfl⟩ := he
      obtain ⟨sb, so, rfl, hsb, s0, s1, s2, s3, s4, s5⟩ := hlies.seen (zip_at hsn huu)
      obtain ⟨hlI, _⟩ := HS6.out.lost k sn uu hsn huu
      obtain ⟨tb, tof, rfl, htb, c0, c1, c2, c3, c4, c5, c6⟩ := HTL.out.seven hst
      have hcl := whO_len p ts k
      have HSE : Hid (∀ W : World, Below M w6 W → (W.cell? ⟨sb, so + k * 6, none⟩ = some (.int .i64 sn.taken) ∧ W.cell? ⟨sb, so + k * 6 + 3, none⟩ = some (.int .i64 sn.len) ∧ W.cell? ⟨sb, so + k * 6 + 5, none⟩ = some uu ∧ sb < W.heap.size) ∧ (W.cell? ⟨tb, tof + k * 7, none⟩ = some (.int .i64 st.what) ∧ W.cell? ⟨tb, tof + k * 7 + 4, none⟩ = some (.int .i64 st.f) ∧ tb < W.heap.size) ∧ Ins W uu sn.lost) := by
        intro W hW
        have hc : ∀ (p : Addr), p.block < w6.heap.size → W.cell? p = w6.cell? p := fun p hp => World.cell?_of_block (w := w6) (hW.block p.block (by have := HM6.out; omega))
        have hsz := hW.size
        exact ⟨⟨(hc _ hsb).trans s0, (hc _ hsb).trans s3, (hc _ hsb).trans s5, by omega⟩, ⟨(hc _ htb).trans c0, (hc _ htb).trans c4, by omega⟩, Seg.below hlI (by rw [HM6.out]; exact hW)⟩
      have HSB : Hid (sb < M) := by show _ < _; have := HM6.out; omega
      clear hlies hsn huu hst s0 s1 s2 s3 s4 s5 c0 c1 c2 c3 c4 c5 c6 hsb htb hlI
      obtain ⟨⟨s0, s3, s5, hsb⟩, ⟨c0, c4, htb⟩, hlI⟩ := HSE.out wr HR.out.bel
      clear hlI s0 s3 s5
      go_upto_if 78 with (fail)
      go_cut [13] (fun cv wx => HhR p mm M w6 cv (whO p ts (k + 1)) (manP p (manO p ts ss k) st) wx)
      case first =>
        by_cases hw0 : st.what = 0
        · have hw2 : (st.what == 0) = true := by simpa using hw0
          have HCK0 : Hid (whO p ts (k + 1) = whO p ts k ++ [whereN p st.f]) := by show _ = _; rw [HWK.out, whS, if_pos hw0]
          have HMP : Hid (manP p (manO p ts ss k) st = updF (manO p ts ss k) (whereN p st.f).toNat (manO p ts ss k (whereN p st.f).toNat + 1)) := by show _ = _; rw [manP, if_pos hw0]
          have hf := HSF.out hw0
          have HWC := HWH.out wr st.f (by rw [HM6.out]; exact HR.out.bel) hf.1 (by omega)
          have hwb := whereN_bd hm0 st.f
          rw [HMM.out] at hwb
          obtain ⟨K, hK⟩ : ∃ K : Nat, whereN p st.f = (K : Int) := ⟨(whereN p st.f).toNat, by omega⟩
          rw [hK] at HWC hwb HMP HCK0
          rw [Int.toNat_natCast] at HMP
          have hKm : K < mm := by omega
          obtain ⟨d1, d2⟩ := HR.out.blk.cell hKm
          have hbd := HGS.out.bd0 K (by omega)
          have o1 : decide ((K : Int) < 0) = false := by simp
          have o2 : decide ((mm : Int) ≤ (K : Int)) = false := by simp; omega
          clear hw0 hf hK
          go_wp2_with (go_at_call 25; fail)
          refine HWC.mono ?_
          rintro e w7 ⟨rfl, n7, hw7⟩
          have HRZ : Hid (HhR p mm M w6 u13 (whO p ts k) (manO p ts ss k) w7) := by show HhR _ _ _ _ _ _ _ _; rw [hw7]; exact HR.out.drewN n7
          have hMz : M < w7.heap.size := HRZ.out.blk.lt
          clear hw7 HWC d1 d2 hMw c0 c4 htb hsb HWH HR
          have HMP2 : Hid (manP p (manO p ts ss k) st = updF (manO p ts ss k) K (manO p ts ss k K + 1)) := HMP.out
          have HCE : Hid (∃ mv, manO p ts ss k K = mv) := ⟨_, rfl⟩
          clear HMP
          go_wp2_with (at_builtin; refine wpList_append_seg _ rfl (.tmp 94) (.tmp 96) 24 rfl 3 i0 _ 1 8 Try.underlying24 hi hz0 hz1 hz2 rfl (by decide) _ _ _ rfl (Seg.below HRZ.out.row (below_alloc_ (Below.refl _ _) _)) ⟨w7.heap.size, 0, none⟩ 1 1 [.int .i64 (K : Int)] rfl rfl (news_of (new_block_ (by simp))) (by simp [Value.oneCell']) (by decide) (by unfold maxLen; omega) (by omega) _ rfl ?_; intro g off cap2 w8 hs8 hg8 ha8 hl8; have HR8 : Hid (HhR p mm M w6 (.slice (some ⟨g, off, none⟩) ((whO p ts k).length + 1) cap2) (whO p ts (k + 1)) (manO p ts ss k) w8) := HRZ.out.app hMz HCK0.out hs8 hg8 ha8; have hM8 : M < w8.heap.size := HR8.out.blk.lt; obtain ⟨d1, d2⟩ := HR8.out.blk.cell hKm; obtain ⟨mv, hmv⟩ := HCE.out; rw [hmv] at d1 hbd; clear hs8 hg8 ha8 hl8)
          go_meet
          case rel =>
            rw [HMP2.out, hmv]
            exact HR8.out.set K _
        · have hw2 : (st.what == 0) = false := by simpa using hw0
          have HCK0 : Hid (whO p ts (k + 1) = whO p ts k) := by show _ = _; rw [HWK.out, whS, if_neg hw0]
          have HMP : Hid (manP p (manO p ts ss k) st = manO p ts ss k) := by show _ = _; rw [manP, if_neg hw0]
          clear hw0
          go_wp2
          go_meet
          case rel =>
            rw [HCK0.out, HMP.out]
            exact HR.out
      case rest =>
        have HR2 : Hid (HhR p mm M w6 u13 (whO p ts (k + 1)) (manP p (manO p ts ss k) st) wc) := hcut
        have hM2 : M < wc.heap.size := hcut.blk.lt
        have hcl2 := whO_len p ts (k + 1)
        clear hcut c0 c4 hsb htb
        obtain ⟨W, hW⟩ : ∃ W, whO p ts (k + 1) = W := ⟨_, rfl⟩
        obtain ⟨m1, hm1'⟩ : ∃ m1, manP p (manO p ts ss k) st = m1 := ⟨_, rfl⟩
        obtain ⟨lst, hlst⟩ : ∃ lst, sn.lost = lst := ⟨_, rfl⟩
        obtain ⟨ux, ucap, hcu⟩ := HR2.out.row.slice
        have HR20 : Hid (∃ j : Nat, j ≤ lst.length ∧ Value.int .i64 0 = .int .i64 j ∧ HhR p mm M w6 u13 W (manL W m1 (lst.take j)) wc) := ⟨0, Nat.zero_le _, rfl, by rw [← hW, ← hm1']; exact HR2.out⟩
        have HBD : Hid (∀ j x, x < 64 → -1 ≤ manL W m1 (lst.take j) x ∧ manL W m1 (lst.take j) x ≤ 1000) := by rw [← hW, ← hm1', ← hlst]; exact HGS.out.bd
        have HLO : Hid (∀ j z, lst[j]? = some z → 0 ≤ z ∧ ∃ x : Nat, x < mm ∧ W[z.toNat]? = some (x : Int) ∧ ∀ y : Nat, y < mm → manL W m1 (lst.take j) y ≤ manL W m1 (lst.take j) x) := by
          rw [← hW, ← hm1', ← hlst]
          intro j z hz
          obtain ⟨g1, x, g2, g3, g4⟩ := HGS.out.lost j z hz
          rw [HMM.out] at g2 g4
          exact ⟨g1, x, by omega, g3, fun y hy => g4 y (by omega)⟩
        have HTK : Hid (0 ≤ sn.taken → ∃ x : Nat, x < mm ∧ W[sn.taken.toNat]? = some (x : Int)) := by
          rw [← hW]
          intro ht
          obtain ⟨x, g2, g3⟩ := HGS.out.taken ht
          rw [HMM.out] at g2
          exact ⟨x, by omega, g3⟩
        have o9 : decide (1 + pc < sn.len) = false := by
          have := HGS.out.few
          rw [HPR.out] at this
          simp only [decide_eq_false_iff_not]
          omega
        rw [hW] at hcl2 hcu
        rw [hW, hm1', hlst] at HMK
        rw [hlst] at HSE
        have HWW : Hid (whO p ts (k + 1) = W) := hW
        clear hW hm1' hlst HGS HR2 HWK
        subst hcu
        obtain ⟨⟨s0, s3, s5, hsb⟩, ⟨c0, c4, htb⟩, hlI⟩ := HSE.out wc (by obtain ⟨_, _, _, h⟩ := HR20.out; exact h.bel)
        clear s0 s3 c0 c4 htb hlI
        go_wp2
        go_loopw [17] (fun jv wl => ∃ j : Nat, j ≤ lst.length ∧ jv = .int .i64 j ∧ HhR p mm M w6 (.slice ux W.length ucap) W (manL W m1 (lst.take j)) wl) (fun jv _ => lst.length - (intOf jv).toNat)
        case atStart => exact HR20.out
        case round =>
          obtain ⟨j, hj, rfl, hr3⟩ := hrel
          have HR3 : Hid (HhR p mm M w6 (.slice ux W.length ucap) W (manL W m1 (lst.take j)) wr) := hr3
          have hM3 : M < wr.heap.size := hr3.blk.lt
          clear hr3 s5 hsb
          obtain ⟨⟨s0, s3, s5, hsb⟩, _, hlI⟩ := HSE.out wr HR3.out.bel
          have hll := ins_few hlI
          unfold maxLen at hll
          obtain ⟨lx, lcap, hlx⟩ := hlI.slice
          subst hlx
          by_cases hjl : j < lst.length
          · obtain ⟨z, hz⟩ : ∃ z, lst[j]? = some z := ⟨_, List.getElem?_eq_getElem hjl⟩
            obtain ⟨hz0', x, hxm, hWx, hmax⟩ := HLO.out j z hz
            have HML : Hid (manL W m1 (lst.take (j + 1)) = updF (manL W m1 (lst.take j)) x (manL W m1 (lst.take j) x - 1)) := by show _ = _; rw [manL_succ hz, outM_at hWx]
            obtain ⟨lb, lo, lcap', e1, hlb, hlc, _⟩ := hlI.at hz
            simp only [Value.slice.injEq, true_and] at e1
            obtain ⟨rfl, rfl⟩ := e1
            obtain ⟨zn, hzn⟩ : ∃ zn : Nat, z = (zn : Int) := ⟨z.toNat, by omega⟩
            subst hzn
            rw [Int.toNat_natCast] at hWx
            obtain ⟨wb, wo, wcap', e2, hwb, hwc, _⟩ := HR3.out.row.at hWx
            simp only [Value.slice.injEq, true_and] at e2
            obtain ⟨rfl, rfl⟩ := e2
            have hznl : zn < W.length := (List.getElem?_eq_some_iff.1 hWx).1
            have hbx := HBD.out j x (by omega)
            obtain ⟨mv, hmv⟩ : ∃ mv, manL W m1 (lst.take j) = mv := ⟨_, rfl⟩
            rw [hmv] at HR3 HML hmax hbx
            clear hmv hz hWx hlI s0 s3
            obtain ⟨d1, d2⟩ := HR3.out.blk.cell hxm
            obtain ⟨mx, hmx⟩ : ∃ mx, mv x = mx := ⟨_, rfl⟩
            rw [hmx] at d1 hbx HML
            clear HSE HBD HTK HLO HMK
            go_wp2
            go_loopw [19] (fun yv wl => ∃ y : Nat, y ≤ mm ∧ yv = .int .i64 y ∧ HhR p mm M w6 (.slice (some ⟨wb, wo, none⟩) W.length ucap) W mv wl) (fun yv _ => mm - (intOf yv).toNat)
            case atStart => exact ⟨0, Nat.zero_le _, rfl, HR3.out⟩
            case round =>
              obtain ⟨y, hy, rfl, hr4⟩ := hrel
              have HR4 : Hid (HhR p mm M w6 (.slice (some ⟨wb, wo, none⟩) W.length ucap) W mv wr) := hr4
              have hM4 : M < wr.heap.size := hr4.blk.lt
              clear hr4 d1 d2 hlc hwc hwb hlb
              obtain ⟨d1, d2⟩ := HR4.out.blk.cell hxm
              rw [hmx] at d1
              by_cases hym : y < mm
              · obtain ⟨g1, g2⟩ := HR4.out.blk.cell hym
                have hle := hmax y hym
                rw [hmx] at hle
                generalize mv y = my at g1 hle
                have o1 : decide (mx < my) = false := by simp only [decide_eq_false_iff_not]; omega
                go_wp2
                go_quiet (fail)
                go_wp2
                go_roundw
                case rel => first | exact ⟨y + 1, by omega, by go_num, HR4.out.drewN _⟩ | exact ⟨_, ⟨y + 1, by omega, by go_num, HR4.out.drewN _⟩, rfl⟩
                case measure => simp [intOf]; omega
              · obtain rfl : y = mm := by omega
                go_wp2
                go_roundw
                case rel =>
                  have hR : HhR p y M w6 (.slice (some ⟨wb, wo, none⟩) W.length ucap) W (manL W m1 (lst.take (j + 1))) (wr.setCell ⟨M, x, none⟩ (.int .i64 (mx - 1))) := by rw [HML.out]; exact HR4.out.set x _
                  first | exact ⟨j + 1, by omega, by go_num, hR⟩ | exact ⟨_, ⟨j + 1, by omega, by go_num, hR⟩, rfl⟩ | exact ⟨_, _, ⟨j + 1, by omega, by go_num, hR⟩, rfl, rfl⟩
                case measure => simp [intOf]; omega
          · obtain rfl : j = lst.length := by omega
            have e1 : lst.take lst.length = lst := List.take_length
            have hbdt := HBD.out lst.length
            rw [e1] at HR3 hbdt
            obtain ⟨mv, hmv⟩ : ∃ mv, manL W m1 lst = mv := ⟨_, rfl⟩
            rw [hmv] at HR3 HMK hbdt
            clear hmv e1 hj hjl hlI
            by_cases ht : 0 ≤ sn.taken
            · have o3 : decide (0 ≤ sn.taken) = true := decide_eq_true ht
              obtain ⟨x, hxm, hWx⟩ := HTK.out ht
              have HMK2 : Hid (manO p ts ss (k + 1) = updF mv x (mv x - 1)) := by show _ = _; rw [HMK.out, manT, if_pos ht, outM_at hWx]
              obtain ⟨zn, hzn⟩ : ∃ zn : Nat, sn.taken = (zn : Int) := ⟨sn.taken.toNat, by omega⟩
              rw [hzn] at hWx o3 s0
              rw [Int.toNat_natCast] at hWx
              obtain ⟨wb, wo, wcap', e2, hwb, hwc, _⟩ := HR3.out.row.at hWx
              simp only [Value.slice.injEq, true_and] at e2
              obtain ⟨rfl, rfl⟩ := e2
              have hznl : zn < W.length := (List.getElem?_eq_some_iff.1 hWx).1
              have hbx := hbdt x (by omega)
              obtain ⟨d1, d2⟩ := HR3.out.blk.cell hxm
              have hsM : ¬ sb = M := by have := HSB.out; omega
              generalize mv x = mx at d1 hbx HMK2
              clear ht hzn hWx hbdt HSE HBD HTK HLO HMK
              go_wp2
              go_roundw
              case rel =>
                have hR : HhR p mm M w6 (.slice (some ⟨wb, wo, none⟩) W.length ucap) (whO p ts (k + 1)) (manO p ts ss (k + 1)) (wr.setCell ⟨M, x, none⟩ (.int .i64 (mx - 1))) := by rw [HMK2.out, HWW.out]; exact HR3.out.set x _
                first | exact ⟨k + 1, by omega, by go_num, hR⟩ | exact ⟨_, ⟨k + 1, by omega, by go_num, hR⟩, rfl⟩ | exact ⟨_, _, ⟨k + 1, by omega, by go_num, hR⟩, rfl, rfl⟩
              case measure => simp [intOf]; omega
            · have o3 : decide (0 ≤ sn.taken) = false := decide_eq_false ht
              have HMK2 : Hid (manO p ts ss (k + 1) = mv) := by show _ = _; rw [HMK.out, manT, if_neg ht]
              clear ht hbdt
              go_wp2
              go_roundw
              case rel =>
                have hR : HhR p mm M w6 (.slice ux W.length ucap) (whO p ts (k + 1)) (manO p ts ss (k + 1)) wr := by rw [HMK2.out, HWW.out]; exact HR3.out
                first | exact ⟨k + 1, by omega, by go_num, hR⟩ | exact ⟨_, ⟨k + 1, by omega, by go_num, hR⟩, rfl⟩ | exact ⟨_, _, ⟨k + 1, by omega, by go_num, hR⟩, rfl, rfl⟩
              case measure => simp [intOf]; omega
    · obtain rfl : k = q := by omega
      go_wp2
      go_ret
      exact ⟨rfl, HB6.out.trans (HR.out.bel.mono (by rw [← HM6.out]; exact HB6.out.size))⟩
end Go.Proofs.Ytjjchknclpfgiaa
