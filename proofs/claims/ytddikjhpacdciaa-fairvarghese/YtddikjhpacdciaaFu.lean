/-
  millracekeep.FairVarghese: it returns true at all quanta, lengths and takes; nothing that was there before is otherwise. Conditions: the quanta and the lengths lie in memory.
-/
import Derived.Test.YtddikjhpacdciaaFt
import Derived.Test.YtddikjhpacdciaaPk
import Derived.Deep.DeepCutAuto
import Derived.Deep.OwnRows
import Derived.BigQuiet
namespace Go.Proofs.Ytddikjhpacdciaa
open Go.RowKit Go.Extern.Stop Go.Stop Go.Extern

def qL (f : Nat → Int) (k : Nat) : List Int := (List.range k).map (fun i => 20 + pickN (f i) 2000)
theorem qL_succ (f : Nat → Int) (k : Nat) : qL f (k + 1) = qL f k ++ [20 + pickN (f k) 2000] := by simp [qL, List.range_succ]
theorem qL_len (f : Nat → Int) (k : Nat) : (qL f k).length = k := by simp [qL]
theorem qL_get (f : Nat → Int) {k i : Nat} (h : i < k) : (qL f k).getD i 0 = 20 + pickN (f i) 2000 := by simp [qL, List.getD_eq_getElem?_getD, h]
theorem qL_all (f : Nat → Int) {k : Nat} : allQ (fun i => (qL f k).getD i 0) k = true := by
  unfold allQ
  rw [List.all_eq_true]
  intro i hi
  have h1 := qL_get f (List.mem_range.1 hi)
  have h2 := pickN_bd (f i) 2000 (by decide)
  simp only [h1, qOk, Bool.and_eq_true, decide_eq_true_eq]
  omega
theorem drew_heap (w : World) : w.drew.heap = w.heap := rfl
theorem mulBd {a b A B : Int} (h0 : 0 ≤ a) (h1 : a ≤ A) (h2 : 0 ≤ b) (h3 : b ≤ B) : 0 ≤ a * b ∧ a * b ≤ A * B := ⟨Int.mul_nonneg h0 h2, Int.mul_le_mul h1 h3 h2 (by omega)⟩
def VgO (wq : World) (b k : Nat) (Q : Nat → Int) (lv nv iv : Value) (wx : World) : Prop := ∃ (i n : Nat) (Lm : Int) (s : RnS) (F : Nat → Prop), i ≤ 50 ∧ iv = .int .i64 i ∧ lv = .int .i64 Lm ∧ nv = .int .i64 n ∧ n = i * k ∧ VgP wq b k Q Lm n (fun _ => i) wx s F ∧ b < wx.heap.size
def VgJ (wq : World) (b k : Nat) (Q : Nat → Int) (i n : Nat) (lv nv jv : Value) (wx : World) : Prop := ∃ (j : Nat) (Lm : Int) (s : RnS) (F : Nat → Prop), j ≤ k ∧ jv = .int .i64 j ∧ lv = .int .i64 Lm ∧ nv = .int .i64 ((n + j : Nat) : Int) ∧ VgP wq b k Q Lm (n + j) (fun g => if g < j then i + 1 else i) wx s F ∧ b < wx.heap.size
def VgL (w7 : World) (sb k : Nat) (iv : Value) (wx : World) : Prop := ∃ j : Nat, j ≤ k ∧ iv = .int .i64 j ∧ Blk wx sb k 3 (fun _ => .int .i64 0) ∧ Blk wx (sb + 1) k 3 (fun g => .int .i64 (if g < j then 50 else 0)) ∧ Below sb w7 wx
def VgK (wq : World) (b k : Nat) (Q : Nat → Int) (Lm : Int) (sb : Nat) (kv : Value) (wx : World) : Prop := ∃ (kk : Int) (S : Nat → Int) (c : Nat → Nat) (s : RnS) (F : Nat → Prop), (-1 ≤ kk ∧ kk ≤ 119) ∧ kv = .int .i64 kk ∧ VgT wq b k Q Lm S c sb (sb + 1) wx s F ∧ Blk wx sb k 3 (fun g => .int .i64 (S g)) ∧ Blk wx (sb + 1) k 3 (fun g => .int .i64 (c g : Int)) ∧ (∀ g, g < k → 1 ≤ c g ∧ c g ≤ 50 ∧ 0 ≤ S g ∧ S g ≤ 1500 * (120 - kk))
set_option maxRecDepth 20000 in
set_option maxHeartbeats 4000000 in
theorem varghese_any (y : Option Addr) (m ycap : Nat) (f : Nat → Int) (z : Option Addr) (p zcap : Nat) (g : Nat → Int) (tk : Int) (w : World) (hr : IRow w y m f) (hmm : m ≤ maxLen) (hz : IRow w z p g) (hpm : p ≤ maxLen) :
    Calls Try.prog 4 #[.slice y m ycap, .slice z p zcap, .int .i64 tk] w fun e w' => e = .returned (.bool true) ∧ Below w.heap.size w w' := by
  have HR : Hid (IRow w y m f) := hr
  have HZ : Hid (IRow w z p g) := hz
  clear hz hr
  unfold maxLen at hmm hpm
  have hp1 := ptrRn
  by_cases h1 : m < 2
  · go_enter Try.func4, Try.ntmps4
    go_wp2
    go_ret
    exact ⟨rfl, Below.refl _ _⟩
  by_cases h2 : 6 < m
  · go_enter Try.func4, Try.ntmps4
    go_wp2
    go_ret
    exact ⟨rfl, Below.refl _ _⟩
  by_cases h3 : p = 0
  · subst h3
    go_enter Try.func4, Try.ntmps4
    go_wp2
    go_ret
    exact ⟨rfl, Below.refl _ _⟩
  by_cases h4 : 40 < p
  · go_enter Try.func4, Try.ntmps4
    go_wp2
    go_ret
    exact ⟨rfl, Below.refl _ _⟩
  clear hmm hpm
  have h5 : ((p : Int) == 0) = false := by simp; omega
  have h6 : ¬ (p : Int) = 0 := by omega
  have h7 : decide ((m : Int) < 2) = false := by simp only [decide_eq_false_iff_not]; omega
  have h8 : decide (6 < (m : Int)) = false := by simp only [decide_eq_false_iff_not]; omega
  have h9 : decide (40 < (p : Int)) = false := by simp only [decide_eq_false_iff_not]; omega
  obtain ⟨i0, hi, hz0, hz1, hz2⟩ := info_parts infoInt1
  obtain ⟨yb, yo, rfl, hyb, hyc⟩ : ∃ b off, y = some ⟨b, off, none⟩ ∧ b < w.heap.size ∧ ∀ i, i < m → w.cell? ⟨b, off + i, none⟩ = some (.int .i64 (f i)) := by
    rcases HR.out with h | h
    · omega
    · exact h
  obtain ⟨zb, zo, rfl, hzb, hzc⟩ : ∃ b off, z = some ⟨b, off, none⟩ ∧ b < w.heap.size ∧ ∀ i, i < p → w.cell? ⟨b, off + i, none⟩ = some (.int .i64 (g i)) := by
    rcases HZ.out with h | h
    · omega
    · exact h
  have HYC : Hid (∀ (W : World), Below w.heap.size w W → ∀ i, i < m → W.cell? ⟨yb, yo + i, none⟩ = some (.int .i64 (f i))) := fun W hW i hi => (World.cell?_of_block (w := w) (a := ⟨yb, yo + i, none⟩) (hW.block yb hyb)).trans (hyc i hi)
  have HZC : Hid (∀ (W : World), Below w.heap.size w W → ∀ i, i < p → W.cell? ⟨zb, zo + i, none⟩ = some (.int .i64 (g i))) := fun W hW i hi => (World.cell?_of_block (w := w) (a := ⟨zb, zo + i, none⟩) (hW.block zb hzb)).trans (hzc i hi)
  clear hyc hzc HR HZ
  go_enter Try.func4, Try.ntmps4
  go_wp2
  go_loopw [7, 8] (fun qv i wr => ∃ k : Nat, k ≤ m ∧ i = .int .i64 k ∧ Ins wr qv (qL f k) ∧ (∀ b, qv.ownBlock = some b → w.heap.size ≤ b) ∧ Below w.heap.size w wr) (fun _ i _ => m - (intOf i).toNat)
  case atStart => exact ⟨0, Nat.zero_le _, rfl, Ins.nil _, fun b hb => by simp [Value.ownBlock] at hb, Below.refl _ _⟩
  case round =>
    obtain ⟨k, hk, rfl, hqv, hqn, hbr⟩ := hrel
    have HQV : Hid (Ins wr u7 (qL f k)) := hqv
    have HQN : Hid (∀ b, u7.ownBlock = some b → w.heap.size ≤ b) := hqn
    have HBR : Hid (Below w.heap.size w wr) := hbr
    have hbsz := hbr.size
    clear hqv hqn hbr
    by_cases hlt : k < m
    · have hc := HYC.out wr HBR.out k hlt
      have hybr : yb < wr.heap.size := by omega
      have HPK := pick_any (f k) 2000 wr (by decide) (by decide)
      have hpb := pickN_bd (f k) 2000 (by decide)
      have HQS : Hid (qL f (k + 1) = qL f k ++ [20 + pickN (f k) 2000]) := qL_succ f k
      have HQL : Hid ((qL f k).length = k) := qL_len f k
      generalize pickN (f k) 2000 = pk at *
      go_wp2_with (first | (go_at_call 7; refine HPK.mono ?_; rintro e w2 ⟨rfl, hw2⟩; subst hw2) | (at_builtin; refine wpList_append_seg _ rfl (.tmp 49) (.tmp 56) 24 rfl 3 i0 _ 1 8 Try.underlying24 hi hz0 hz1 hz2 rfl (by decide) _ _ _ rfl (Seg.below HQV.out (below_alloc_ (Below.refl _ _) _)) ⟨w2.heap.size, 0, none⟩ 1 1 [.int .i64 (20 + pk)] rfl rfl (news_of (new_block_ (by simp))) (by simp [Value.oneCell']) (by decide) (by rw [HQL.out]; unfold maxLen; omega) (by rw [HQL.out]; omega) _ rfl ?_; intro g' off cap2 w6 hs6 hg6 ha6 hl6))
      go_roundw
      case rel =>
        refine ⟨k + 1, by omega, by go_num, by rw [HQS.out]; unfold Ins; simpa using hs6, fun b hb => ?_, below_grown_ (below_alloc_ HBR.out _) hg6 HQN.out⟩
        simp only [Value.ownBlock, Option.some.injEq] at hb
        subst hb
        rcases ha6 with h | h
        · exact HQN.out _ h
        · simp at h; omega
      case measure => simp [intOf]; omega
    · obtain rfl : k = m := by omega
      clear hk hlt
      obtain ⟨qx, qcap, hqu⟩ := HQV.out.slice
      rw [qL_len] at hqu
      subst hqu
      have HIR := irow_ins HQV.out (qL_len f k).symm
      have HC := newRn_yes (pcap := qcap) 60 wr HIR (by omega) (by omega) (by decide) (by decide) (qL_all f)
      have HQ0 : Hid (∀ i, i < 16 → 1 ≤ qF (fun i => (qL f k).getD i 0) k 16 i ∧ qF (fun i => (qL f k).getD i 0) k 16 i ≤ 1000000) := qF_ok (by omega) (qL_all f)
      have HQ1 : Hid (∀ i, i < k → qF (fun i => (qL f k).getD i 0) k 16 i = (qL f k).getD i 0 ∧ 20 ≤ (qL f k).getD i 0 ∧ (qL f k).getD i 0 < 2020) := fun i hi => by
        have e1 := qL_get f hi
        have e2 := pickN_bd (f i) 2000 (by decide)
        refine ⟨?_, by omega, by omega⟩
        unfold qF
        rw [if_pos (by omega), show min i (k - 1) = i by omega]
      generalize qF (fun i => (qL f k).getD i 0) k 16 = Q at HC HQ0 HQ1
      go_wp2_with (go_at_call 16; fail)
      refine HC.mono ?_
      rintro e w1 ⟨rfl, C1, hP1, hb1⟩
      obtain ⟨b, hb⟩ : ∃ b, wr.heap.size = b := ⟨_, rfl⟩
      have HBZ : Hid (wr.heap.size = b) := hb
      have HB1 : Hid (Below b wr w1) := by rw [← hb]; exact hb1
      have hbw1 : b < w1.heap.size := by rw [hb] at hP1; exact hP1.blk.lt
      rw [hb] at hP1 ⊢
      have HP1 : Hid (RnP w1 b 60 Q C1 (fun _ => .slice none 0 0) (.slice none 0 0) rn0) := hP1
      clear hP1 hb1 hb HC HIR
      go_wp2_with (go_at_call 17; fail)
      refine (turns_any _).mono ?_
      rintro e w2 ⟨rfl, hb2⟩
      have HV2 : Hid (VgP wr b k Q 0 0 (fun _ => 0) w2 rn0 (RnF b (fun _ => .slice none 0 0) (.slice none 0 0))) := by
        refine ⟨⟨C1, _, _, HP1.out.below hb2, fun k => Iff.rfl⟩, fun j hj => ?_, ⟨⟨rn0_inv HQ0.out, by decide, fun f hf => ⟨by simp [rn0], by simp [rn0]⟩⟩, fun _ _ => rfl, rfl, by simp [rn0], fun _ _ => rfl, fun _ _ => by simp [rn0]⟩, by decide, HB1.out.trans (hb2.mono (by omega))⟩
        rcases hj with h | ⟨f, _, h⟩ | h
        · omega
        · simp [Value.ownBlock] at h
        · simp [Value.ownBlock] at h
      have hbw2 : b < w2.heap.size := by have := hb2.size; omega
      clear hb2 HP1 HB1
      obtain ⟨wq, rfl⟩ : ∃ wq, wq = wr := ⟨_, rfl⟩
      obtain ⟨qb, qo, rfl, hqb, hqc⟩ : ∃ b off, qx = some ⟨b, off, none⟩ ∧ b < wq.heap.size ∧ ∀ i, i < k → wq.cell? ⟨b, off + i, none⟩ = some (.int .i64 ((qL f k).getD i 0)) := by
        rcases irow_ins HQV.out (qL_len f k).symm with h | h
        · omega
        · exact h
      have HQC : Hid (∀ (W : World), Below b wq W → ∀ i, i < k → W.cell? ⟨qb, qo + i, none⟩ = some (.int .i64 (Q i)) ∧ qb < W.heap.size ∧ 20 ≤ Q i ∧ Q i < 2020) := fun W hW i hi => by
        obtain ⟨e1, e2, e3⟩ := HQ1.out i hi
        have e4 := HBZ.out
        rw [e1]
        exact ⟨(World.cell?_of_block (w := wq) (a := ⟨qb, qo + i, none⟩) (hW.block qb (by omega))).trans (hqc i hi), by have := hW.size; omega, e2, e3⟩
      clear hqc hqb
      go_wp2
      go_loopw [11, 12, 13] (fun lv nv iv wx => VgO wq b k Q lv nv iv wx) (fun _ _ i _ => 50 - (intOf i).toNat)
      case atStart => exact ⟨0, 0, 0, _, _, Nat.zero_le _, rfl, rfl, rfl, by omega, HV2.out, hbw2⟩
      case round =>
        obtain ⟨i, n, Lm, s, F, hi50, rfl, rfl, rfl, hni, hV, hbx⟩ := hrel
        have HV : Hid (VgP wq b k Q Lm n (fun _ => i) wr s F) := hV
        have HNI : Hid (n = i * k) := hni
        have hn300 : n ≤ 300 := by rw [hni]; exact Nat.mul_le_mul hi50 (show k ≤ 6 by omega)
        clear hV hni
        by_cases hi : i < 50
        · go_wp2
          go_loopw [11, 12, 14] (fun lv nv jv wx => VgJ wq b k Q i n lv nv jv wx) (fun _ _ j _ => k - (intOf j).toNat)
          case atStart => exact ⟨0, Lm, s, F, Nat.zero_le _, rfl, rfl, rfl, HV.out.cong (fun g _ => by simp), hbx⟩
          case round =>
            obtain ⟨j, Lm2, s2, F2, hjk, rfl, rfl, rfl, hV2, hbx2⟩ := hrel
            have HVJ : Hid (VgP wq b k Q Lm2 (n + j) (fun g => if g < j then i + 1 else i) wr s2 F2) := hV2
            clear hV2
            by_cases hj : j < k
            · obtain ⟨e, he⟩ : ∃ e, (i * 7 + j * 3) % p = e := ⟨_, rfl⟩
              have hep : e < p := by rw [← he]; exact Nat.mod_lt _ (by omega)
              have hrem : ((i : Int) * 7 + (j : Int) * 3).tmod (p : Int) = (e : Int) := by rw [Int.tmod_eq_emod_of_nonneg (by omega), ← he]; simp
              clear he
              have hbel : Below w.heap.size w wr := HBR.out.trans (HVJ.out.bel.mono (by have := HBZ.out; omega))
              have hc := HZC.out wr hbel e hep
              have hzbr : zb < wr.heap.size := by have := hbel.size; omega
              have HPK := pick_any (g e) 1500 wr (by decide) (by decide)
              have hpb := pickN_bd (g e) 1500 (by decide)
              generalize pickN (g e) 1500 = pk at *
              have hlm := HVJ.out.lm
              obtain ⟨Lm3, hL3⟩ : ∃ x, max Lm2 (1 + pk) = x := ⟨_, rfl⟩
              have HL3 : Hid (max Lm2 (1 + pk) = Lm3) := hL3
              have hL4 : Lm2 ≤ Lm3 ∧ 1 + pk ≤ Lm3 ∧ Lm3 ≤ 1500 := by omega
              have HPT : Hid (Calls Try.prog 18 #[.pointer (some ⟨b, 0, none⟩), .int .i64 0, .agg #[.int .i64 0, .int .i64 (1 + pk), .int .i64 j, .int .i64 0, .int .i64 0, .int .i64 ((n : Int) + (j : Int))]] wr fun e w' => ∃ x0 cp s' F', e = .returned (.slice x0 0 cp) ∧ VgP wq b k Q Lm3 (n + j + 1) (updF (fun g => if g < j then i + 1 else i) j ((fun g => if g < j then i + 1 else i) j + 1)) w' s' F') :=
                by rw [← Int.natCast_add]; exact vput_any HVJ.out (by omega) (by omega) (1 + pk) Lm3 (by omega) hL4.1 hL4.2.1 hL4.2.2 j hj (by simp; omega) (by omega)
              go_wp2_with (first | (go_at_call 7; refine HPK.mono ?_; rintro e w2 ⟨rfl, hw2⟩; subst hw2) | (go_at_call 18; refine HPT.out.mono ?_; rintro e w3 ⟨x0, cp, s3, F3, rfl, hv3⟩; have HV3 : Hid (VgP wq b k Q Lm3 (n + j + 1) (updF (fun g => if g < j then i + 1 else i) j ((fun g => if g < j then i + 1 else i) j + 1)) w3 s3 F3) := hv3; clear hv3))
              all_goals
                go_roundw
                case rel =>
                  have hL5 := HL3.out
                  refine ⟨_, _, _, _, ?_, rfl, rfl, rfl, rfl⟩
                  refine ⟨j + 1, Lm3, s3, F3, by omega, by go_num, by congr 1; omega, by go_num, HV3.out.cong (fun g hg => ?_), ?_⟩
                  · by_cases e : g = j
                    · subst e; rw [updF_same]; simp
                    · rw [updF_ne e]
                      by_cases e2 : g < j
                      · simp [e2, show g < j + 1 by omega]
                      · simp [e2, show ¬ g < j + 1 by omega]
                  · obtain ⟨_, _, _, h, _⟩ := HV3.out.pos
                    exact h.blk.lt
                case measure => simp [intOf]; omega
            · obtain rfl : j = k := by omega
              go_wp2
              go_roundw
              case rel => first | exact ⟨i + 1, n + j, Lm2, s2, F2, by omega, by go_num, rfl, by first | rfl | go_num, by rw [HNI.out, Nat.succ_mul], HVJ.out.cong (fun g hg => by simp [hg]), hbx2⟩ | exact ⟨_, _, _, _, _, ⟨i + 1, n + j, Lm2, s2, F2, by omega, by go_num, rfl, by first | rfl | go_num, by rw [HNI.out, Nat.succ_mul], HVJ.out.cong (fun g hg => by simp [hg]), hbx2⟩, rfl, rfl, rfl, rfl, rfl⟩ | exact ⟨i + 1, n + j, Lm2, s2, F2, by omega, by go_num, rfl, by first | rfl | go_num, by rw [HNI.out, Nat.succ_mul], HVJ.out.cong (fun g hg => by simp [hg]), hbx2⟩
              case measure => simp [intOf]; omega
        · obtain rfl : i = 50 := by omega
          clear hi hi50 HNI
          obtain ⟨w7, rfl⟩ : ∃ w7, w7 = wr := ⟨_, rfl⟩
          obtain ⟨sb, hsb⟩ : ∃ sb, w7.heap.size = sb := ⟨_, rfl⟩
          have hmk := run_make_row' (P := Try.prog) 24 3 (.int .i64 0) 8 Try.underlying24 infoInt1 rfl .i64 .i64 k (by omega) (by omega)
          have HBL0 : Hid (VgL w7 sb k (.int .i64 0) ((w7.alloc (.cells (madeCells #[.int .i64 0] k) 3)).alloc (.cells (madeCells #[.int .i64 0] k) 3))) := by
            have e1 : Blk (w7.alloc (.cells (madeCells #[.int .i64 0] k) 3)) w7.heap.size k 3 (fun _ => .int .i64 0) := World.rowIs_made w7 (.int .i64 0) k 3
            have e2 : Blk ((w7.alloc (.cells (madeCells #[.int .i64 0] k) 3)).alloc (.cells (madeCells #[.int .i64 0] k) 3)) (w7.alloc (.cells (madeCells #[.int .i64 0] k) 3)).heap.size k 3 (fun _ => .int .i64 0) := World.rowIs_made _ (.int .i64 0) k 3
            have e3 : (w7.alloc (.cells (madeCells #[.int .i64 0] k) 3)).heap.size = sb + 1 := by rw [← hsb]; simp
            rw [hsb] at e1
            rw [e3] at e2
            refine ⟨0, Nat.zero_le _, rfl, e1.kept (Below.heap_alloc _ _ _ (by rw [e3]; omega)), e2.cong (fun i _ => by simp), ?_⟩
            rw [← hsb]
            exact below_alloc_ (below_alloc_ (Below.refl _ _) _) _
          go_wp2
          go_loopw [18] (fun iv wx => VgL w7 sb k iv wx) (fun i _ => k - (intOf i).toNat)
          case atStart => exact HBL0.out
          case round =>
            obtain ⟨j, hjk, rfl, hs1, hl1, hbl⟩ := hrel
            have HS1 : Hid (Blk wr sb k 3 (fun _ => .int .i64 0)) := hs1
            have HL1 : Hid (Blk wr (sb + 1) k 3 (fun g => .int .i64 (if g < j then 50 else 0))) := hl1
            have HBL : Hid (Below sb w7 wr) := hbl
            have hlbs := hl1.lt
            by_cases hj : j < k
            · obtain ⟨d1, d2⟩ := hl1.cell hj
              clear hs1 hl1 hbl
              go_wp2
              go_roundw
              case rel =>
                have hR : VgL w7 sb k (.int .i64 ((j + 1 : Nat) : Int)) (wr.setCell ⟨sb + 1, j, none⟩ (.int .i64 50)) := by
                  refine ⟨j + 1, by omega, rfl, HS1.out.kept (Below.heap_setCell _ _ _ _ (by simp)), (HL1.out.set j _).cong (fun g hg => ?_), HBL.out.setCell (p := ⟨sb + 1, j, none⟩) (by simp) _⟩
                  by_cases e : g = j
                  · subst e; rw [updC_same]; simp
                  · rw [updC_ne e]
                    by_cases e2 : g < j
                    · simp [e2, show g < j + 1 by omega]
                    · simp [e2, show ¬ g < j + 1 by omega]
                first | exact hR | exact ⟨_, hR, rfl⟩ | exact ⟨_, _, hR, rfl, rfl⟩ | exact ⟨_, _, hR, rfl, by go_num⟩
              case measure => simp [intOf]; omega
            · obtain rfl : j = k := by omega
              clear hs1 hl1 hbl hjk hj
              have HPK := pick_any tk 120 wr (by decide) (by decide)
              have hpb := pickN_bd tk 120 (by decide)
              generalize pickN tk 120 = pk at *
              have HVT : Hid (VgT wq b j Q Lm (fun _ => 0) (fun _ => 50) sb (sb + 1) wr s F) := HV.out.go (by omega) (by omega) (by omega) (fun _ _ => by decide) (by rw [hsb]; exact HBL.out) (by omega) (by omega) (by omega)
              have hlm := HV.out.lm
              go_wp2_with (go_at_call 7; refine HPK.mono ?_; rintro e w8 ⟨rfl, hw8⟩; subst hw8)
              go_loopw [19] (fun kv wx => VgK wq b j Q Lm sb kv wx) (fun kv _ => (intOf kv + 1).toNat)
              case atStart => exact ⟨pk, _, _, _, _, by omega, rfl, HVT.out, HS1.out, HL1.out.cong (fun g hg => by simp [hg]), fun g hg => by refine ⟨by decide, by decide, by decide, by omega⟩⟩
              case round =>
                obtain ⟨kk, S, c, s2, F2, hkk, rfl, hT2, hs2, hl2, hbd⟩ := hrel
                have hbwr : b ≤ wr.heap.size := by have := hT2.bel.size; have := HBZ.out; omega
                have hBW : Below w.heap.size w wq := HBR.out
                have hsbw : w.heap.size ≤ sb := by have := hBW.size; have := HBZ.out; omega
                have hsbb : b ≤ sb := by omega
                have hlb2 := hl2.lt
                by_cases hk0 : 0 ≤ kk
                · have HTK := vtake_any hT2 (by omega) hbwr hs2.lt hl2.lt
                  have HS2 : Hid (Blk wr sb j 3 (fun g => .int .i64 (S g))) := hs2
                  have HL2 : Hid (Blk wr (sb + 1) j 3 (fun g => .int .i64 (c g : Int))) := hl2
                  have HBD : Hid (∀ g, g < j → 1 ≤ c g ∧ c g ≤ 50 ∧ 0 ≤ S g ∧ S g ≤ 1500 * (120 - kk)) := hbd
                  clear hs2 hl2 hbd hT2
                  have hV := Hd.val_eq
                  go_wp2_with (go_at_call 19; fail)
                  refine HTK.mono ?_
                  rintro e w9 ⟨x, u, fl, s3, F3, rfl, hfl, hxf, hxl, hc1, hnext, hb9, hs9, hsb9, hlb9⟩
                  have HS9 : Hid (Blk w9 sb j 3 (fun g => .int .i64 (S g))) := HS2.out.kept hsb9
                  have HL9 : Hid (Blk w9 (sb + 1) j 3 (fun g => .int .i64 (c g : Int))) := HL2.out.kept hlb9
                  obtain ⟨d1, d2⟩ := HS9.out.cell hfl
                  obtain ⟨d3, d4⟩ := HL9.out.cell hfl
                  obtain ⟨q1, q2, q3, q4⟩ := HBD.out fl hfl
                  have HNX : Hid (2 ≤ c fl → VgT wq b j Q Lm (updF S fl (S fl + x.l)) (updF c fl (c fl - 1)) sb (sb + 1) w9 s3 F3) := hnext
                  have HB9 : Hid (Below b wq w9) := hb9
                  have hsb9' : sb + 1 < w9.heap.size := by omega
                  have wr1 : IntKind.i64.wrap (S fl + x.l) = S fl + x.l := by rw [IntKind.wrap_i64]; omega
                  have wr2 : IntKind.i64.wrap ((c fl : Int) - 1) = (c fl : Int) - 1 := by rw [IntKind.wrap_i64]; omega
                  have o1 : decide ((fl : Int) < 0) = false := by simp
                  have o2 : decide ((j : Int) ≤ (fl : Int)) = false := by simp only [decide_eq_false_iff_not]; omega
                  obtain ⟨X, hX⟩ : ∃ X, w9.heap.size = X := ⟨_, rfl⟩
                  have HWF : Hid (∃ W : World, w9.alloc (.cells #[.int .i64 x.a, .int .i64 x.l, .int .i64 fl, .int .i64 x.b, .int .i64 x.m, .int .i64 x.n] 41) = W ∧ (∀ k, k < X → W.heap[k]? = w9.heap[k]?) ∧ W.heap[X]? = some (.cells #[.int .i64 x.a, .int .i64 x.l, .int .i64 fl, .int .i64 x.b, .int .i64 x.m, .int .i64 x.n] 41 (0, 0)) ∧ W.heap.size = X + 1 ∧ Below X w9 W) := by
                    refine ⟨_, rfl, fun k hk => Below.heap_alloc _ _ _ (by omega), new_block_ hX.symm, by simp [hX], ?_⟩
                    rw [← hX]
                    exact below_alloc_ (Below.refl _ _) _
                  clear hnext hb9 hsb9 hlb9 HTK hs9
                  go_wp2
                  obtain ⟨W, hW, hWk, hWx, hWs, hWb⟩ := HWF.out
                  rw [hW]
                  have HWS : Hid (Blk W sb j 3 (fun g => .int .i64 (S g))) := HS9.out.kept (hWk sb (by omega))
                  have HWL : Hid (Blk W (sb + 1) j 3 (fun g => .int .i64 (c g : Int))) := HL9.out.kept (hWk (sb + 1) (by omega))
                  have HWB : Hid (Below b wq W) := HB9.out.trans (hWb.mono (by omega))
                  have HWK : Hid (∀ k, k < X → W.heap[k]? = w9.heap[k]?) := hWk
                  have HWZ : Hid (W.heap.size = X + 1) := hWs
                  have HXZ : Hid (w9.heap.size = X) := hX
                  have hWb' : Below b w9 W := hWb.mono (by omega)
                  clear d1 d2 d3 d4
                  obtain ⟨d1, d2⟩ := HWS.out.cell hfl
                  obtain ⟨d3, d4⟩ := HWL.out.cell hfl
                  have x1 : W.cell? ⟨X, 1, none⟩ = some (.int .i64 x.l) := by simp [World.cell?, hWx]
                  have x2 : W.cell? ⟨X, 2, none⟩ = some (.int .i64 fl) := by simp [World.cell?, hWx]
                  have n1 : sb < W.heap.size := by omega
                  have n2 : sb + 1 < W.heap.size := by omega
                  have n3 : X < W.heap.size := by omega
                  have n4 : ¬ X = sb := by omega
                  have n5 : ¬ X = sb + 1 := by omega
                  have n6 : ¬ sb = X := by omega
                  have n7 : ¬ sb + 1 = X := by omega
                  clear hW hWk hWx hWs hWb hX HWF hsb
                  have HW9B : Hid (Below b w9 W) := hWb'
                  have HBW2 : Hid (Below w.heap.size w W) := hBW.trans (HWB.out.mono (by have := HBZ.out; have := hBW.size; omega))
                  go_region
                  by_cases hcf : c fl = 1
                  · have z1 : ((c fl : Int) - 1 == 0) = true := by simp [hcf]
                    clear hcf
                    go_wp2
                    go_ret
                    refine ⟨rfl, ?_⟩
                    repeat' (first | with_reducible exact HBW2.out | with_reducible refine Below.drew ?_ | with_reducible refine Below.setCell ?_ ?_ _)
                    all_goals (first | exact hsbw | exact Nat.le_succ_of_le hsbw)
                  · have z1 : ((c fl : Int) - 1 == 0) = false := by simp; omega
                    have HC2 : Hid (2 ≤ c fl) := by show 2 ≤ c fl; omega
                    have HW3 : Hid (∃ W3 : World, ((W.setCell ⟨sb, fl, none⟩ (.int .i64 (S fl + x.l))).setCell ⟨sb + 1, fl, none⟩ (.int .i64 ((c fl : Int) - 1))).drew = W3 ∧ Blk W3 sb j 3 (fun g => .int .i64 (updF S fl (S fl + x.l) g)) ∧ Blk W3 (sb + 1) j 3 (fun g => .int .i64 ((updF c fl (c fl - 1) g : Nat) : Int)) ∧ VgT wq b j Q Lm (updF S fl (S fl + x.l)) (updF c fl (c fl - 1)) sb (sb + 1) W3 s3 F3) := by
                      have hbl3 : Below b w9 ((W.setCell ⟨sb, fl, none⟩ (.int .i64 (S fl + x.l))).setCell ⟨sb + 1, fl, none⟩ (.int .i64 ((c fl : Int) - 1))).drew := by
                        refine Below.drew (Below.setCell (Below.setCell ?_ (p := ⟨sb, fl, none⟩) hsbb _) (p := ⟨sb + 1, fl, none⟩) (Nat.le_succ_of_le hsbb) _)
                        exact HW9B.out
                      refine ⟨_, rfl, ?_, ?_, (HNX.out HC2.out).kept (fun k hk e1 e2 => ?_) hbl3⟩
                      · refine ((HWS.out.set fl (.int .i64 (S fl + x.l))).kept (w' := ((W.setCell ⟨sb, fl, none⟩ (.int .i64 (S fl + x.l))).setCell ⟨sb + 1, fl, none⟩ (.int .i64 ((c fl : Int) - 1))).drew) ?_).cong (fun g hg => ?_)
                        · rw [drew_heap]; exact Below.heap_setCell _ _ _ _ (by simp)
                        · by_cases e : g = fl
                          · subst e; rw [updF_same, updC_same]
                          · rw [updF_ne e, updC_ne e]
                      · have h1 : Blk (W.setCell ⟨sb, fl, none⟩ (.int .i64 (S fl + x.l))) (sb + 1) j 3 (fun g => .int .i64 (c g : Int)) := HWL.out.kept (Below.heap_setCell _ _ _ _ (by simp))
                        refine ((h1.set fl (.int .i64 ((c fl : Int) - 1))).kept (w' := ((W.setCell ⟨sb, fl, none⟩ (.int .i64 (S fl + x.l))).setCell ⟨sb + 1, fl, none⟩ (.int .i64 ((c fl : Int) - 1))).drew) (by rw [drew_heap])).cong (fun g hg => ?_)
                        by_cases e : g = fl
                        · subst e; rw [updF_same, updC_same]; congr 1; omega
                        · rw [updF_ne e, updC_ne e]
                      · rw [drew_heap, Below.heap_setCell _ _ _ _ (fun e => e2 e), Below.heap_setCell _ _ _ _ (fun e => e1 e)]
                        exact HWK.out k (by have := HXZ.out; omega)
                    clear hcf
                    go_wp2
                    obtain ⟨W3, hW3, hS3, hL3', hT3⟩ := HW3.out
                    rw [hW3]
                    have HS3 : Hid (Blk W3 sb j 3 (fun g => .int .i64 (updF S fl (S fl + x.l) g))) := hS3
                    have HL3 : Hid (Blk W3 (sb + 1) j 3 (fun g => .int .i64 ((updF c fl (c fl - 1) g : Nat) : Int))) := hL3'
                    have HT3 : Hid (VgT wq b j Q Lm (updF S fl (S fl + x.l)) (updF c fl (c fl - 1)) sb (sb + 1) W3 s3 F3) := hT3
                    have HBD3 : Hid (∀ g, g < j → 1 ≤ updF c fl (c fl - 1) g ∧ updF c fl (c fl - 1) g ≤ 50 ∧ 0 ≤ updF S fl (S fl + x.l) g ∧ updF S fl (S fl + x.l) g ≤ 1500 * (120 - (kk - 1))) := by
                      intro g hg
                      obtain ⟨t1, t2, t3, t4⟩ := HBD.out g hg
                      have t5 := HC2.out
                      by_cases e : g = fl
                      · subst e; rw [updF_same, updF_same]; omega
                      · rw [updF_ne e, updF_ne e]; omega
                    have n8 : sb < W3.heap.size := hS3.lt
                    clear hW3 hS3 hL3' hT3 HW3 d1 d2 d3 d4 x1 x2 wr1 wr2
                    generalize updF S fl (S fl + x.l) = S3 at *
                    generalize updF c fl (c fl - 1) = c3 at *
                    go_loopw [23] (fun iv wx => ∃ i n' : Nat, i ≤ j ∧ iv = .int .i64 i ∧ wx = W3.drewN n') (fun iv _ => j - (intOf iv).toNat)
                    case atStart => exact ⟨0, 0, Nat.zero_le _, rfl, rfl⟩
                    case round =>
                      obtain ⟨i, n1', hij, rfl, rfl⟩ := hrel
                      by_cases hi3 : i < j
                      · obtain ⟨a1, a2⟩ := HS3.out.cell hi3
                        obtain ⟨g1, g2, g3, g4⟩ := HQC.out W3 HT3.out.bel i hi3
                        obtain ⟨t1, t2, t3, t4⟩ := HBD3.out i hi3
                        go_wp2
                        go_loopw [24] (fun jv wx => ∃ l n' : Nat, l ≤ j ∧ jv = .int .i64 l ∧ wx = W3.drewN n') (fun jv _ => j - (intOf jv).toNat)
                        case atStart => exact ⟨0, n1', Nat.zero_le _, rfl, rfl⟩
                        case round =>
                          obtain ⟨l, n2', hlj, rfl, rfl⟩ := hrel
                          by_cases hl3 : l < j
                          · obtain ⟨b1, b2⟩ := HS3.out.cell hl3
                            obtain ⟨f1, f2, f3, f4⟩ := HQC.out W3 HT3.out.bel l hl3
                            obtain ⟨v1, v2, v3, v4⟩ := HBD3.out l hl3
                            have hnear := HT3.out.vi.near hi3 hl3
                            generalize S3 i = s1 at *
                            generalize S3 l = s2' at *
                            generalize Q i = qi at *
                            generalize Q l = ql at *
                            have m1 := mulBd t3 (show s1 ≤ 181500 by omega) (show 0 ≤ ql by omega) (show ql ≤ 2020 by omega)
                            have m2 := mulBd v3 (show s2' ≤ 181500 by omega) (show 0 ≤ qi by omega) (show qi ≤ 2020 by omega)
                            have m3 := mulBd (show 0 ≤ 2 * qi by omega) (show 2 * qi ≤ 4040 by omega) (show 0 ≤ ql by omega) (show ql ≤ 2020 by omega)
                            have m4 := mulBd hlm.1 hlm.2 (show 0 ≤ qi + ql by omega) (show qi + ql ≤ 4040 by omega)
                            have k1 : IntKind.i64.wrap (s1 * ql) = s1 * ql := by rw [IntKind.wrap_i64]; omega
                            have k2 : IntKind.i64.wrap (s2' * qi) = s2' * qi := by rw [IntKind.wrap_i64]; omega
                            have k3 : IntKind.i64.wrap (s1 * ql - s2' * qi) = s1 * ql - s2' * qi := by rw [IntKind.wrap_i64]; omega
                            have k4 : IntKind.i64.wrap (2 * qi) = 2 * qi := by rw [IntKind.wrap_i64]; omega
                            have k5 : IntKind.i64.wrap (2 * qi * ql) = 2 * qi * ql := by rw [IntKind.wrap_i64]; omega
                            have k6 : IntKind.i64.wrap (qi + ql) = qi + ql := by rw [IntKind.wrap_i64]; omega
                            have k7 : IntKind.i64.wrap (Lm * (qi + ql)) = Lm * (qi + ql) := by rw [IntKind.wrap_i64]; omega
                            have k8 : IntKind.i64.wrap (2 * qi * ql + Lm * (qi + ql)) = 2 * qi * ql + Lm * (qi + ql) := by rw [IntKind.wrap_i64]; omega
                            have k9 : decide (2 * qi * ql + Lm * (qi + ql) ≤ s1 * ql - s2' * qi) = false := by simp only [decide_eq_false_iff_not]; omega
                            clear m1 m2 m3 m4 hnear
                            go_wp2
                            go_quiet (fail)
                            go_wp2
                            go_roundw
                            case rel => exact ⟨l + 1, _, by omega, by go_num, by first | rfl | trivial⟩
                            case measure => simp [intOf]; omega
                          · obtain rfl : l = j := by omega
                            go_wp2
                            go_roundw
                            case rel => exact ⟨i + 1, _, by omega, by go_num, by first | rfl | trivial⟩
                            case measure => simp [intOf]; omega
                      · obtain rfl : i = j := by omega
                        have hRK : VgK wq b i Q Lm sb (.int .i64 (kk - 1)) (W3.drewN n1') := ⟨kk - 1, S3, c3, s3, F3, by omega, rfl, HT3.out.kept (fun _ _ _ _ => rfl) (below_drewN_ (Below.refl _ _) _), HS3.out.kept rfl, HL3.out.kept rfl, HBD3.out⟩
                        go_wp2
                        go_roundw
                        case rel => first | exact hRK | exact ⟨_, hRK, rfl⟩ | exact ⟨_, _, hRK, rfl, rfl⟩ | exact ⟨_, _, hRK, rfl, by go_num⟩
                        case measure => simp [intOf]; omega
                · go_wp2
                  go_ret
                  exact ⟨rfl, hBW.trans (hT2.bel.mono (by have := HBZ.out; have := hBW.size; omega))⟩
end Go.Proofs.Ytddikjhpacdciaa
