/-
  millraceref.Two, walked: in new memory each packet's color by two buckets; nothing that was there before is otherwise. Conditions: two buckets that may be; packets that may be lie in memory.
-/
import Derived.Test.YtnppmigncjakeaaGreatDoorCfW
namespace Go.Proofs.YtnppmigncjakeaaGreatDoor
open Go.RowKit Go.Deep

theorem infoIntB : (Tryz.prog.info? 3).map (fun i => (i.zero, i.size, i.bytes)) = some (some (.int .i64 0), 1, 8) := by kernel_rfl
def isI (u : Value) : Prop := ∃ c, u = .int .i64 c
theorem isI_slice (x : Option Addr) (n c : Nat) : ¬ isI (.slice x n c) := by rintro ⟨c, h⟩; simp at h
theorem isI_u32 (u : Int) : ¬ isI (.int .u32 u) := by rintro ⟨c, h⟩; simp at h
theorem isI_ptr (a : Option Addr) : ¬ isI (.pointer a) := by rintro ⟨c, h⟩; simp at h
def Its (w : World) (v : Value) (l : List Int) : Prop := Prw isI w 3 v (l.map (Value.int .i64))
def twcL (n t R n2 t2 R2 : Int) (xs : List It) (k : Nat) : List Int := (List.range k).map (twc n t R n2 t2 R2 xs)
theorem twcL_succ (n t R n2 t2 R2 : Int) (xs : List It) (k : Nat) : twcL n t R n2 t2 R2 xs (k + 1) = twcL n t R n2 t2 R2 xs k ++ [twc n t R n2 t2 R2 xs k] := by simp [twcL, List.range_succ]
theorem twcL_length (n t R n2 t2 R2 : Int) (xs : List It) (k : Nat) : (twcL n t R n2 t2 R2 xs k).length = k := by simp [twcL]
/-- Ints stay where a Filled is written. -/
theorem Its.fil {w w' : World} {f : Nat} {n t R lev lat : Int} {v : Value} {l : List Int} (h : Its w v l) (hf : FilAt w f n t R lev lat) (ho : Oth (· = f) w w') : Its w' v l := by
  obtain ⟨p, hf, _⟩ := hf
  have hne := Prw.other h (b := f) (o := 4) (u := .pointer (some ⟨p, 0, none⟩)) (by simp [World.cell?, hf]) (isI_ptr _)
  exact Prw.kept h fun b hb => ho.block b (Prw.lt h hb) (fun e => hne (e ▸ hb))
/-- A Filled stays where ints are appended. -/
theorem FilAt.grownI {w W w' : World} {f : Nat} {n t R lev lat : Int} {v : Value} {l : List Int} (h : FilAt w f n t R lev lat) (hW : Below w.heap.size w W) (hr : Its w v l) (hg : W.grownBy w' v.ownBlock) : FilAt w' f n t R lev lat := by
  obtain ⟨p, hf, hp⟩ := h
  have hne := Prw.other hr (b := f) (o := 4) (u := .pointer (some ⟨p, 0, none⟩)) (by simp [World.cell?, hf]) (isI_ptr _)
  have hl := lt_of_block hf
  exact ⟨p, ((hg.block _ (Nat.lt_of_lt_of_le hl hW.size) (fun e => hne e.symm)).trans (hW.block _ hl)).trans hf, hp.grown hW hr hg isI_slice isI_u32⟩
/-- A Filled stays where another one is written. -/
theorem FilAt.other {w w' : World} {f f2 : Nat} {n t R lev lat n2 t2 R2 lev2 lat2 : Int} (h : FilAt w f n t R lev lat) (h2 : FilAt w f2 n2 t2 R2 lev2 lat2) (hne : ¬ f = f2) (ho : Oth (· = f2) w w') : FilAt w' f n t R lev lat := by
  obtain ⟨p, hf, hp⟩ := h
  obtain ⟨p2, hf2, _⟩ := h2
  exact ⟨p, (ho.block f (lt_of_block hf) hne).trans hf, hp.oth hf2 fil_kind ho⟩
theorem cell_oth {wa wt : World} {f b : Nat} (ho : Oth (· = f) wa wt) (hb : b < wa.heap.size) (hne : ¬ b = f) (o : Nat) : wt.cell? ⟨b, o, none⟩ = wa.cell? ⟨b, o, none⟩ := World.cell?_of_block (a := ⟨b, o, none⟩) (ho.block b hb hne)

set_option maxRecDepth 20000 in
set_option maxHeartbeats 8000000 in
theorem rtwo_any (n t R n2 t2 R2 : Int) (x : Option Addr) (cap : Nat) (xs : List It) (w : World) (hb : okB n t R) (hb2 : okB n2 t2 R2) (hl : okL xs) (hI : ItemsAt w x xs) :
    Calls Tryz.prog 21 #[.agg #[.int .i64 n, .int .i64 t, .int .i64 R], .agg #[.int .i64 n2, .int .i64 t2, .int .i64 R2], .slice x xs.length cap] w fun e w' => ∃ v, e = .returned v ∧ Its w' v (twcL n t R n2 t2 R2 xs xs.length) ∧ Below w.heap.size w w' := by
  obtain ⟨hF, h100⟩ := hl.fine
  have HOK : Hid (okB n t R ∧ okB n2 t2 R2) := ⟨hb, hb2⟩
  have HF : Hid (Fine xs) := hF
  have HI : Hid (ItemsAt w x xs) := hI
  have HN : Hid ((1 ≤ n ∧ n ≤ 1000000) ∧ (1 ≤ t ∧ t ≤ 1000000) ∧ 0 ≤ R ∧ R ≤ 1000000) := hb
  have HN2 : Hid ((1 ≤ n2 ∧ n2 ≤ 1000000) ∧ (1 ≤ t2 ∧ t2 ≤ 1000000) ∧ 0 ≤ R2 ∧ R2 ≤ 1000000) := hb2
  obtain ⟨m, hm⟩ : ∃ m, xs.length = m := ⟨_, rfl⟩
  have HM : Hid (xs.length = m) := hm
  rw [hm] at h100 ⊢
  have HB0 : Hid (Below w.heap.size w ((w.alloc (.cells #[.int .i64 n, .int .i64 t, .int .i64 R] 34)).alloc (.cells #[.int .i64 n2, .int .i64 t2, .int .i64 R2] 34))) := ((Below.refl _ _).alloc (Nat.le_refl _) _).alloc (by simp) _
  have HC0 : Hid (((w.alloc (.cells #[.int .i64 n, .int .i64 t, .int .i64 R] 34)).alloc (.cells #[.int .i64 n2, .int .i64 t2, .int .i64 R2] 34)).heap[w.heap.size]? = some (.cells #[.int .i64 n, .int .i64 t, .int .i64 R] 34 (0, 0))) := (Below.heap_alloc _ _ _ (by simp)).trans (heap_alloc_new _ _)
  have HC1 : Hid (((w.alloc (.cells #[.int .i64 n, .int .i64 t, .int .i64 R] 34)).alloc (.cells #[.int .i64 n2, .int .i64 t2, .int .i64 R2] 34)).heap[w.heap.size + 1]? = some (.cells #[.int .i64 n2, .int .i64 t2, .int .i64 R2] 34 (0, 0))) := by
    have h := heap_alloc_new (w.alloc (.cells #[.int .i64 n, .int .i64 t, .int .i64 R] 34)) (.cells #[.int .i64 n2, .int .i64 t2, .int .i64 R2] 34)
    simpa [Hid] using h
  have HU : Hid True := trivial
  obtain ⟨i0, hi, hz0, hz1, hz2⟩ := info_parts infoIntB
  clear hb hb2 hl hI hF hm
  go_enter Tryz.func21, Tryz.ntmps21
  go_wp2_with fail
  generalize (w.alloc (.cells #[.int .i64 n, .int .i64 t, .int .i64 R] 34)).alloc (.cells #[.int .i64 n2, .int .i64 t2, .int .i64 R2] 34) = w0 at *
  have HK : Hid (∀ W : World, Below w0.heap.size w0 W → (W.cell? ⟨w.heap.size, 0, none⟩ = some (.int .i64 n) ∧ W.cell? ⟨w.heap.size, 1, none⟩ = some (.int .i64 t) ∧ W.cell? ⟨w.heap.size, 2, none⟩ = some (.int .i64 R)) ∧ W.cell? ⟨w.heap.size + 1, 0, none⟩ = some (.int .i64 n2) ∧ W.cell? ⟨w.heap.size + 1, 1, none⟩ = some (.int .i64 t2) ∧ W.cell? ⟨w.heap.size + 1, 2, none⟩ = some (.int .i64 R2)) := by
    intro W hW
    have h0 := (hW.block _ (lt_of_block HC0.out)).trans HC0.out
    have h1 := (hW.block _ (lt_of_block HC1.out)).trans HC1.out
    refine ⟨⟨?_, ?_, ?_⟩, ?_, ?_, ?_⟩ <;> simp [World.cell?, h0, h1]
  obtain ⟨⟨c0, c1, c2⟩, c3, c4, c5⟩ := HK.out w0 (Below.refl _ _)
  go_region_held3 (fun W => (W.cell? ⟨w.heap.size, 0, none⟩ = some (.int .i64 n) ∧ W.cell? ⟨w.heap.size, 1, none⟩ = some (.int .i64 t) ∧ W.cell? ⟨w.heap.size, 2, none⟩ = some (.int .i64 R)) ∧ W.cell? ⟨w.heap.size + 1, 0, none⟩ = some (.int .i64 n2) ∧ W.cell? ⟨w.heap.size + 1, 1, none⟩ = some (.int .i64 t2) ∧ W.cell? ⟨w.heap.size + 1, 2, none⟩ = some (.int .i64 R2)) (first | (with_reducible exact HK.out _ H2.out.2.2.2.2) | (with_reducible exact HK.out _ H1.out.2.2) | (with_reducible exact HK.out _ (Below.refl _ _).drew) | exact HK.out _ (Below.refl _ _))
    (first
      | (go_at_call 24; have hu := HU.out; clear hu HU; refine (newFilled_any n t R _ HN.out.2.2 HN.out.2.1.1).mono ?_; rintro e w1 ⟨fc, rfl, hf1, h1, l1⟩; have H1 : Hid (FilAt w1 fc n t R (R * t) 0 ∧ w0.heap.size ≤ fc ∧ Below w0.heap.size w0 w1) := ⟨h1, hf1, (Below.refl _ _).drew.trans l1⟩; clear h1 hf1 l1)
      | (go_at_call 24; refine (newFilled_any n2 t2 R2 _ HN2.out.2.2 HN2.out.2.1.1).mono ?_; rintro e w2 ⟨fp, rfl, hf2, h2, l2⟩; have H2 : Hid (FilAt w2 fp n2 t2 R2 (R2 * t2) 0 ∧ FilAt w2 fc n t R (R * t) 0 ∧ fc < fp ∧ w0.heap.size ≤ fc ∧ Below w0.heap.size w0 w2) := ⟨h2, H1.out.1.below l2, Nat.lt_of_lt_of_le H1.out.1.lt hf2, H1.out.2.1, H1.out.2.2.trans (l2.mono H1.out.2.2.size)⟩; clear h2 hf2 l2))
  all_goals
    have HFC : Hid (w.heap.size ≤ fc ∧ fc < fp) := ⟨Nat.le_trans HB0.out.size H2.out.2.2.2.1, H2.out.2.2.1⟩
    have HFL : Hid (FilAt w2 fc n t R (R * t) 0 ∧ FilAt w2 fp n2 t2 R2 (R2 * t2) 0) := ⟨H2.out.2.1, H2.out.1⟩
    have HB1 : Hid (Below w.heap.size w w2) := HB0.out.trans (H2.out.2.2.2.2.mono HB0.out.size)
    clear H2 H1 HB0 HC0 HC1 HK c0 c1 c2 c3 c4 c5
    go_wp2
    go_loopw [9, 19] (fun ov i wr => ∃ k : Nat, k ≤ m ∧ i = .int .i64 k ∧ FilAt wr fc n t R (tst n t R n2 t2 R2 xs k).1 (tst n t R n2 t2 R2 xs k).2 ∧ FilAt wr fp n2 t2 R2 (bst n2 t2 R2 xs k).1 (bst n2 t2 R2 xs k).2 ∧ Its wr ov (twcL n t R n2 t2 R2 xs k) ∧ (∀ b, ov.ownBlock = some b → w.heap.size ≤ b) ∧ Below w.heap.size w wr) (fun _ i _ => m - (intOf i).toNat)
    case atStart => exact ⟨0, Nat.zero_le _, rfl, HFL.out.1, HFL.out.2, Prw.nil _ _ _, fun b hb => by simp [Value.ownBlock] at hb, HB1.out⟩
    case round =>
      obtain ⟨k, hkm, rfl, hfc, hfp, hbl, hon, hbe⟩ := hrel
      have HR1 : Hid (FilAt wr fc n t R (tst n t R n2 t2 R2 xs k).1 (tst n t R n2 t2 R2 xs k).2) := hfc
      have HR2 : Hid (FilAt wr fp n2 t2 R2 (bst n2 t2 R2 xs k).1 (bst n2 t2 R2 xs k).2) := hfp
      have HBL : Hid (Its wr u9 (twcL n t R n2 t2 R2 xs k)) := hbl
      have HON : Hid (∀ b, u9.ownBlock = some b → w.heap.size ≤ b) := hon
      have HBE : Hid (Below w.heap.size w wr) := hbe
      have hsz := hbe.size
      clear hfc hfp hbl hon hbe
      by_cases hlt : k < m
      · obtain ⟨y, hy⟩ : ∃ y, xs[k]? = some y := ⟨_, List.getElem?_eq_getElem (by rw [HM.out]; exact hlt)⟩
        have hfy := (HF.out k y hy).1
        have HYB : Hid ((0 ≤ y.a ∧ y.a ≤ 1000000000) ∧ 0 ≤ y.l ∧ y.l ≤ 1000000) := ⟨⟨hfy.1, hfy.2.1⟩, by omega, by omega⟩
        have HLV : Hid (0 ≤ (bst n2 t2 R2 xs k).1 ∧ (bst n2 t2 R2 xs k).1 ≤ R2 * t2) := bst_lev HF.out HN2.out.1.1 HN2.out.2.1.1 HN2.out.2.2.1 k (by rw [HM.out]; omega)
        have HLT : Hid (0 ≤ (bst n2 t2 R2 xs k).2) := (bst_lat (n := n2) (t := t2) (R := R2) HF.out k (by rw [HM.out]; omega)).1.1
        have HPB : Hid (0 ≤ pas n2 t2 R2 (bst n2 t2 R2 xs k).1 (bst n2 t2 R2 xs k).2 y.a ∧ pas n2 t2 R2 (bst n2 t2 R2 xs k).1 (bst n2 t2 R2 xs k).2 y.a ≤ R2 * t2) := pas_bounds HF.out HN2.out.1.1 HN2.out.2.1.1 HN2.out.2.2.1 hy
        have HBK : Hid (bok n2 t2 R2 xs k = decide (y.l * t2 ≤ pas n2 t2 R2 (bst n2 t2 R2 xs k).1 (bst n2 t2 R2 xs k).2 y.a)) := bok_at hy
        have HBS : Hid (bst n2 t2 R2 xs (k + 1) = (if y.l * t2 ≤ pas n2 t2 R2 (bst n2 t2 R2 xs k).1 (bst n2 t2 R2 xs k).2 y.a then pas n2 t2 R2 (bst n2 t2 R2 xs k).1 (bst n2 t2 R2 xs k).2 y.a - y.l * t2 else pas n2 t2 R2 (bst n2 t2 R2 xs k).1 (bst n2 t2 R2 xs k).2 y.a, lat1 (bst n2 t2 R2 xs k).2 y.a)) := bst_succ hy
        have HTV : Hid (0 ≤ (tst n t R n2 t2 R2 xs k).1 ∧ (tst n t R n2 t2 R2 xs k).1 ≤ R * t) := tst_lev HF.out HN.out.1.1 HN.out.2.1.1 HN.out.2.2.1 k (by rw [HM.out]; omega)
        have HTL : Hid (0 ≤ (tst n t R n2 t2 R2 xs k).2) := (tst_lat HF.out k (by rw [HM.out]; omega)).1
        have HTS := tst_succ (n := n) (t := t) (R := R) (n2 := n2) (t2 := t2) (R2 := R2) hy
        have HTC := twc_at (n := n) (t := t) (R := R) (n2 := n2) (t2 := t2) (R2 := R2) hy
        obtain ⟨T1, hT1⟩ : ∃ T1, tst n t R n2 t2 R2 xs k = T1 := ⟨_, rfl⟩
        rw [hT1] at HTV HTL HTS HTC HR1
        have HPT : Hid (0 ≤ pas n t R T1.1 T1.2 y.a ∧ pas n t R T1.1 T1.2 y.a ≤ R * t) := by
          have h1 := HTV.out
          have h2 := HTL.out
          have h3 := HN.out
          by_cases e1 : y.a ≤ T1.2
          · show _ ∧ _; rw [pas, if_pos e1]; exact h1
          · have h5 : 0 ≤ (y.a - T1.2) * n := Int.mul_nonneg (by omega) (by omega)
            show _ ∧ _
            rw [pas, if_neg e1]
            split
            · exact ⟨by omega, by assumption⟩
            · exact ⟨Int.mul_nonneg (by omega) (by omega), Int.le_refl _⟩
        obtain ⟨V1, hV1⟩ : ∃ V1, pas n t R T1.1 T1.2 y.a = V1 := ⟨_, rfl⟩
        have HV1 : Hid (pas n t R T1.1 T1.2 y.a = V1) := hV1
        rw [hV1] at HTS HTC
        obtain ⟨yb, yo, hxe, hIt⟩ : ∃ yb yo, x = some ⟨yb, yo, none⟩ ∧ Items w yb yo xs := by
          rcases HI.out with h | ⟨b, off, e, h⟩
          · rw [h] at hy; simp at hy
          · exact ⟨b, off, e, h⟩
        subst hxe
        obtain ⟨k0, k1, k2, k3, k4⟩ := (hIt.below HBE.out) k y hy
        have hybl := lt_of_cell k0
        simp only at hybl
        have hlc : (twcL n t R n2 t2 R2 xs k).length = k := twcL_length _ _ _ _ _ _ _ _
        have HWI : Hid (Below wr.heap.size wr (wr.alloc (.cells #[.int .i64 y.a, .int .i64 y.l, .int .i64 y.f, .int .i64 y.b, .int .i64 y.m] 61))) := (Below.refl _ _).alloc (Nat.le_refl _) _
        have HIT : Hid (∀ W, Oth (· = fp) (wr.alloc (.cells #[.int .i64 y.a, .int .i64 y.l, .int .i64 y.f, .int .i64 y.b, .int .i64 y.m] 61)) W → W.cell? ⟨wr.heap.size, 0, none⟩ = some (.int .i64 y.a) ∧ W.cell? ⟨wr.heap.size, 1, none⟩ = some (.int .i64 y.l)) := by
          intro W hW
          have hlp := HR2.out.lt
          exact ⟨(cell_oth hW (by simp) (by omega) 0).trans (by simp [go_sem]), (cell_oth hW (by simp) (by omega) 1).trans (by simp [go_sem])⟩
        have HBT : Hid (∀ W, Oth (· = fp) (wr.alloc (.cells #[.int .i64 y.a, .int .i64 y.l, .int .i64 y.f, .int .i64 y.b, .int .i64 y.m] 61)) W → Below w.heap.size w W) := fun W hot => HBE.out.trans ((HWI.out.mono hsz).trans (hot.below (by have := HWI.out.size; omega) (fun j hj => by have := HFC.out; omega)))
        clear hy hfy hIt hT1 hV1
        cases hbk : bok n2 t2 R2 xs k with
        | false =>
          rw [hbk] at HTS HTC HBK
          simp only [Bool.false_eq_true, if_false] at HTS HTC
          have HTS' : Hid (tst n t R n2 t2 R2 xs (k + 1) = T1) := HTS
          have HTC' : Hid (twc n t R n2 t2 R2 xs k = 3) := HTC
          clear HTS HTC hbk
          go_wp2_with (go_at_call 25; refine (ftake_any y.a y.l _ (HR2.out.below HWI.out) HOK.out.2 HLV.out.1 HLV.out.2 HLT.out HYB.out.1.2 HYB.out.2 HPB.out).mono ?_; rw [← HBK.out]; rintro e wt ⟨rfl, hft, hot⟩; have HFT : Hid (FilAt wt fp n2 t2 R2 (bst n2 t2 R2 xs (k + 1)).1 (bst n2 t2 R2 xs (k + 1)).2) := (by show FilAt _ _ _ _ _ _ _; rw [HBS.out]; exact hft); have HFU : Hid (FilAt wt fc n t R T1.1 T1.2) := FilAt.other (HR1.out.below HWI.out) (HR2.out.below HWI.out) (by have := HFC.out; omega) hot; have HRT : Hid (Its wt u9 (twcL n t R n2 t2 R2 xs k)) := (Its.fil (Prw.below HBL.out HWI.out) (HR2.out.below HWI.out) hot); have HWT : Hid (Below w.heap.size w wt) := HBT.out _ hot; clear hft hot; go_wp2_with (at_builtin; refine wpList_append_prw (K := isI) _ rfl (.tmp 35) (.tmp 37) 43 rfl 3 i0 _ 8 Tryz.underlying43 hi hz0 hz1 hz2 rfl ⟨0, rfl⟩ _ _ rfl (Prw.below HRT.out ((Below.refl _ _).alloc (Nat.le_refl _) _)) ⟨wt.heap.size, 0, none⟩ 1 (.int .i64 3) rfl (by simp) rfl ⟨_, rfl⟩ (by simp [hlc]; unfold maxLen; omega) (by simp [hlc]; omega) ?_; intro v8 w8 hs8 hg8 ha8))
          go_roundw
          case rel =>
            have hA8 : Below wt.heap.size wt (wt.alloc (.cells #[.int .i64 3] 3)) := (Below.refl _ _).alloc (Nat.le_refl _) _
            have hwt := HWT.out.size
            refine ⟨k + 1, by omega, by go_num, ?_, ?_, ?_, ?_, ?_⟩
            · rw [HTS'.out]; exact HFU.out.grownI hA8 HRT.out hg8
            · exact HFT.out.grownI hA8 HRT.out hg8
            · unfold Its; rw [twcL_succ, List.map_append, HTC'.out]; exact hs8
            · intro b hb
              rcases ha8 with h | h
              · exact HON.out b (h ▸ hb)
              · rw [h] at hb; simp at hb; omega
            · exact (HWT.out.trans (hA8.mono hwt)).grown hg8 (by simp; omega) HON.out
          case measure => simp [intOf]; omega
        | true =>
          rw [hbk] at HTS HTC HBK
          simp only [if_true] at HTS HTC
          clear hbk
          obtain ⟨cv, hcv⟩ : ∃ cv : Int, (if y.l * t ≤ V1 then (1 : Int) else 2) = cv := ⟨_, rfl⟩
          rw [hcv] at HTC
          have HTC' : Hid (twc n t R n2 t2 R2 xs k = cv) := HTC
          have HTS' : Hid (tst n t R n2 t2 R2 xs (k + 1) = (if y.l * t ≤ V1 then V1 - y.l * t else V1, lat1 T1.2 y.a)) := HTS
          clear HTS HTC
          have HD1 : Hid (∃ d1, decide (y.l * t ≤ V1) = d1 ∧ cv = if d1 then 1 else 2) := ⟨_, rfl, by rw [← hcv]; simp⟩
          clear hcv
          obtain ⟨d1, hd1, hcv⟩ := HD1.out
          have HDE : Hid (decide (y.l * t ≤ V1) = d1) := hd1
          clear hd1 HD1
          cases d1 with
          | true =>
            simp only [if_true] at hcv
            subst hcv
            go_wp2_with (go_at_call 25; refine (ftake_any y.a y.l _ (HR2.out.below HWI.out) HOK.out.2 HLV.out.1 HLV.out.2 HLT.out HYB.out.1.2 HYB.out.2 HPB.out).mono ?_; rw [← HBK.out]; rintro e wt ⟨rfl, hft, hot⟩; have HFT : Hid (FilAt wt fp n2 t2 R2 (bst n2 t2 R2 xs (k + 1)).1 (bst n2 t2 R2 xs (k + 1)).2) := (by show FilAt _ _ _ _ _ _ _; rw [HBS.out]; exact hft); have HFU : Hid (FilAt wt fc n t R T1.1 T1.2) := FilAt.other (HR1.out.below HWI.out) (HR2.out.below HWI.out) (by have := HFC.out; omega) hot; have HRT : Hid (Its wt u9 (twcL n t R n2 t2 R2 xs k)) := (Its.fil (Prw.below HBL.out HWI.out) (HR2.out.below HWI.out) hot); have HWT : Hid (Below w.heap.size w wt) := HBT.out _ hot; obtain ⟨k5, k6⟩ := HIT.out _ hot; clear hft hot; go_wp2_with (go_at_call 25; refine (ftake_any y.a y.l _ HFU.out HOK.out.1 HTV.out.1 HTV.out.2 HTL.out HYB.out.1.2 HYB.out.2 HPT.out).mono ?_; rw [HV1.out, HDE.out]; rintro e wu ⟨rfl, hfu, hou⟩; have HGC : Hid (FilAt wu fc n t R (tst n t R n2 t2 R2 xs (k + 1)).1 (tst n t R n2 t2 R2 xs (k + 1)).2) := (by show FilAt _ _ _ _ _ _ _; rw [HTS'.out]; exact hfu); have HGP : Hid (FilAt wu fp n2 t2 R2 (bst n2 t2 R2 xs (k + 1)).1 (bst n2 t2 R2 xs (k + 1)).2) := FilAt.other HFT.out HFU.out (by have := HFC.out; omega) hou; have HRU : Hid (Its wu u9 (twcL n t R n2 t2 R2 xs k)) := (Its.fil HRT.out HFU.out hou); have HWU : Hid (Below w.heap.size w wu) := HWT.out.trans (hou.below HWT.out.size (fun j hj => by have := HFC.out; omega)); clear hfu hou; go_wp2_with (at_builtin; refine wpList_append_prw (K := isI) _ rfl (.tmp 35) (.tmp 37) 43 rfl 3 i0 _ 8 Tryz.underlying43 hi hz0 hz1 hz2 rfl ⟨0, rfl⟩ _ _ rfl (Prw.below HRU.out ((Below.refl _ _).alloc (Nat.le_refl _) _)) ⟨wu.heap.size, 0, none⟩ 1 (.int .i64 1) rfl (by simp) rfl ⟨_, rfl⟩ (by simp [hlc]; unfold maxLen; omega) (by simp [hlc]; omega) ?_; intro v8 w8 hs8 hg8 ha8)))
            go_roundw
            case rel =>
              have hA8 : Below wu.heap.size wu (wu.alloc (.cells #[.int .i64 1] 3)) := (Below.refl _ _).alloc (Nat.le_refl _) _
              have hwt := HWU.out.size
              refine ⟨k + 1, by omega, by go_num, ?_, ?_, ?_, ?_, ?_⟩
              · exact HGC.out.grownI hA8 HRU.out hg8
              · exact HGP.out.grownI hA8 HRU.out hg8
              · unfold Its; rw [twcL_succ, List.map_append, HTC'.out]; exact hs8
              · intro b hb
                rcases ha8 with h | h
                · exact HON.out b (h ▸ hb)
                · rw [h] at hb; simp at hb; omega
              · exact (HWU.out.trans (hA8.mono hwt)).grown hg8 (by simp; omega) HON.out
            case measure => simp [intOf]; omega
          | false =>
            simp only [Bool.false_eq_true, if_false] at hcv
            subst hcv
            go_wp2_with (go_at_call 25; refine (ftake_any y.a y.l _ (HR2.out.below HWI.out) HOK.out.2 HLV.out.1 HLV.out.2 HLT.out HYB.out.1.2 HYB.out.2 HPB.out).mono ?_; rw [← HBK.out]; rintro e wt ⟨rfl, hft, hot⟩; have HFT : Hid (FilAt wt fp n2 t2 R2 (bst n2 t2 R2 xs (k + 1)).1 (bst n2 t2 R2 xs (k + 1)).2) := (by show FilAt _ _ _ _ _ _ _; rw [HBS.out]; exact hft); have HFU : Hid (FilAt wt fc n t R T1.1 T1.2) := FilAt.other (HR1.out.below HWI.out) (HR2.out.below HWI.out) (by have := HFC.out; omega) hot; have HRT : Hid (Its wt u9 (twcL n t R n2 t2 R2 xs k)) := (Its.fil (Prw.below HBL.out HWI.out) (HR2.out.below HWI.out) hot); have HWT : Hid (Below w.heap.size w wt) := HBT.out _ hot; obtain ⟨k5, k6⟩ := HIT.out _ hot; clear hft hot; go_wp2_with (go_at_call 25; refine (ftake_any y.a y.l _ HFU.out HOK.out.1 HTV.out.1 HTV.out.2 HTL.out HYB.out.1.2 HYB.out.2 HPT.out).mono ?_; rw [HV1.out, HDE.out]; rintro e wu ⟨rfl, hfu, hou⟩; have HGC : Hid (FilAt wu fc n t R (tst n t R n2 t2 R2 xs (k + 1)).1 (tst n t R n2 t2 R2 xs (k + 1)).2) := (by show FilAt _ _ _ _ _ _ _; rw [HTS'.out]; exact hfu); have HGP : Hid (FilAt wu fp n2 t2 R2 (bst n2 t2 R2 xs (k + 1)).1 (bst n2 t2 R2 xs (k + 1)).2) := FilAt.other HFT.out HFU.out (by have := HFC.out; omega) hou; have HRU : Hid (Its wu u9 (twcL n t R n2 t2 R2 xs k)) := (Its.fil HRT.out HFU.out hou); have HWU : Hid (Below w.heap.size w wu) := HWT.out.trans (hou.below HWT.out.size (fun j hj => by have := HFC.out; omega)); clear hfu hou; go_wp2_with (at_builtin; refine wpList_append_prw (K := isI) _ rfl (.tmp 35) (.tmp 37) 43 rfl 3 i0 _ 8 Tryz.underlying43 hi hz0 hz1 hz2 rfl ⟨0, rfl⟩ _ _ rfl (Prw.below HRU.out ((Below.refl _ _).alloc (Nat.le_refl _) _)) ⟨wu.heap.size, 0, none⟩ 1 (.int .i64 2) rfl (by simp) rfl ⟨_, rfl⟩ (by simp [hlc]; unfold maxLen; omega) (by simp [hlc]; omega) ?_; intro v8 w8 hs8 hg8 ha8)))
            go_roundw
            case rel =>
              have hA8 : Below wu.heap.size wu (wu.alloc (.cells #[.int .i64 2] 3)) := (Below.refl _ _).alloc (Nat.le_refl _) _
              have hwt := HWU.out.size
              refine ⟨k + 1, by omega, by go_num, ?_, ?_, ?_, ?_, ?_⟩
              · exact HGC.out.grownI hA8 HRU.out hg8
              · exact HGP.out.grownI hA8 HRU.out hg8
              · unfold Its; rw [twcL_succ, List.map_append, HTC'.out]; exact hs8
              · intro b hb
                rcases ha8 with h | h
                · exact HON.out b (h ▸ hb)
                · rw [h] at hb; simp at hb; omega
              · exact (HWU.out.trans (hA8.mono hwt)).grown hg8 (by simp; omega) HON.out
            case measure => simp [intOf]; omega
      · obtain rfl : k = m := by omega
        go_wp2
        go_ret
        exact ⟨_, rfl, HBL.out, HBE.out⟩
end Go.Proofs.YtnppmigncjakeaaGreatDoor
