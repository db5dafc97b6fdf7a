/-
  millraceref.Conform, walked: in new memory which packets conform; nothing that was there before is otherwise. Conditions: a bucket that may be; packets that may be lie in memory.
-/
import Derived.Test.YtnppmigncjakeaaGreatDoorCfT
import Derived.Test.YtnppmigncjakeaaGreatDoorCeR
namespace Go.Proofs.YtnppmigncjakeaaGreatDoor
open Go.RowKit Go.Deep

def bokL (n t R : Int) (xs : List It) (k : Nat) : List Bool := (List.range k).map (bok n t R xs)
theorem bokL_succ (n t R : Int) (xs : List It) (k : Nat) : bokL n t R xs (k + 1) = bokL n t R xs k ++ [bok n t R xs k] := by simp [bokL, List.range_succ]
theorem bokL_length (n t R : Int) (xs : List It) (k : Nat) : (bokL n t R xs k).length = k := by simp [bokL]
theorem isB_int (k : Int) : ¬ isB (.int .i64 k) := by rintro ⟨c, h⟩; simp at h
/-- Bools stay where a Filled is written. -/
theorem bls_fil {w w' : World} {f p : Nat} {n t R lat : Int} {v : Value} {l : List Bool} (h : Bls w v l) (hf : w.heap[f]? = some (.cells #[.int .i64 n, .int .i64 t, .int .i64 R, .int .i64 lat, .pointer (some ⟨p, 0, none⟩)] 87 (0, 0))) (ho : Oth (· = f) w w') : Bls w' v l := by
  have hne := Prw.other h (b := f) (o := 0) (u := .int .i64 n) (by simp [World.cell?, hf]) (isB_int n)
  exact Prw.kept h fun b hb => ho.block b (Prw.lt h hb) (fun e => hne (e ▸ hb))
/-- A Filled stays where bools are appended. -/
theorem FilAt.grown {w W w' : World} {f : Nat} {n t R lev lat : Int} {v : Value} {l : List Bool} (h : FilAt w f n t R lev lat) (hW : Below w.heap.size w W) (hr : Bls w v l) (hg : W.grownBy w' v.ownBlock) : FilAt w' f n t R lev lat := by
  obtain ⟨p, hf, hp⟩ := h
  have hne := Prw.other hr (b := f) (o := 0) (u := .int .i64 n) (by simp [World.cell?, hf]) (isB_int n)
  have hl := lt_of_block hf
  exact ⟨p, ((hg.block _ (Nat.lt_of_lt_of_le hl hW.size) (fun e => hne e.symm)).trans (hW.block _ hl)).trans hf, hp.grown hW hr hg isB_slice isB_u32⟩

set_option maxRecDepth 20000 in
set_option maxHeartbeats 4000000 in
theorem rconform_any (n t R : Int) (x : Option Addr) (cap : Nat) (xs : List It) (w : World) (hb : okB n t R) (hl : okL xs) (hI : ItemsAt w x xs) :
    Calls Tryz.prog 9 #[.agg #[.int .i64 n, .int .i64 t, .int .i64 R], .slice x xs.length cap] w fun e w' => ∃ v, e = .returned v ∧ Bls w' v (bokL n t R xs xs.length) ∧ Below w.heap.size w w' := by
  obtain ⟨hF, h100⟩ := hl.fine
  have HOK : Hid (okB n t R) := hb
  have HF : Hid (Fine xs) := hF
  have HI : Hid (ItemsAt w x xs) := hI
  have HN : Hid ((1 ≤ n ∧ n ≤ 1000000) ∧ (1 ≤ t ∧ t ≤ 1000000) ∧ 0 ≤ R ∧ R ≤ 1000000) := hb
  obtain ⟨m, hm⟩ : ∃ m, xs.length = m := ⟨_, rfl⟩
  have HM : Hid (xs.length = m) := hm
  rw [hm] at h100 ⊢
  have HB0 : Hid (Below w.heap.size w (w.alloc (.cells #[.int .i64 n, .int .i64 t, .int .i64 R] 34))) := (Below.refl _ _).alloc (Nat.le_refl _) _
  clear hb hl hI hF hm
  go_enter Tryz.func9, Tryz.ntmps9
  go_wp2_with fail
  generalize w.alloc (.cells #[.int .i64 n, .int .i64 t, .int .i64 R] 34) = w0 at *
  refine (newFilled_any n t R _ HN.out.2.2 HN.out.2.1.1).mono ?_
  rintro e w1 ⟨f, rfl, hfs, hfl, hb1⟩
  have HFS : Hid (w.heap.size ≤ f) := Nat.le_trans HB0.out.size hfs
  have HFL : Hid (FilAt w1 f n t R (R * t) 0) := hfl
  have HB1 : Hid (Below w.heap.size w w1) := HB0.out.trans (hb1.mono HB0.out.size)
  clear hfs hfl hb1 HB0
  obtain ⟨i0, hi, hz0, hz1, hz2⟩ := info_parts infoBool1
  go_wp2
  go_loopw [6, 13] (fun ov i wr => ∃ k : Nat, k ≤ m ∧ i = .int .i64 k ∧ FilAt wr f n t R (bst n t R xs k).1 (bst n t R xs k).2 ∧ Bls wr ov (bokL n t R xs k) ∧ (∀ b, ov.ownBlock = some b → w.heap.size ≤ b) ∧ Below w.heap.size w wr) (fun _ i _ => m - (intOf i).toNat)
  case atStart => exact ⟨0, Nat.zero_le _, rfl, HFL.out, Prw.nil _ _ _, fun b hb => by simp [Value.ownBlock] at hb, HB1.out⟩
  case round =>
    obtain ⟨k, hkm, rfl, hfl, hbl, hon, hbe⟩ := hrel
    have HFR : Hid (FilAt wr f n t R (bst n t R xs k).1 (bst n t R xs k).2) := hfl
    have HBL : Hid (Bls wr u6 (bokL n t R xs k)) := hbl
    have HON : Hid (∀ b, u6.ownBlock = some b → w.heap.size ≤ b) := hon
    have HBE : Hid (Below w.heap.size w wr) := hbe
    have hsz := hbe.size
    clear hfl hbl hon hbe
    by_cases hlt : k < m
    · obtain ⟨y, hy⟩ : ∃ y, xs[k]? = some y := ⟨_, List.getElem?_eq_getElem (by rw [HM.out]; exact hlt)⟩
      have hfy := (HF.out k y hy).1
      have HYB : Hid ((0 ≤ y.a ∧ y.a ≤ 1000000000) ∧ 0 ≤ y.l ∧ y.l ≤ 1000000) := ⟨⟨hfy.1, hfy.2.1⟩, by omega, by omega⟩
      have HLV : Hid (0 ≤ (bst n t R xs k).1 ∧ (bst n t R xs k).1 ≤ R * t) := bst_lev HF.out HN.out.1.1 HN.out.2.1.1 HN.out.2.2.1 k (by rw [HM.out]; omega)
      have HLT : Hid (0 ≤ (bst n t R xs k).2) := (bst_lat (n := n) (t := t) (R := R) HF.out k (by rw [HM.out]; omega)).1.1
      have HPB : Hid (0 ≤ pas n t R (bst n t R xs k).1 (bst n t R xs k).2 y.a ∧ pas n t R (bst n t R xs k).1 (bst n t R xs k).2 y.a ≤ R * t) := pas_bounds HF.out HN.out.1.1 HN.out.2.1.1 HN.out.2.2.1 hy
      have HBK : Hid (bok n t R xs k = decide (y.l * t ≤ pas n t R (bst n t R xs k).1 (bst n t R xs k).2 y.a)) := bok_at hy
      have HBS : Hid (bst n t R xs (k + 1) = (if y.l * t ≤ pas n t R (bst n t R xs k).1 (bst n t R xs k).2 y.a then pas n t R (bst n t R xs k).1 (bst n t R xs k).2 y.a - y.l * t else pas n t R (bst n t R xs k).1 (bst n t R xs k).2 y.a, lat1 (bst n t R xs k).2 y.a)) := bst_succ hy
      obtain ⟨yb, yo, hxe, hIt⟩ : ∃ yb yo, x = some ⟨yb, yo, none⟩ ∧ Items w yb yo xs := by
        rcases HI.out with h | ⟨b, off, e, h⟩
        · rw [h] at hy; simp at hy
        · exact ⟨b, off, e, h⟩
      subst hxe
      obtain ⟨k0, k1, k2, k3, k4⟩ := (hIt.below HBE.out) k y hy
      have hybl := lt_of_cell k0
      simp only at hybl
      have hlc : (bokL n t R xs k).length = k := bokL_length _ _ _ _ _
      have HWI : Hid (Below wr.heap.size wr (wr.alloc (.cells #[.int .i64 y.a, .int .i64 y.l, .int .i64 y.f, .int .i64 y.b, .int .i64 y.m] 61))) := (Below.refl _ _).alloc (Nat.le_refl _) _
      clear hy hfy hIt
      go_wp2_with (go_at_call 25; refine (ftake_any y.a y.l _ (HFR.out.below HWI.out) HOK.out HLV.out.1 HLV.out.2 HLT.out HYB.out.1.2 HYB.out.2 HPB.out).mono ?_; rw [← HBK.out]; rintro e wt ⟨rfl, hft, hot⟩; have HFT : Hid (FilAt wt f n t R (bst n t R xs (k + 1)).1 (bst n t R xs (k + 1)).2) := (by show FilAt _ _ _ _ _ _ _; rw [HBS.out]; exact hft); have HOT : Hid (Oth (· = f) (wr.alloc (.cells #[.int .i64 y.a, .int .i64 y.l, .int .i64 y.f, .int .i64 y.b, .int .i64 y.m] 61)) wt) := hot; have HRT : Hid (Bls wt u6 (bokL n t R xs k)) := (by obtain ⟨p, hp, _⟩ := HFR.out.below HWI.out; exact bls_fil (Prw.below HBL.out HWI.out) hp hot); have HWT : Hid (Below w.heap.size w wt) := HBE.out.trans ((HWI.out.mono hsz).trans (hot.below (by have := HWI.out.size; omega) (fun j hj => by have := HFS.out; omega))); clear hft hot; go_wp2_with (at_builtin; refine wpList_append_prw (K := isB) _ rfl (.tmp 17) (.tmp 24) 32 rfl 4 i0 _ 1 Tryz.underlying32 hi hz0 hz1 hz2 rfl ⟨false, rfl⟩ _ _ rfl (Prw.below HRT.out ((Below.refl _ _).alloc (Nat.le_refl _) _)) ⟨wt.heap.size, 0, none⟩ 1 (.bool (bok n t R xs k)) rfl (by simp) rfl ⟨_, rfl⟩ (by simp [hlc]; unfold maxLen; omega) (by simp [hlc]; omega) ?_; intro v8 w8 hs8 hg8 ha8))
      go_roundw
      case rel =>
        have hA8 : Below wt.heap.size wt (wt.alloc (.cells #[.bool (bok n t R xs k)] 4)) := (Below.refl _ _).alloc (Nat.le_refl _) _
        have hwt := HWT.out.size
        refine ⟨k + 1, by omega, by go_num, ?_, ?_, ?_, ?_⟩
        · exact HFT.out.grown hA8 HRT.out hg8
        · unfold Bls; rw [bokL_succ, List.map_append]; exact hs8
        · intro b hb
          rcases ha8 with h | h
          · exact HON.out b (h ▸ hb)
          · rw [h] at hb; simp at hb; omega
        · exact (HWT.out.trans (hA8.mono hwt)).grown hg8 (by simp; omega) HON.out
      case measure => simp [intOf]; omega
    · obtain rfl : k = m := by omega
      go_wp2
      go_ret
      exact ⟨_, rfl, HBL.out, HBE.out⟩
end Go.Proofs.YtnppmigncjakeaaGreatDoor
