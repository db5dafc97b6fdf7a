/-
  millraceref.signs: a text cut into its signs, in a parser in new memory. Conditions: millraceref.Fine is as it is laid; the text has at most 2000 bytes.
-/
import Derived.Test.YtibecinojkkjpaaGreatDoorRp1
namespace Go.Proofs.YtibecinojkkjpaaGreatDoor
open Go.RowKit Go.Extern.Stop Go.Stop Go.Extern

theorem grown_new {B g H : Nat} {v : Value} (h : ∀ b, v.ownBlock = some b → B + 1 ≤ b) (ha : v.ownBlock = some g ∨ H ≤ g) (hH : B + 1 ≤ H) : B + 1 ≤ g := by
  rcases ha with ha | ha
  · exact h g ha
  · omega
theorem below_grown2 {w wr W w1 : World} {v : Value} (hB : Below w.heap.size w wr) (hW : Below wr.heap.size wr W) (hg : W.grownBy w1 v.ownBlock) (h : ∀ b, v.ownBlock = some b → w.heap.size + 1 ≤ b) : Below w.heap.size w w1 := by
  have hb2 : Below w.heap.size w W := hB.trans (hW.mono hB.size)
  exact hb2.grown hg hb2.size (fun j e => by have := h j e; omega)
theorem ixb_40 (b : UInt8) (h : b ≠ 40) (h2 : b ≠ 41) : Lib.indexByte [40, 41] b = -1 := by
  have h3 : ¬ (40 : UInt8) = b := fun e => h e.symm
  have h4 : ¬ (41 : UInt8) = b := fun e => h2 e.symm
  simp [Lib.indexByte, h3, h4]
set_option maxRecDepth 20000 in
set_option maxHeartbeats 8000000 in
theorem rsigns_any (s : ByteArray) (w : World) (hs : s.size ≤ 2000) (hF : GFine w) :
    Calls Tryz.prog 12 #[.string s, .string ⟨#[40, 41]⟩] w fun e w' => ∃ rv, e = .returned (.pointer (some ⟨w.heap.size, 0, none⟩)) ∧ PsAt w' w.heap.size s.size 0 (-1) rv (signsL mkA s.data.toList 0) ∧ (∀ b, rv.ownBlock = some b → w.heap.size + 1 ≤ b) ∧ Below w.heap.size w w' := by
  obtain ⟨i0, hi, hz0, hz1, hz2⟩ := info_parts infoRSign
  have HSZ : Hid (s.data.toList.length = s.size) := Array.length_toList
  obtain ⟨k0, k1⟩ := hF
  have HIB : ∀ (c : Int) W, Calls Tryz.prog 23 #[.string ⟨#[40, 41]⟩, .int .u8 c] W fun e w' => e = .returned (.int .i64 (Lib.indexByte [40, 41] c.toNat.toUInt8)) ∧ w' = W := fun c W => Tryz.strings_IndexByte ⟨#[40, 41]⟩ c W
  have HIX : Hid (∀ (c : Int) W, Calls Tryz.prog 23 #[.string ⟨#[40, 41]⟩, .int .u8 c] W fun e w' => e = .returned (.int .i64 (Lib.indexByte [40, 41] c.toNat.toUInt8)) ∧ w' = W) := HIB
  clear HIB
  go_enter Tryz.func12, Tryz.ntmps12
  go_wp2
  go_loopw [6, 7] (fun wv iv wr => ∃ (i : Nat) (wd : Int) (rv : Value) (acc : List (List UInt8 × Nat)), i ≤ s.size + 1 ∧ iv = .int .i64 i ∧ wv = .int .i64 wd ∧ (wd = -1 ∨ 0 ≤ wd) ∧ WdI s.data.toList i wd acc ∧ PsAt wr w.heap.size s.size 0 (-1) rv acc ∧ (∀ b, rv.ownBlock = some b → w.heap.size + 1 ≤ b) ∧ acc.length ≤ 2 * i ∧ Below w.heap.size w wr) (fun _ iv _ => s.size + 1 - (intOf iv).toNat)
  case atStart => exact ⟨0, -1, _, [], by omega, rfl, rfl, Or.inl rfl, Or.inl ⟨rfl, rfl⟩, ⟨new_block _ _, Seg.nil _ _ _, by simp [Value.ownBlock]⟩, fun b hb => by simp [Value.ownBlock] at hb, Nat.le_refl _, (Below.refl _ _).alloc (Nat.le_refl _) _⟩
  case round =>
    obtain ⟨i, wd, rv, acc, hi1, rfl, rfl, hwd, hW, hps, hnw, hal, hbe⟩ := hrel
    have HWD : Hid (WdI s.data.toList i wd acc) := hW
    have HPS : Hid (PsAt wr w.heap.size s.size 0 (-1) rv acc) := hps
    have HNW : Hid (∀ b, rv.ownBlock = some b → w.heap.size + 1 ≤ b) := hnw
    have HBE : Hid (Below w.heap.size w wr) := hbe
    have hpl := hps.lt
    obtain ⟨c0, c1, c2, c3, f0, f2, f3⟩ := hps.cells
    clear hW hps hnw hbe
    by_cases hlt : i < s.size
    · obtain ⟨b, hb⟩ : ∃ b, s.data.toList[i]? = some b := ⟨_, List.getElem?_eq_getElem (by rw [HSZ.out]; exact hlt)⟩
      have hbv : s[i] = b := by
        have := (List.getElem?_eq_some_iff.1 hb).2
        rw [← this]
        rfl
      have g1 : (i : Int) ≤ s.size := by omega
      have g2 : (i : Int) < s.size := by omega
      by_cases h32 : b = 32
      · subst h32
        have ib := HIX.out 32 wr
        rw [show Lib.indexByte [40, 41] (32 : Int).toNat.toUInt8 = -1 by decide] at ib
        have HIP : Hid (Calls Tryz.prog 23 #[.string ⟨#[40, 41]⟩, .int .u8 32] wr fun e w' => e = .returned (.int .i64 (-1)) ∧ w' = wr) := ib
        clear ib
        go_wp2_with fail
        refine HIP.out.mono ?_
        rintro e w5 ⟨rfl, rfl⟩
        rcases hwd with rfl | hwd
        · go_wp2
          go_roundw
          case rel => exact ⟨i + 1, -1, rv, acc, by omega, by go_num, rfl, Or.inl rfl, HWD.out.blank hb, HPS.out, HNW.out, by omega, HBE.out⟩
          case measure => simp [intOf]; omega
        · obtain ⟨j, rfl⟩ : ∃ j : Nat, wd = j := ⟨wd.toNat, by omega⟩
          obtain ⟨hji, hil, hW2⟩ := HWD.out.word (Or.inr ⟨_, hb, rfl⟩)
          have HW2 : Hid (WdI s.data.toList i (-1) (acc ++ [((s.data.toList.drop j).take (i - j), j)])) := hW2
          have hsl := ext_val s j (i - j)
          rw [show j + (i - j) = i by omega] at hsl
          have o3 : (j : Int) ≤ (i : Int) := by omega
          have o4 : (i : Int) ≤ (s.size : Int) := by have := HSZ.out; omega
          have o5 : ¬ (j : Int) < 0 := by omega
          have o6 : (0 : Int) ≤ (j : Int) := by omega
          have HSX : Hid (s.extract j i = ⟨((s.data.toList.drop j).take (i - j)).toArray⟩) := hsl
          clear hW2 hwd hil
          go_wp2
          go_region_law (refine step_append_seg _ (by rfl) (.tmp 47) (.tmp 54) 43 (by rfl) 70 i0 _ 2 24 Tryz.underlying43 hi hz0 hz1 hz2 rfl (by decide) _ _ _ (by rfl) (HPS.out.row.below (by repeat' (first | with_reducible exact Below.refl _ _ | with_reducible refine Below.drew ?_ | with_reducible refine below_alloc_ ?_ _))) ⟨w5.heap.size, 0, none⟩ 1 1 (sgc ((s.data.toList.drop j).take (i - j), j)) (by rfl) rfl (news_of (new_block_ (by simp))) (by simp [sgc, strV, Value.oneCell']) (by decide) (by unfold maxLen; omega) (by omega) _ rfl ?_; intro g off cap w1 hs1 hg1 ha1 hl1; obtain ⟨⟨d1, z1⟩, hp1⟩ := HPS.out.push ((s.data.toList.drop j).take (i - j), j) (by repeat' (first | with_reducible exact Below.refl _ _ | with_reducible refine Below.drew ?_ | with_reducible refine below_alloc_ ?_ _)) hg1 ha1 (by simp; omega) hs1; have HP1 : Hid (PsAt (w1.setCell ⟨w.heap.size, 0, none⟩ (.slice (some ⟨g, off, none⟩) (acc.length + 1) cap)) w.heap.size s.size 0 (-1) (.slice (some ⟨g, off, none⟩) (acc.length + 1) cap) (acc ++ [((s.data.toList.drop j).take (i - j), j)])) := hp1; have HG1 : Hid (w.heap.size + 1 ≤ g) := grown_new HNW.out ha1 (by simp; omega); have HB1 : Hid (Below w.heap.size w w1) := below_grown2 HBE.out (by repeat' (first | with_reducible exact Below.refl _ _ | with_reducible refine Below.drew ?_ | with_reducible refine below_alloc_ ?_ _)) hg1 HNW.out; clear hp1 hg1 hs1 ha1)
          all_goals
            go_wp2
            go_roundw
            case rel => exact ⟨i + 1, -1, _, acc ++ [((s.data.toList.drop j).take (i - j), j)], by omega, by go_num, rfl, Or.inl rfl, HW2.out.blank hb, HP1.out, fun b hb => by simp only [Value.ownBlock, Option.some.injEq] at hb; subst hb; exact HG1.out, by simp; omega, HB1.out.setCell (Nat.le_refl _) _⟩
            case measure => simp [intOf]; omega
      · by_cases h40 : b = 40
        · subst h40
          have hu : Utf8.encode 40 = ⟨#[40]⟩ := by rfl
          have ib := HIX.out 40 wr
          rw [show Lib.indexByte [40, 41] (40 : Int).toNat.toUInt8 = 0 by decide] at ib
          have HIP : Hid (Calls Tryz.prog 23 #[.string ⟨#[40, 41]⟩, .int .u8 40] wr fun e w' => e = .returned (.int .i64 (0)) ∧ w' = wr) := ib
          clear ib
          go_wp2_with fail
          refine HIP.out.mono ?_
          rintro e w5 ⟨rfl, rfl⟩
          rcases hwd with rfl | hwd
          · have HPX : Hid (PsAt w5 w.heap.size s.size 0 (-1) rv acc) := HPS.out
            have HNX : Hid (∀ b, rv.ownBlock = some b → w.heap.size + 1 ≤ b) := HNW.out
            have HBX : Hid (Below w.heap.size w w5) := HBE.out
            have HWX : Hid (WdI s.data.toList i (-1) acc) := HWD.out
            go_wp2_with (at_builtin; refine wpList_append_seg _ rfl (.tmp 63) (.tmp 68) 43 rfl 70 i0 _ 2 24 Tryz.underlying43 hi hz0 hz1 hz2 rfl (by decide) _ _ _ rfl (HPX.out.row.below (by repeat' (first | with_reducible exact Below.refl _ _ | with_reducible refine Below.drew ?_ | with_reducible refine below_alloc_ ?_ _))) _ 1 1 (sgc ([40], i)) rfl rfl (news_of (new_block_ (by simp))) (by simp [sgc, strV, Value.oneCell']) (by decide) (by unfold maxLen; first | omega | (simp; omega)) (by first | omega | (simp; omega)) _ rfl ?_; intro g2 off2 cap2 w2 hs2 hg2 ha2 hl2; obtain ⟨⟨d2, z2⟩, hp2⟩ := HPX.out.push ([40], i) (by repeat' (first | with_reducible exact Below.refl _ _ | with_reducible refine Below.drew ?_ | with_reducible refine below_alloc_ ?_ _)) hg2 ha2 (by simp; omega) hs2; have HP2 : Hid (PsAt _ w.heap.size s.size 0 (-1) _ _) := hp2; have HG2 : Hid (w.heap.size + 1 ≤ g2) := grown_new HNX.out ha2 (by simp; omega); have HB2 : Hid (Below w.heap.size w w2) := below_grown2 HBX.out (by repeat' (first | with_reducible exact Below.refl _ _ | with_reducible refine Below.drew ?_ | with_reducible refine below_alloc_ ?_ _)) hg2 HNX.out; clear hp2 hg2 hs2 ha2)
            go_roundw
            case rel =>
              have HP3 := HP2.out
              try simp only [List.length_append, List.length_singleton] at HP3
              exact ⟨i + 1, -1, _, _, by omega, by go_num, rfl, Or.inl rfl, HWX.out.mark hb rfl (by decide), HP3, fun b hb => by simp only [Value.ownBlock, Option.some.injEq] at hb; subst hb; exact HG2.out, by simp; omega, HB2.out.setCell (Nat.le_refl _) _⟩
            case measure => simp [intOf]; omega
          · obtain ⟨j, rfl⟩ : ∃ j : Nat, wd = j := ⟨wd.toNat, by omega⟩
            obtain ⟨hji, hil, hW2⟩ := HWD.out.word (Or.inr ⟨_, hb, rfl⟩)
            have HW2 : Hid (WdI s.data.toList i (-1) (acc ++ [((s.data.toList.drop j).take (i - j), j)])) := hW2
            have hsl := ext_val s j (i - j)
            rw [show j + (i - j) = i by omega] at hsl
            have o3 : (j : Int) ≤ (i : Int) := by omega
            have o4 : (i : Int) ≤ (s.size : Int) := by have := HSZ.out; omega
            have o5 : ¬ (j : Int) < 0 := by omega
            have o6 : (0 : Int) ≤ (j : Int) := by omega
            have HSX : Hid (s.extract j i = ⟨((s.data.toList.drop j).take (i - j)).toArray⟩) := hsl
            clear hW2 hwd hil
            go_wp2
            go_region_law (refine step_append_seg _ (by rfl) (.tmp 47) (.tmp 54) 43 (by rfl) 70 i0 _ 2 24 Tryz.underlying43 hi hz0 hz1 hz2 rfl (by decide) _ _ _ (by rfl) (HPS.out.row.below (by repeat' (first | with_reducible exact Below.refl _ _ | with_reducible refine Below.drew ?_ | with_reducible refine below_alloc_ ?_ _))) ⟨w5.heap.size, 0, none⟩ 1 1 (sgc ((s.data.toList.drop j).take (i - j), j)) (by rfl) rfl (news_of (new_block_ (by simp))) (by simp [sgc, strV, Value.oneCell']) (by decide) (by unfold maxLen; omega) (by omega) _ rfl ?_; intro g off cap w1 hs1 hg1 ha1 hl1; obtain ⟨⟨d1, z1⟩, hp1⟩ := HPS.out.push ((s.data.toList.drop j).take (i - j), j) (by repeat' (first | with_reducible exact Below.refl _ _ | with_reducible refine Below.drew ?_ | with_reducible refine below_alloc_ ?_ _)) hg1 ha1 (by simp; omega) hs1; have HP1 : Hid (PsAt (w1.setCell ⟨w.heap.size, 0, none⟩ (.slice (some ⟨g, off, none⟩) (acc.length + 1) cap)) w.heap.size s.size 0 (-1) (.slice (some ⟨g, off, none⟩) (acc.length + 1) cap) (acc ++ [((s.data.toList.drop j).take (i - j), j)])) := hp1; have HG1 : Hid (w.heap.size + 1 ≤ g) := grown_new HNW.out ha1 (by simp; omega); have HB1 : Hid (Below w.heap.size w w1) := below_grown2 HBE.out (by repeat' (first | with_reducible exact Below.refl _ _ | with_reducible refine Below.drew ?_ | with_reducible refine below_alloc_ ?_ _)) hg1 HNW.out; clear hp1 hg1 hs1 ha1)
            all_goals
              have HPX := HP1
              have HNX : Hid (∀ b, (Value.slice (some ⟨g, off, none⟩) (acc.length + 1) cap).ownBlock = some b → w.heap.size + 1 ≤ b) := fun b hb => by simp only [Value.ownBlock, Option.some.injEq] at hb; subst hb; exact HG1.out
              have HBX : Hid (Below w.heap.size w (w1.setCell ⟨w.heap.size, 0, none⟩ (.slice (some ⟨g, off, none⟩) (acc.length + 1) cap))) := HB1.out.setCell (Nat.le_refl _) _
              have HWX := HW2
              have hpl2 : w.heap.size < (w1.setCell ⟨w.heap.size, 0, none⟩ (.slice (some ⟨g, off, none⟩) (acc.length + 1) cap)).heap.size := HPX.out.lt
              obtain ⟨x0, x1, x2, x3, y0, y2, y3⟩ := HPX.out.cells
              clear d1 z1 HP1
              generalize w1.setCell ⟨w.heap.size, 0, none⟩ (.slice (some ⟨g, off, none⟩) (acc.length + 1) cap) = w6 at *
              go_wp2_with (at_builtin; refine wpList_append_seg _ rfl (.tmp 63) (.tmp 68) 43 rfl 70 i0 _ 2 24 Tryz.underlying43 hi hz0 hz1 hz2 rfl (by decide) _ _ _ rfl (HPX.out.row.below (by repeat' (first | with_reducible exact Below.refl _ _ | with_reducible refine Below.drew ?_ | with_reducible refine below_alloc_ ?_ _))) _ 1 1 (sgc ([40], i)) rfl rfl (news_of (new_block_ (by simp))) (by simp [sgc, strV, Value.oneCell']) (by decide) (by unfold maxLen; first | omega | (simp; omega)) (by first | omega | (simp; omega)) _ rfl ?_; intro g2 off2 cap2 w2 hs2 hg2 ha2 hl2; obtain ⟨⟨d2, z2⟩, hp2⟩ := HPX.out.push ([40], i) (by repeat' (first | with_reducible exact Below.refl _ _ | with_reducible refine Below.drew ?_ | with_reducible refine below_alloc_ ?_ _)) hg2 ha2 (by simp; omega) hs2; have HP2 : Hid (PsAt _ w.heap.size s.size 0 (-1) _ _) := hp2; have HG2 : Hid (w.heap.size + 1 ≤ g2) := grown_new HNX.out ha2 (by simp; omega); have HB2 : Hid (Below w.heap.size w w2) := below_grown2 HBX.out (by repeat' (first | with_reducible exact Below.refl _ _ | with_reducible refine Below.drew ?_ | with_reducible refine below_alloc_ ?_ _)) hg2 HNX.out; clear hp2 hg2 hs2 ha2)
              go_roundw
              case rel =>
                have HP3 := HP2.out
                try simp only [List.length_append, List.length_singleton] at HP3
                exact ⟨i + 1, -1, _, _, by omega, by go_num, rfl, Or.inl rfl, HWX.out.mark hb rfl (by decide), HP3, fun b hb => by simp only [Value.ownBlock, Option.some.injEq] at hb; subst hb; exact HG2.out, by simp; omega, HB2.out.setCell (Nat.le_refl _) _⟩
              case measure => simp [intOf]; omega
        · by_cases h41 : b = 41
          · subst h41
            have hu : Utf8.encode 41 = ⟨#[41]⟩ := by rfl
            have ib := HIX.out 41 wr
            rw [show Lib.indexByte [40, 41] (41 : Int).toNat.toUInt8 = 1 by decide] at ib
            have HIP : Hid (Calls Tryz.prog 23 #[.string ⟨#[40, 41]⟩, .int .u8 41] wr fun e w' => e = .returned (.int .i64 (1)) ∧ w' = wr) := ib
            clear ib
            go_wp2_with fail
            refine HIP.out.mono ?_
            rintro e w5 ⟨rfl, rfl⟩
            rcases hwd with rfl | hwd
            · have HPX : Hid (PsAt w5 w.heap.size s.size 0 (-1) rv acc) := HPS.out
              have HNX : Hid (∀ b, rv.ownBlock = some b → w.heap.size + 1 ≤ b) := HNW.out
              have HBX : Hid (Below w.heap.size w w5) := HBE.out
              have HWX : Hid (WdI s.data.toList i (-1) acc) := HWD.out
              go_wp2_with (at_builtin; refine wpList_append_seg _ rfl (.tmp 63) (.tmp 68) 43 rfl 70 i0 _ 2 24 Tryz.underlying43 hi hz0 hz1 hz2 rfl (by decide) _ _ _ rfl (HPX.out.row.below (by repeat' (first | with_reducible exact Below.refl _ _ | with_reducible refine Below.drew ?_ | with_reducible refine below_alloc_ ?_ _))) _ 1 1 (sgc ([41], i)) rfl rfl (news_of (new_block_ (by simp))) (by simp [sgc, strV, Value.oneCell']) (by decide) (by unfold maxLen; first | omega | (simp; omega)) (by first | omega | (simp; omega)) _ rfl ?_; intro g2 off2 cap2 w2 hs2 hg2 ha2 hl2; obtain ⟨⟨d2, z2⟩, hp2⟩ := HPX.out.push ([41], i) (by repeat' (first | with_reducible exact Below.refl _ _ | with_reducible refine Below.drew ?_ | with_reducible refine below_alloc_ ?_ _)) hg2 ha2 (by simp; omega) hs2; have HP2 : Hid (PsAt _ w.heap.size s.size 0 (-1) _ _) := hp2; have HG2 : Hid (w.heap.size + 1 ≤ g2) := grown_new HNX.out ha2 (by simp; omega); have HB2 : Hid (Below w.heap.size w w2) := below_grown2 HBX.out (by repeat' (first | with_reducible exact Below.refl _ _ | with_reducible refine Below.drew ?_ | with_reducible refine below_alloc_ ?_ _)) hg2 HNX.out; clear hp2 hg2 hs2 ha2)
              go_roundw
              case rel =>
                have HP3 := HP2.out
                try simp only [List.length_append, List.length_singleton] at HP3
                exact ⟨i + 1, -1, _, _, by omega, by go_num, rfl, Or.inl rfl, HWX.out.mark hb rfl (by decide), HP3, fun b hb => by simp only [Value.ownBlock, Option.some.injEq] at hb; subst hb; exact HG2.out, by simp; omega, HB2.out.setCell (Nat.le_refl _) _⟩
              case measure => simp [intOf]; omega
            · obtain ⟨j, rfl⟩ : ∃ j : Nat, wd = j := ⟨wd.toNat, by omega⟩
              obtain ⟨hji, hil, hW2⟩ := HWD.out.word (Or.inr ⟨_, hb, rfl⟩)
              have HW2 : Hid (WdI s.data.toList i (-1) (acc ++ [((s.data.toList.drop j).take (i - j), j)])) := hW2
              have hsl := ext_val s j (i - j)
              rw [show j + (i - j) = i by omega] at hsl
              have o3 : (j : Int) ≤ (i : Int) := by omega
              have o4 : (i : Int) ≤ (s.size : Int) := by have := HSZ.out; omega
              have o5 : ¬ (j : Int) < 0 := by omega
              have o6 : (0 : Int) ≤ (j : Int) := by omega
              have HSX : Hid (s.extract j i = ⟨((s.data.toList.drop j).take (i - j)).toArray⟩) := hsl
              clear hW2 hwd hil
              go_wp2
              go_region_law (refine step_append_seg _ (by rfl) (.tmp 47) (.tmp 54) 43 (by rfl) 70 i0 _ 2 24 Tryz.underlying43 hi hz0 hz1 hz2 rfl (by decide) _ _ _ (by rfl) (HPS.out.row.below (by repeat' (first | with_reducible exact Below.refl _ _ | with_reducible refine Below.drew ?_ | with_reducible refine below_alloc_ ?_ _))) ⟨w5.heap.size, 0, none⟩ 1 1 (sgc ((s.data.toList.drop j).take (i - j), j)) (by rfl) rfl (news_of (new_block_ (by simp))) (by simp [sgc, strV, Value.oneCell']) (by decide) (by unfold maxLen; omega) (by omega) _ rfl ?_; intro g off cap w1 hs1 hg1 ha1 hl1; obtain ⟨⟨d1, z1⟩, hp1⟩ := HPS.out.push ((s.data.toList.drop j).take (i - j), j) (by repeat' (first | with_reducible exact Below.refl _ _ | with_reducible refine Below.drew ?_ | with_reducible refine below_alloc_ ?_ _)) hg1 ha1 (by simp; omega) hs1; have HP1 : Hid (PsAt (w1.setCell ⟨w.heap.size, 0, none⟩ (.slice (some ⟨g, off, none⟩) (acc.length + 1) cap)) w.heap.size s.size 0 (-1) (.slice (some ⟨g, off, none⟩) (acc.length + 1) cap) (acc ++ [((s.data.toList.drop j).take (i - j), j)])) := hp1; have HG1 : Hid (w.heap.size + 1 ≤ g) := grown_new HNW.out ha1 (by simp; omega); have HB1 : Hid (Below w.heap.size w w1) := below_grown2 HBE.out (by repeat' (first | with_reducible exact Below.refl _ _ | with_reducible refine Below.drew ?_ | with_reducible refine below_alloc_ ?_ _)) hg1 HNW.out; clear hp1 hg1 hs1 ha1)
              all_goals
                have HPX := HP1
                have HNX : Hid (∀ b, (Value.slice (some ⟨g, off, none⟩) (acc.length + 1) cap).ownBlock = some b → w.heap.size + 1 ≤ b) := fun b hb => by simp only [Value.ownBlock, Option.some.injEq] at hb; subst hb; exact HG1.out
                have HBX : Hid (Below w.heap.size w (w1.setCell ⟨w.heap.size, 0, none⟩ (.slice (some ⟨g, off, none⟩) (acc.length + 1) cap))) := HB1.out.setCell (Nat.le_refl _) _
                have HWX := HW2
                have hpl2 : w.heap.size < (w1.setCell ⟨w.heap.size, 0, none⟩ (.slice (some ⟨g, off, none⟩) (acc.length + 1) cap)).heap.size := HPX.out.lt
                obtain ⟨x0, x1, x2, x3, y0, y2, y3⟩ := HPX.out.cells
                clear d1 z1 HP1
                generalize w1.setCell ⟨w.heap.size, 0, none⟩ (.slice (some ⟨g, off, none⟩) (acc.length + 1) cap) = w6 at *
                go_wp2_with (at_builtin; refine wpList_append_seg _ rfl (.tmp 63) (.tmp 68) 43 rfl 70 i0 _ 2 24 Tryz.underlying43 hi hz0 hz1 hz2 rfl (by decide) _ _ _ rfl (HPX.out.row.below (by repeat' (first | with_reducible exact Below.refl _ _ | with_reducible refine Below.drew ?_ | with_reducible refine below_alloc_ ?_ _))) _ 1 1 (sgc ([41], i)) rfl rfl (news_of (new_block_ (by simp))) (by simp [sgc, strV, Value.oneCell']) (by decide) (by unfold maxLen; first | omega | (simp; omega)) (by first | omega | (simp; omega)) _ rfl ?_; intro g2 off2 cap2 w2 hs2 hg2 ha2 hl2; obtain ⟨⟨d2, z2⟩, hp2⟩ := HPX.out.push ([41], i) (by repeat' (first | with_reducible exact Below.refl _ _ | with_reducible refine Below.drew ?_ | with_reducible refine below_alloc_ ?_ _)) hg2 ha2 (by simp; omega) hs2; have HP2 : Hid (PsAt _ w.heap.size s.size 0 (-1) _ _) := hp2; have HG2 : Hid (w.heap.size + 1 ≤ g2) := grown_new HNX.out ha2 (by simp; omega); have HB2 : Hid (Below w.heap.size w w2) := below_grown2 HBX.out (by repeat' (first | with_reducible exact Below.refl _ _ | with_reducible refine Below.drew ?_ | with_reducible refine below_alloc_ ?_ _)) hg2 HNX.out; clear hp2 hg2 hs2 ha2)
                go_roundw
                case rel =>
                  have HP3 := HP2.out
                  try simp only [List.length_append, List.length_singleton] at HP3
                  exact ⟨i + 1, -1, _, _, by omega, by go_num, rfl, Or.inl rfl, HWX.out.mark hb rfl (by decide), HP3, fun b hb => by simp only [Value.ownBlock, Option.some.injEq] at hb; subst hb; exact HG2.out, by simp; omega, HB2.out.setCell (Nat.le_refl _) _⟩
                case measure => simp [intOf]; omega
          · have ib := HIX.out (b.toNat : Int) wr
            rw [show ((b.toNat : Int)).toNat.toUInt8 = b by simp, ixb_40 b h40 h41] at ib
            have HIP : Hid (Calls Tryz.prog 23 #[.string ⟨#[40, 41]⟩, .int .u8 (b.toNat : Int)] wr fun e w' => e = .returned (.int .i64 (-1)) ∧ w' = wr) := ib
            have hpl2 : mkA.contains b = false := by simp [mkA]; exact ⟨h32, h40, h41⟩
            have o1 : ((b.toNat : Int) == 32) = false := by simp; intro h; exact h32 (UInt8.toNat_inj.1 (show b.toNat = 32 by omega))
            have o1' : ((b.toNat : Int) != 32) = true := by simp; intro h; exact h32 (UInt8.toNat_inj.1 (show b.toNat = 32 by omega))
            have o1'' : ¬ (b.toNat : Int) = 32 := fun h => h32 (UInt8.toNat_inj.1 (show b.toNat = 32 by omega))
            have HW1 : Hid (WdI s.data.toList (i + 1) (if wd < 0 then (i : Int) else wd) acc) := HWD.out.plain hb hpl2
            clear ib hpl2
            go_wp2_with fail
            refine HIP.out.mono ?_
            rintro e w5 ⟨rfl, rfl⟩
            rcases hwd with rfl | hwd
            · go_wp2
              refine ⟨⟨i + 1, (i : Int), rv, acc, by omega, by go_num, rfl, Or.inr (by omega), by simpa using HW1.out, HPS.out, HNW.out, by omega, HBE.out⟩, by simp [intOf]; omega⟩
            · have o2 : ¬ wd < 0 := by omega
              go_wp2
              refine ⟨⟨i + 1, wd, rv, acc, by omega, by go_num, rfl, Or.inr hwd, by have := HW1.out; rw [if_neg (by omega)] at this; exact this, HPS.out, HNW.out, by omega, HBE.out⟩, by simp [intOf]; omega⟩
    · by_cases he : i = s.size
      · have g1 : (i : Int) ≤ s.size := by omega
        have g2 : ¬ (i : Int) < s.size := by omega
        have HIL : Hid (i = s.data.toList.length) := by show _ = _; rw [HSZ.out]; exact he
        clear he hlt
        have ib := HIX.out 32 wr
        rw [show Lib.indexByte [40, 41] (32 : Int).toNat.toUInt8 = -1 by decide] at ib
        have HIP : Hid (Calls Tryz.prog 23 #[.string ⟨#[40, 41]⟩, .int .u8 32] wr fun e w' => e = .returned (.int .i64 (-1)) ∧ w' = wr) := ib
        clear ib
        go_wp2_with fail
        refine HIP.out.mono ?_
        rintro e w5 ⟨rfl, rfl⟩
        rcases hwd with rfl | hwd
        · go_wp2
          go_roundw
          case rel => exact ⟨i + 1, -1, rv, acc, by omega, by go_num, rfl, Or.inl rfl, by have := HWD.out; rw [HIL.out] at this ⊢; exact this.fin, HPS.out, HNW.out, by omega, HBE.out⟩
          case measure => simp [intOf]; omega
        · obtain ⟨j, rfl⟩ : ∃ j : Nat, wd = j := ⟨wd.toNat, by omega⟩
          obtain ⟨hji, hil, hW2⟩ := HWD.out.word (Or.inl HIL.out)
          have HW2 : Hid (WdI s.data.toList i (-1) (acc ++ [((s.data.toList.drop j).take (i - j), j)])) := hW2
          have hsl := ext_val s j (i - j)
          rw [show j + (i - j) = i by omega] at hsl
          have o3 : (j : Int) ≤ (i : Int) := by omega
          have o4 : (i : Int) ≤ (s.size : Int) := by have := HSZ.out; omega
          have o5 : ¬ (j : Int) < 0 := by omega
          have o6 : (0 : Int) ≤ (j : Int) := by omega
          have HSX : Hid (s.extract j i = ⟨((s.data.toList.drop j).take (i - j)).toArray⟩) := hsl
          clear hW2 hwd hil
          go_wp2
          go_region_law (refine step_append_seg _ (by rfl) (.tmp 47) (.tmp 54) 43 (by rfl) 70 i0 _ 2 24 Tryz.underlying43 hi hz0 hz1 hz2 rfl (by decide) _ _ _ (by rfl) (HPS.out.row.below (by repeat' (first | with_reducible exact Below.refl _ _ | with_reducible refine Below.drew ?_ | with_reducible refine below_alloc_ ?_ _))) ⟨w5.heap.size, 0, none⟩ 1 1 (sgc ((s.data.toList.drop j).take (i - j), j)) (by rfl) rfl (news_of (new_block_ (by simp))) (by simp [sgc, strV, Value.oneCell']) (by decide) (by unfold maxLen; omega) (by omega) _ rfl ?_; intro g off cap w1 hs1 hg1 ha1 hl1; obtain ⟨⟨d1, z1⟩, hp1⟩ := HPS.out.push ((s.data.toList.drop j).take (i - j), j) (by repeat' (first | with_reducible exact Below.refl _ _ | with_reducible refine Below.drew ?_ | with_reducible refine below_alloc_ ?_ _)) hg1 ha1 (by simp; omega) hs1; have HP1 : Hid (PsAt (w1.setCell ⟨w.heap.size, 0, none⟩ (.slice (some ⟨g, off, none⟩) (acc.length + 1) cap)) w.heap.size s.size 0 (-1) (.slice (some ⟨g, off, none⟩) (acc.length + 1) cap) (acc ++ [((s.data.toList.drop j).take (i - j), j)])) := hp1; have HG1 : Hid (w.heap.size + 1 ≤ g) := grown_new HNW.out ha1 (by simp; omega); have HB1 : Hid (Below w.heap.size w w1) := below_grown2 HBE.out (by repeat' (first | with_reducible exact Below.refl _ _ | with_reducible refine Below.drew ?_ | with_reducible refine below_alloc_ ?_ _)) hg1 HNW.out; clear hp1 hg1 hs1 ha1)
          all_goals
            go_wp2
            go_roundw
            case rel => exact ⟨i + 1, -1, _, acc ++ [((s.data.toList.drop j).take (i - j), j)], by omega, by go_num, rfl, Or.inl rfl, by have := HW2.out; rw [HIL.out] at this ⊢; exact this.fin, HP1.out, fun b hb => by simp only [Value.ownBlock, Option.some.injEq] at hb; subst hb; exact HG1.out, by simp; omega, HB1.out.setCell (Nat.le_refl _) _⟩
            case measure => simp [intOf]; omega
      · obtain rfl : i = s.size + 1 := by omega
        have HFIN : Hid (acc = signsL mkA s.data.toList 0) := by
          show acc = _
          rcases HWD.out with ⟨_, h⟩ | ⟨j, _, _, h, _⟩
          · rw [List.drop_eq_nil_of_le (by rw [HSZ.out]; omega)] at h
            rw [← h]
            exact (List.append_nil _).symm
          · rw [HSZ.out] at h; omega
        go_wp2
        go_ret
        exact ⟨rv, rfl, by rw [← HFIN.out]; exact HPS.out, HNW.out, HBE.out⟩
end Go.Proofs.YtibecinojkkjpaaGreatDoor
