/-
  millraceref.Shape, walked: in new memory when each packet goes, or that it can't be; nothing that was there before is otherwise. Conditions: a bucket that may be; packets that may be lie in memory.
-/
import Derived.Test.YtnppmigncjakeaaGreatDoorSh1
import Derived.Test.YtnppmigncjakeaaGreatDoorTwW
import Derived.Test.YtnppmigncjakeaaGreatDoorGr
namespace Go.Proofs.YtnppmigncjakeaaGreatDoor
open Go.RowKit Go.Deep

def goL (n t R : Int) (xs : List It) (k : Nat) : List Int := (List.range k).map (goes n t R xs)
theorem goL_succ (n t R : Int) (xs : List It) (k : Nat) : goL n t R xs (k + 1) = goL n t R xs k ++ [goes n t R xs k] := by simp [goL, List.range_succ]
theorem goL_length (n t R : Int) (xs : List It) (k : Nat) : (goL n t R xs k).length = k := by simp [goL]
theorem lat1_twice (lat a : Int) : lat1 lat (lat1 lat a) = lat1 lat a := by unfold lat1; split <;> (try split) <;> omega
theorem pas_lat1 (n t R lev lat a : Int) : pas n t R lev lat (lat1 lat a) = pas n t R lev lat a := by
  unfold lat1
  by_cases h : a ≤ lat
  · rw [if_pos h]
    unfold pas
    rw [if_pos (Int.le_refl _), if_pos h]
  · rw [if_neg h]
set_option maxRecDepth 20000 in
set_option maxHeartbeats 8000000 in
theorem rshape_any (n t R : Int) (x : Option Addr) (cap : Nat) (xs : List It) (w : World) (hb : okB n t R) (hl : okL xs) (hI : ItemsAt w x xs) :
    Calls Tryz.prog 14 #[.agg #[.int .i64 n, .int .i64 t, .int .i64 R], .slice x xs.length cap] w fun e w' => ((∃ v, e = .returned (.tuple #[v, .bool true]) ∧ Goes n t R xs xs.length ∧ Its w' v (goL n t R xs xs.length)) ∨ (e = .returned (.tuple #[.slice none 0 0, .bool false]) ∧ ¬ Goes n t R xs xs.length)) ∧ Below w.heap.size w w' := by
  obtain ⟨hF, h100⟩ := hl.fine
  have HOK : Hid (okB n t R) := hb
  have HF : Hid (Fine xs) := hF
  have HI : Hid (ItemsAt w x xs) := hI
  have HN : Hid ((1 ≤ n ∧ n ≤ 1000000) ∧ (1 ≤ t ∧ t ≤ 1000000) ∧ 0 ≤ R ∧ R ≤ 1000000) := hb
  obtain ⟨m, hm⟩ : ∃ m, xs.length = m := ⟨_, rfl⟩
  have HM : Hid (xs.length = m) := hm
  rw [hm] at h100 ⊢
  have HB0 : Hid (Below w.heap.size w (w.alloc (.cells #[.int .i64 n, .int .i64 t, .int .i64 R] 34))) := (Below.refl _ _).alloc (Nat.le_refl _) _
  obtain ⟨i0, hi, hz0, hz1, hz2⟩ := info_parts infoIntB
  clear hb hl hI hF hm
  go_enter Tryz.func14, Tryz.ntmps14
  go_wp2_with fail
  refine (newFilled_any n t R _ HN.out.2.2 HN.out.2.1.1).mono ?_
  rintro e w1 ⟨f, rfl, hf1, h1, l1⟩
  have HF1 : Hid (FilAt w1 f n t R (R * t) 0) := h1
  have HB1 : Hid (Below w.heap.size w w1) := HB0.out.trans (l1.mono HB0.out.size)
  have HFC : Hid (w.heap.size ≤ f) := Nat.le_trans HB0.out.size hf1
  clear h1 hf1 l1
  go_wp2
  go_loopw [7, 8, 17] (fun ov av i wr => ∃ k : Nat, k ≤ m ∧ i = .int .i64 k ∧ av = .int .i64 (sst n t R xs k).2 ∧ Goes n t R xs k ∧ FilAt wr f n t R (sst n t R xs k).1 (sst n t R xs k).2 ∧ Its wr ov (goL n t R xs k) ∧ (∀ b, ov.ownBlock = some b → w.heap.size ≤ b) ∧ Below w.heap.size w wr) (fun _ _ i _ => m - (intOf i).toNat)
  case atStart => exact ⟨0, Nat.zero_le _, rfl, rfl, fun j y hj => absurd hj (Nat.not_lt_zero j), HF1.out, Prw.nil _ _ _, fun b hb => by simp [Value.ownBlock] at hb, HB1.out⟩
  case round =>
    obtain ⟨k, hkm, rfl, rfl, hG, hfc, hbl, hon, hbe⟩ := hrel
    have HG : Hid (Goes n t R xs k) := hG
    have HR1 : Hid (FilAt wr f n t R (sst n t R xs k).1 (sst n t R xs k).2) := hfc
    have HBL : Hid (Its wr u7 (goL n t R xs k)) := hbl
    have HON : Hid (∀ b, u7.ownBlock = some b → w.heap.size ≤ b) := hon
    have HBE : Hid (Below w.heap.size w wr) := hbe
    have hsz := hbe.size
    clear hG hfc hbl hon hbe
    by_cases hlt : k < m
    · obtain ⟨y, hy⟩ : ∃ y, xs[k]? = some y := ⟨_, List.getElem?_eq_getElem (by rw [HM.out]; exact hlt)⟩
      have hfy := (HF.out k y hy).1
      have HYB : Hid ((0 ≤ y.a ∧ y.a ≤ 1000000000) ∧ 0 ≤ y.l ∧ y.l ≤ 1000000) := ⟨⟨hfy.1, hfy.2.1⟩, by omega, by omega⟩
      have HIV : Hid ((0 ≤ (sst n t R xs k).1 ∧ (sst n t R xs k).1 ≤ R * t) ∧ 0 ≤ (sst n t R xs k).2 ∧ (sst n t R xs k).2 ≤ 1000000000) := sst_inv HF.out HN.out.1.1 HN.out.2.1.1 HN.out.2.2.1 k (by rw [HM.out]; omega) HG.out
      have HGA : Hid (goes n t R xs k = whn n t (pas n t R (sst n t R xs k).1 (sst n t R xs k).2 y.a) (lat1 (sst n t R xs k).2 y.a) y.l) := goes_at hy
      have HPB : Hid (0 ≤ pas n t R (sst n t R xs k).1 (sst n t R xs k).2 y.a ∧ pas n t R (sst n t R xs k).1 (sst n t R xs k).2 y.a ≤ R * t) := pas_room HN.out.1.1 HIV.out.1.1 HIV.out.1.2
      have HS2 : Hid ((sst n t R xs (k + 1)).2 = goes n t R xs k) := sst_two hy
      have HST : Hid (y.l ≤ R → drwB t (pas n t R (pas n t R (sst n t R xs k).1 (sst n t R xs k).2 y.a) (lat1 (sst n t R xs k).2 y.a) (goes n t R xs k)) y.l = true ∧ sst n t R xs (k + 1) = (drw t (pas n t R (pas n t R (sst n t R xs k).1 (sst n t R xs k).2 y.a) (lat1 (sst n t R xs k).2 y.a) (goes n t R xs k)) y.l, lat1 (lat1 (sst n t R xs k).2 y.a) (goes n t R xs k))) := fun hle => ⟨(goes_draw HF.out HN.out.1.1 HN.out.2.1.1 HN.out.2.2.1 hy HG.out hle).1, goes_step HF.out HN.out.1.1 HN.out.2.1.1 HN.out.2.2.1 hy HG.out hle⟩
      have HGN : Hid ((y.l ≤ R ∧ goes n t R xs k ≤ 1000000000) → Goes n t R xs (k + 1)) := fun hh j z hj hz => by
        by_cases e : j = k
        · subst e; rw [hy] at hz; obtain rfl := Option.some.inj hz; exact hh
        · exact HG.out j z (by omega) hz
      have HGO : Hid (¬ (y.l ≤ R ∧ goes n t R xs k ≤ 1000000000) → ¬ Goes n t R xs m) := fun hh hg => hh (hg k y hlt hy)
      obtain ⟨yb, yo, hxe, hIt⟩ : ∃ yb yo, x = some ⟨yb, yo, none⟩ ∧ Items w yb yo xs := by
        rcases HI.out with h | ⟨b, off, e, h⟩
        · rw [h] at hy; simp at hy
        · exact ⟨b, off, e, h⟩
      subst hxe
      obtain ⟨k0, k1, k2, k3, k4⟩ := (hIt.below HBE.out) k y hy
      have hybl := lt_of_cell k0
      simp only at hybl
      have hlc : (goL n t R xs k).length = k := goL_length _ _ _ _ _
      obtain ⟨lev, hlev⟩ : ∃ lev, (sst n t R xs k).1 = lev := ⟨_, rfl⟩
      obtain ⟨lat, hlat⟩ : ∃ lat, (sst n t R xs k).2 = lat := ⟨_, rfl⟩
      rw [hlev, hlat] at HR1 HIV HGA HPB HST
      rw [hlat]
      obtain ⟨gk, hgk⟩ : ∃ gk, goes n t R xs k = gk := ⟨_, rfl⟩
      have HGK : Hid (goes n t R xs k = gk) := hgk
      rw [hgk] at HGA HS2 HST HGN HGO
      have HWI : Hid (Below wr.heap.size wr (wr.alloc (.cells #[.int .i64 y.a, .int .i64 y.l, .int .i64 y.f, .int .i64 y.b, .int .i64 y.m] 61))) := (Below.refl _ _).alloc (Nat.le_refl _) _
      have hg0 : lat ≤ gk := by
        have h1 := (whn_bounds (n := n) (t := t) (lev := pas n t R lev lat y.a) (lat := lat1 lat y.a) (l := y.l) HN.out.1.1).1
        rw [← HGA.out] at h1
        have h2 : lat ≤ lat1 lat y.a := by unfold lat1; split <;> omega
        omega
      have HG0 : Hid (0 ≤ gk) := by have := HIV.out; show _ ≤ _; omega
      have HNOW : Hid (lat1 lat y.a ≤ 1000000000 ∧ 0 ≤ lat1 lat y.a) := by have := HIV.out; have := HYB.out; show _ ∧ _; unfold lat1; split <;> omega
      have HWN : Hid (y.l ≤ R → ∀ W, FilAt W f n t R lev lat → Calls Tryz.prog 31 #[.pointer (some ⟨f, 0, none⟩), .int .i64 (lat1 lat y.a), .int .i64 y.l] W fun e w' => e = .returned (.tuple #[.int .i64 gk, .bool true]) ∧ FilAt w' f n t R (pas n t R lev lat y.a) (lat1 lat y.a) ∧ Oth (· = f) W w') := by
        intro hle W hW
        have := fwhen_any (lat1 lat y.a) y.l W hW HOK.out HIV.out.1.1 HIV.out.1.2 HIV.out.2.1 HIV.out.2.2 HNOW.out.1 ⟨HYB.out.2.1, hle⟩ (by rw [pas_lat1]; exact HPB.out)
        rw [pas_lat1, lat1_twice, ← HGA.out] at this
        exact this
      have HIT : Hid (∀ W, Oth (· = f) (wr.alloc (.cells #[.int .i64 y.a, .int .i64 y.l, .int .i64 y.f, .int .i64 y.b, .int .i64 y.m] 61)) W → W.cell? ⟨wr.heap.size, 0, none⟩ = some (.int .i64 y.a) ∧ W.cell? ⟨wr.heap.size, 1, none⟩ = some (.int .i64 y.l)) := by
        intro W hW
        have hlp := HR1.out.lt
        exact ⟨(cell_oth hW (by simp) (by omega) 0).trans (by simp [go_sem]), (cell_oth hW (by simp) (by omega) 1).trans (by simp [go_sem])⟩
      have HBT : Hid (∀ W, Oth (· = f) (wr.alloc (.cells #[.int .i64 y.a, .int .i64 y.l, .int .i64 y.f, .int .i64 y.b, .int .i64 y.m] 61)) W → Below w.heap.size w W) := fun W hot => HBE.out.trans ((HWI.out.mono hsz).trans (hot.below (by have := HWI.out.size; omega) (fun j hj => by have := HFC.out; omega)))
      clear hy hfy hIt hlev hgk hg0
      have HSQ : Hid ((sst n t R xs k).2 = lat) := hlat
      clear hlat
      obtain ⟨nw, hnw⟩ : ∃ nw, lat1 lat y.a = nw := ⟨_, rfl⟩
      by_cases hma : lat < y.a
      · have hnwv : nw = y.a := by rw [← hnw]; unfold lat1; rw [if_neg (by omega)]
        subst hnwv
        rw [hnw] at HWN HNOW HST
        have HMA : Hid (lat < y.a) := hma
        by_cases hyl : R < y.l
        · have HYL : Hid (R < y.l) := hyl
          go_wp2_with (go_at_call 31; fail)
          refine (fwhen_no _ y.l _ (HR1.out.below HWI.out) HNOW.out.1 HYL.out).mono ?_
          rintro e w2 ⟨rfl, rfl⟩
          go_wp2
          go_ret2
          exact ⟨Or.inr ⟨rfl, HGO.out (fun hh => by have := HYL.out; omega)⟩, HBE.out.trans (HWI.out.mono HBE.out.size)⟩
        · have HYL : Hid (y.l ≤ R) := Int.not_lt.1 hyl
          clear hyl
          obtain ⟨hdw, hss⟩ := HST.out HYL.out
          have HDW : Hid (y.l * t ≤ pas n t R (pas n t R lev lat y.a) y.a gk) := by simpa [drwB, Hid] using hdw
          have HSS : Hid (sst n t R xs (k + 1) = (pas n t R (pas n t R lev lat y.a) y.a gk - y.l * t, lat1 y.a gk)) := by
            show _ = _
            rw [hss, drw, if_pos HDW.out]
          have HPV : Hid (0 ≤ pas n t R (pas n t R lev lat y.a) y.a gk ∧ pas n t R (pas n t R lev lat y.a) y.a gk ≤ R * t) := pas_room HN.out.1.1 HPB.out.1 HPB.out.2
          clear hdw hss
          go_wp2_with (go_at_call 31; fail)
          refine (HWN.out HYL.out _ (HR1.out.below HWI.out)).mono ?_
          rintro e w2 ⟨rfl, hf2, ho2⟩
          have HF2 : Hid (FilAt w2 f n t R (pas n t R lev lat y.a) y.a) := hf2
          have HO2 : Hid (Oth (· = f) (wr.alloc (.cells #[.int .i64 y.a, .int .i64 y.l, .int .i64 y.f, .int .i64 y.b, .int .i64 y.m] 61)) w2) := ho2
          have HRT : Hid (Its w2 u7 (goL n t R xs k)) := Its.fil (Prw.below HBL.out HWI.out) (HR1.out.below HWI.out) ho2
          have HW2 : Hid (Below w.heap.size w w2) := HBT.out _ ho2
          obtain ⟨k5, k6⟩ := HIT.out _ ho2
          clear hf2 ho2
          by_cases hgm : 1000000000 < gk
          · have HGM : Hid (1000000000 < gk) := hgm
            go_wp2
            go_ret2
            exact ⟨Or.inr ⟨rfl, HGO.out (fun hh => by have := HGM.out; omega)⟩, HW2.out⟩
          · have HGM : Hid (gk ≤ 1000000000) := Int.not_lt.1 hgm
            go_wp2_with (go_at_call 25; fail)
            refine (ftake_any gk y.l _ HF2.out HOK.out HPB.out.1 HPB.out.2 HNOW.out.2 HGM.out HYB.out.2 HPV.out).mono ?_
            rw [if_pos HDW.out]
            rintro e w3 ⟨rfl, hf3, ho3⟩
            have HF3 : Hid (FilAt w3 f n t R (sst n t R xs (k + 1)).1 (sst n t R xs (k + 1)).2) := by show FilAt _ _ _ _ _ _ _; rw [HSS.out]; exact hf3
            have HR3 : Hid (Its w3 u7 (goL n t R xs k)) := Its.fil HRT.out HF2.out ho3
            have HW3 : Hid (Below w.heap.size w w3) := HBT.out _ (HO2.out.trans ho3)
            clear hf3 ho3 k5 k6
            go_wp2_with (at_builtin; refine wpList_append_prw (K := isI) _ rfl (.tmp 44) (.tmp 46) 43 rfl 3 i0 _ 8 Tryz.underlying43 hi hz0 hz1 hz2 rfl ⟨0, rfl⟩ _ _ rfl (Prw.below HR3.out ((Below.refl _ _).alloc (Nat.le_refl _) _)) ⟨w3.heap.size, 0, none⟩ 1 (.int .i64 gk) rfl (by simp) rfl ⟨_, rfl⟩ (by simp [hlc]; unfold maxLen; omega) (by simp [hlc]; omega) ?_; intro v8 w8 hs8 hg8 ha8)
            go_roundw
            case rel =>
              have hA8 : Below w3.heap.size w3 (w3.alloc (.cells #[.int .i64 gk] 3)) := (Below.refl _ _).alloc (Nat.le_refl _) _
              have hwt := HW3.out.size
              refine ⟨k + 1, by omega, by go_num, by rw [HS2.out], HGN.out ⟨HYL.out, HGM.out⟩, HF3.out.grownI hA8 HR3.out hg8, ?_, ?_, ?_⟩
              · unfold Its; rw [goL_succ, List.map_append, HGK.out]; exact hs8
              · intro b hb
                rcases ha8 with h | h
                · exact HON.out b (h ▸ hb)
                · rw [h] at hb; simp at hb; omega
              · exact (HW3.out.trans (hA8.mono hwt)).grown hg8 (by simp; omega) HON.out
            case measure => simp [intOf]; omega
      · have hnwv : lat = nw := by rw [← hnw]; unfold lat1; rw [if_pos (by omega)]
        subst hnwv
        rw [hnw] at HWN HNOW HST
        have HMA : Hid (¬ lat < y.a) := hma
        by_cases hyl : R < y.l
        · have HYL : Hid (R < y.l) := hyl
          go_wp2_with (go_at_call 31; fail)
          refine (fwhen_no _ y.l _ (HR1.out.below HWI.out) HNOW.out.1 HYL.out).mono ?_
          rintro e w2 ⟨rfl, rfl⟩
          go_wp2
          go_ret2
          exact ⟨Or.inr ⟨rfl, HGO.out (fun hh => by have := HYL.out; omega)⟩, HBE.out.trans (HWI.out.mono HBE.out.size)⟩
        · have HYL : Hid (y.l ≤ R) := Int.not_lt.1 hyl
          clear hyl
          obtain ⟨hdw, hss⟩ := HST.out HYL.out
          have HDW : Hid (y.l * t ≤ pas n t R (pas n t R lev lat y.a) lat gk) := by simpa [drwB, Hid] using hdw
          have HSS : Hid (sst n t R xs (k + 1) = (pas n t R (pas n t R lev lat y.a) lat gk - y.l * t, lat1 lat gk)) := by
            show _ = _
            rw [hss, drw, if_pos HDW.out]
          have HPV : Hid (0 ≤ pas n t R (pas n t R lev lat y.a) lat gk ∧ pas n t R (pas n t R lev lat y.a) lat gk ≤ R * t) := pas_room HN.out.1.1 HPB.out.1 HPB.out.2
          clear hdw hss
          go_wp2_with (go_at_call 31; fail)
          refine (HWN.out HYL.out _ (HR1.out.below HWI.out)).mono ?_
          rintro e w2 ⟨rfl, hf2, ho2⟩
          have HF2 : Hid (FilAt w2 f n t R (pas n t R lev lat y.a) lat) := hf2
          have HO2 : Hid (Oth (· = f) (wr.alloc (.cells #[.int .i64 y.a, .int .i64 y.l, .int .i64 y.f, .int .i64 y.b, .int .i64 y.m] 61)) w2) := ho2
          have HRT : Hid (Its w2 u7 (goL n t R xs k)) := Its.fil (Prw.below HBL.out HWI.out) (HR1.out.below HWI.out) ho2
          have HW2 : Hid (Below w.heap.size w w2) := HBT.out _ ho2
          obtain ⟨k5, k6⟩ := HIT.out _ ho2
          clear hf2 ho2
          by_cases hgm : 1000000000 < gk
          · have HGM : Hid (1000000000 < gk) := hgm
            go_wp2
            go_ret2
            exact ⟨Or.inr ⟨rfl, HGO.out (fun hh => by have := HGM.out; omega)⟩, HW2.out⟩
          · have HGM : Hid (gk ≤ 1000000000) := Int.not_lt.1 hgm
            go_wp2_with (go_at_call 25; fail)
            refine (ftake_any gk y.l _ HF2.out HOK.out HPB.out.1 HPB.out.2 HNOW.out.2 HGM.out HYB.out.2 HPV.out).mono ?_
            rw [if_pos HDW.out]
            rintro e w3 ⟨rfl, hf3, ho3⟩
            have HF3 : Hid (FilAt w3 f n t R (sst n t R xs (k + 1)).1 (sst n t R xs (k + 1)).2) := by show FilAt _ _ _ _ _ _ _; rw [HSS.out]; exact hf3
            have HR3 : Hid (Its w3 u7 (goL n t R xs k)) := Its.fil HRT.out HF2.out ho3
            have HW3 : Hid (Below w.heap.size w w3) := HBT.out _ (HO2.out.trans ho3)
            clear hf3 ho3 k5 k6
            go_wp2_with (at_builtin; refine wpList_append_prw (K := isI) _ rfl (.tmp 44) (.tmp 46) 43 rfl 3 i0 _ 8 Tryz.underlying43 hi hz0 hz1 hz2 rfl ⟨0, rfl⟩ _ _ rfl (Prw.below HR3.out ((Below.refl _ _).alloc (Nat.le_refl _) _)) ⟨w3.heap.size, 0, none⟩ 1 (.int .i64 gk) rfl (by simp) rfl ⟨_, rfl⟩ (by simp [hlc]; unfold maxLen; omega) (by simp [hlc]; omega) ?_; intro v8 w8 hs8 hg8 ha8)
            go_roundw
            case rel =>
              have hA8 : Below w3.heap.size w3 (w3.alloc (.cells #[.int .i64 gk] 3)) := (Below.refl _ _).alloc (Nat.le_refl _) _
              have hwt := HW3.out.size
              refine ⟨k + 1, by omega, by go_num, by rw [HS2.out], HGN.out ⟨HYL.out, HGM.out⟩, HF3.out.grownI hA8 HR3.out hg8, ?_, ?_, ?_⟩
              · unfold Its; rw [goL_succ, List.map_append, HGK.out]; exact hs8
              · intro b hb
                rcases ha8 with h | h
                · exact HON.out b (h ▸ hb)
                · rw [h] at hb; simp at hb; omega
              · exact (HW3.out.trans (hA8.mono hwt)).grown hg8 (by simp; omega) HON.out
            case measure => simp [intOf]; omega
    · obtain rfl : k = m := by omega
      go_wp2
      go_ret2
      exact ⟨Or.inl ⟨_, rfl, HG.out, HBL.out⟩, HBE.out⟩
end Go.Proofs.YtnppmigncjakeaaGreatDoor
