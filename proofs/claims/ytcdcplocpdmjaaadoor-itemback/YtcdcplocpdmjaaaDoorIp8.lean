/-
  millraceref.ItemParse is parseI. Conditions: what strconv, bytealg and millraceref.Fine lay is laid; the text has 20000 bytes at most.
-/
import Derived.Test.YtcdcplocpdmjaaaDoorIp7
import Derived.Deep.LoopGhost
namespace Go.Proofs.YtcdcplocpdmjaaaDoor
open Go.RowKit Go.Shelf Go.Extern.Stop Go.Stop Go.Extern

/-- What millraceref.ItemParse leaves. -/
def RiQ (w : World) (R : Except (Int × Nat) (List It)) (e : Ending) (w' : World) : Prop := Below w.heap.size w w' ∧ ((∃ l lv, R = .ok l ∧ e = .returned (.tuple #[lv, .agg #[.int .i64 0, .int .i64 (-1)]]) ∧ Seg w' 39 5 lv l.length (flt itC l) ∧ ∀ j, lv.ownBlock = some j → w.heap.size ≤ j) ∨
  ∃ (ec : Int) (ep : Nat), R = .error (ec, ep) ∧ ec ≠ 0 ∧ e = .returned (.tuple #[.slice none 0 0, .agg #[.int .i64 ec, .int .i64 ep]]))
theorem hid_of {p : Prop} (h : p) : Hid p := h
/-- Five words, their numbers, and what the line is by them. -/
theorem five_facts {w : World} {ws : List (List UInt8)} {Y : Option It} (h5 : ws.length = 5) (hY : Y = fiveL (ws.map numL)) (HNU : ∀ y ∈ ws, ∀ w1, Below w.heap.size w w1 → Calls Tryd.prog 14 #[.string ⟨y.toArray⟩] w1 fun e w' => e = .returned (.tuple #[.int .i64 ((numL y).getD 0), .bool (numL y).isSome]) ∧ Below w1.heap.size w1 w') :
    ∃ m0 m1 m2 m3 m4 : Option Int, (∀ i, i < 5 → ∃ (y : List UInt8) (n : Option Int), ws[i]? = some y ∧ [m0, m1, m2, m3, m4][i]? = some n ∧ ∀ w1, Below w.heap.size w w1 → Calls Tryd.prog 14 #[.string ⟨y.toArray⟩] w1 fun e w' => e = .returned (.tuple #[.int .i64 (n.getD 0), .bool n.isSome]) ∧ Below w1.heap.size w1 w') ∧
      (∀ i : Nat, [m0, m1, m2, m3, m4][i]? = some none → Y = none) ∧ ((∀ i : Nat, i < 5 → ([m0, m1, m2, m3, m4].getD i none).isSome = true) → Y = some ⟨m0.getD 0, m1.getD 0, m2.getD 0, m3.getD 0, m4.getD 0⟩) ∧ ∀ i n, [m0, m1, m2, m3, m4][i]? = some (some n) → n = [m0.getD 0, m1.getD 0, m2.getD 0, m3.getD 0, m4.getD 0].getD i 0 := by
  obtain ⟨y0, y1, y2, y3, y4, rfl⟩ := five_list h5
  refine ⟨numL y0, numL y1, numL y2, numL y3, numL y4, ?_, ?_, ?_, ?_⟩
  · intro i hi
    match i, hi with
    | 0, _ => exact ⟨y0, numL y0, rfl, rfl, HNU y0 (by simp)⟩
    | 1, _ => exact ⟨y1, numL y1, rfl, rfl, HNU y1 (by simp)⟩
    | 2, _ => exact ⟨y2, numL y2, rfl, rfl, HNU y2 (by simp)⟩
    | 3, _ => exact ⟨y3, numL y3, rfl, rfl, HNU y3 (by simp)⟩
    | 4, _ => exact ⟨y4, numL y4, rfl, rfl, HNU y4 (by simp)⟩
  all_goals (have hY' : Y = fiveL [numL y0, numL y1, numL y2, numL y3, numL y4] := hY; clear hY HNU h5; generalize numL y0 = m0 at *; generalize numL y1 = m1 at *; generalize numL y2 = m2 at *; generalize numL y3 = m3 at *; generalize numL y4 = m4 at *)
  · intro i hi
    rw [hY']
    match i with
    | 0 => obtain rfl := Option.some.inj hi; rfl
    | 1 => obtain rfl := Option.some.inj hi; cases m0 <;> rfl
    | 2 => obtain rfl := Option.some.inj hi; cases m0 <;> cases m1 <;> rfl
    | 3 => obtain rfl := Option.some.inj hi; cases m0 <;> cases m1 <;> cases m2 <;> rfl
    | 4 => obtain rfl := Option.some.inj hi; cases m0 <;> cases m1 <;> cases m2 <;> cases m3 <;> rfl
    | i + 5 => simp at hi
  · intro h
    have a0 := h 0 (by decide); have a1 := h 1 (by decide); have a2 := h 2 (by decide); have a3 := h 3 (by decide); have a4 := h 4 (by decide)
    rw [hY']
    cases m0 <;> cases m1 <;> cases m2 <;> cases m3 <;> cases m4 <;> simp_all [fiveL]
  · intro i n hn
    match i with
    | 0 => obtain rfl := Option.some.inj hn; rfl
    | 1 => obtain rfl := Option.some.inj hn; rfl
    | 2 => obtain rfl := Option.some.inj hn; rfl
    | 3 => obtain rfl := Option.some.inj hn; rfl
    | 4 => obtain rfl := Option.some.inj hn; rfl
    | i + 5 => simp at hn
set_option maxRecDepth 100000 in
set_option maxHeartbeats 8000000 in
theorem riparse_any (s : ByteArray) (w : World) (hs : s.size ≤ 20000) (hG : GlobM w) (hF : FineLaid w) :
    Calls Tryd.prog 5 #[.string s] w fun e w' => RiQ w (parseI s.data.toList) e w' := by
  have hsz : s.data.toList.length = s.size := Array.length_toList
  have d1 : decide ((20000 : Int) < (s.size : Int)) = false := by simp; omega
  have hb0 : Below w.heap.size w (res0 w) := below_alloc_ (Below.refl _ _) _
  have HGW : Hid (∀ W, Below w.heap.size w W → GlobM W ∧ FineLaid W) := fun W h => ⟨hG.below h, hF.below h⟩
  have HWD := words_any s 10 (res0 w) hs (hG.below hb0)
  have hz0 : (res0 w).heap.size = w.heap.size + 1 := by simp
  rw [hz0] at HWD
  have HLF : Hid (LeftI (cutL 10 s.data.toList) (parseI s.data.toList) [] 0 0) := LeftI.start _ (by omega)
  have hmany := (cutL_many 10 s.data.toList).1
  have hone := (cutL_many 10 s.data.toList).2
  have HLN : Hid (∀ x ∈ cutL 10 s.data.toList, x.length ≤ 20000) := fun x hx => by have := cutL_len 10 s.data.toList x hx; omega
  generalize cutL 10 s.data.toList = xs at *
  generalize parseI s.data.toList = R at *
  clear hG hF
  go_enter Tryd.func5, Tryd.ntmps5
  go_wp2_with fail
  refine HWD.mono ?_
  rintro e w1 ⟨rfl, hw, hb1⟩
  have HRP : Hid (RpI w xs (.slice none 0 0) [] w1) := ⟨(hb1.block _ (by simp)).trans (new_block _ _), hw, Seg.nil _ _ _, fun j hj => by simp [Value.ownBlock] at hj, hb0.trans (hb1.mono (by simp)), by obtain ⟨x0, hx0⟩ : ∃ x, xs[0]? = some x := ⟨_, List.getElem?_eq_getElem (by omega)⟩; exact cell_ltN (hw 0 x0 hx0)⟩
  clear hw hb1 HWD hb0 hz0
  go_wp2_with fail
  go_loopg [20, 4, 5, 7, 8, 9, 10, 11, 12] xs.length (fun g v20 v4 v5 _ _ _ _ _ _ wx => ∃ (i p : Nat) (l : List It), i + g = xs.length ∧ v20 = .int .i64 i ∧ v5 = .int .i64 p ∧ Hid (LeftI xs R l p i) ∧ Hid (RpI w xs v4 l wx))
  case atStart => exact ⟨0, 0, [], by omega, rfl, rfl, HLF, HRP⟩
  case round =>
    obtain ⟨i, p, l, hig, rfl, rfl, HL, HR⟩ := hrel
    have hl20 : xs.length ≤ 20001 := by omega
    by_cases hi : i < xs.length
    · obtain ⟨x, hx⟩ : ∃ x, xs[i]? = some x := ⟨_, List.getElem?_eq_getElem hi⟩
      have q0 : wr.cell? ⟨w.heap.size + 1, i, none⟩ = some (.string ⟨x.toArray⟩) := by have h := HR.out.wds i x hx; rwa [Nat.zero_add] at h
      have hpb := HL.out.bound hx
      have hi1 : (i : Int) < xs.length := by omega
      by_cases hn : x = []
      · subst hn
        have HL2 := HL.out.skip hx
        go_wp2
        go_roundg (gk - 1)
        case measure => omega
        case rel => exact ⟨i + 1, p + 1, l, by omega, by go_num, by go_num, HL2, HR⟩
      · have HX : Hid (xs[i]? = some x) := hx
        have HN : Hid (x ≠ []) := hn
        have o1 : x.isEmpty = false := List.isEmpty_eq_false_iff.2 hn
        have hxl : x.length ≤ 20000 := HLN.out x (List.mem_of_getElem? hx)
        have e9 : (⟨x.toArray⟩ : ByteArray).data.toList = x := List.toList_toArray
        have HW := words_any ⟨x.toArray⟩ 32 wr (by show x.toArray.size ≤ 20000; rw [List.size_toArray]; exact hxl) (HGW.out wr HR.out.bel).1
        rw [e9] at HW
        have HNU : Hid (∀ y ∈ cutL 32 x, ∀ w1, Below w.heap.size w w1 → Calls Tryd.prog 14 #[.string ⟨y.toArray⟩] w1 fun e w' => e = .returned (.tuple #[.int .i64 ((numL y).getD 0), .bool (numL y).isSome]) ∧ Below w1.heap.size w1 w') := by
          intro y hy w1 h
          have hl := cutL_len 32 x y hy
          exact rnumber_any' ⟨y.toArray⟩ w1 (by show y.toArray.size ≤ 20000; rw [List.size_toArray]; omega) (HGW.out w1 h).1.1
        have HRL : Hid (rowL x = fiveL ((cutL 32 x).map numL)) := rfl
        have hmw := (cutL_many 32 x).1
        clear hx hn e9
        generalize cutL 32 x = ws at *
        go_wp2_with fail
        refine HW.mono ?_
        rintro e w2 ⟨rfl, hw2, hb2⟩
        have HR2 : Hid (RpI w xs u4 l w2) := HR.out.below hb2
        have HW2 : Hid (∀ (j : Nat) y, ws[j]? = some y → w2.cell? ⟨wr.heap.size, 0 + j, none⟩ = some (.string ⟨y.toArray⟩)) := hw2
        clear hw2 hb2 HW HR q0
        by_cases h5 : ws.length = 5
        · obtain ⟨m0, m1, m2, m3, m4, hF1, hF2, hF3, hF4⟩ := five_facts h5 HRL.out HNU.out
          have HNN := hid_of hF1
          have HNO := hid_of hF2
          have HYES := hid_of hF3
          have HVAL := hid_of hF4
          clear hF1 hF2 hF3 hF4 HNU
          have d5 : ((ws.length : Int) == 5) = true := by simp; omega
          have HA0 : Hid (AwI w2 w2.heap.size wr.heap.size ws (m0.getD 0) (m1.getD 0) (m2.getD 0) (m3.getD 0) (m4.getD 0) 0 (w2.alloc (.cells #[.int .i64 0, .int .i64 0, .int .i64 0, .int .i64 0, .int .i64 0] 44))) := by
            obtain ⟨y0, hy0⟩ : ∃ y, ws[0]? = some y := ⟨_, List.getElem?_eq_getElem (by omega)⟩
            have hlt2 : wr.heap.size < w2.heap.size := cell_ltN (HW2.out 0 y0 hy0)
            refine ⟨new_block _ _, fun j y hj => ?_, ⟨by omega, Nat.le_refl _⟩, below_alloc_ (Below.refl _ _) _⟩
            rw [World.cell?_alloc_lt _ _ ⟨wr.heap.size, 0 + j, none⟩ hlt2]
            exact HW2.out j y hj
          go_wp2_with fail
          generalize wr.heap.size = B at *
          go_loopg [10, 11] 6 (fun g v10 v11 wx => ∃ (k : Nat) (b : Bool), k + g = 6 ∧ k ≤ 5 ∧ v11 = .int .i64 k ∧ v10 = .bool b ∧ Hid (Below w2.heap.size w2 wx) ∧ Hid (b = true → AwI w2 w2.heap.size B ws (m0.getD 0) (m1.getD 0) (m2.getD 0) (m3.getD 0) (m4.getD 0) k wx ∧ ∀ j, j < k → ([m0, m1, m2, m3, m4].getD j none).isSome = true) ∧ Hid (b = false → rowL x = none))
          case atStart => exact ⟨0, true, by omega, by omega, rfl, rfl, HA0.out.bel, fun _ => ⟨HA0.out, fun j hj => by omega⟩, fun h => by cases h⟩
          case round =>
            obtain ⟨k, b, hkg, hk5, rfl, rfl, HB, HT, HFA⟩ := hrel
            cases b with
            | false =>
              have HE := hid_of (HL.out.form HX.out HN.out (HFA.out rfl))
              have HR3 := HR2.out.below HB.out
              have HB3 := hid_of HR3.bel
              obtain ⟨r0, r1, r2, r3⟩ := cells2r HR3.res
              have hlt := lt_of_block HR3.res
              clear HR3
              go_wp2
              all_goals (try simp only [Exit.inBlock, Exit.then])
              all_goals refine bodyPost_ret (v := .tuple #[.slice none 0 0, .agg #[.int .i64 3, .int .i64 p]]) ?_ rfl ⟨?_, Or.inr ⟨3, p, HE.out, by decide, rfl⟩⟩
              any_goals exact (HB3.out.setCell (Nat.le_refl _) _).setCell (Nat.le_refl _) _
              all_goals (rw [results_tmp_cell rfl]; go_simp; try rfl)
            | true =>
              obtain ⟨hA, hAL⟩ := HT.out rfl
              have HAW := hid_of hA
              have HAL := hid_of hAL
              clear hA hAL HT HFA
              by_cases hk : k < 5
              · obtain ⟨y, n, hy, hn, hc⟩ := HNN.out k hk
                have q1 : wr.cell? ⟨B, k, none⟩ = some (.string ⟨y.toArray⟩) := by have h := HAW.out.wds k y hy; rwa [Nat.zero_add] at h
                have HC := hc wr (HR2.out.below HB.out).bel
                have hk1 : (k : Int) < 5 := by omega
                clear hy hc
                go_wp2_with fail
                refine HC.mono ?_
                rintro e w3 ⟨rfl, hb3⟩
                have HA3 := hid_of (HAW.out.below hb3)
                have g0 := HA3.out.cells.1 k hk
                obtain ⟨u, hu⟩ := Option.isSome_iff_exists.1 (HA3.out.cells.2 k hk)
                clear hb3 HC q1
                cases n with
                | none =>
                  have HNo := hid_of (HNO.out k hn)
                  have HBN := hid_of (HA3.out.bel.setCell (p := ⟨w2.heap.size, k, none⟩) (Nat.le_refl _) (.int .i64 0))
                  clear hn
                  go_wp2
                  go_roundg (gk - 1)
                  case measure => omega
                  case rel => exact ⟨k + 1, false, by omega, by omega, by go_num, rfl, HBN, (fun h => by cases h), fun _ => HNo.out⟩
                | some n =>
                  have HVN := HVAL.out k n hn
                  have HAN := hid_of (HA3.out.set hk n HVN)
                  have HAM : Hid (∀ j, j < k + 1 → ([m0, m1, m2, m3, m4].getD j none).isSome = true) := by
                    intro j hj
                    rcases (by omega : j < k ∨ j = k) with h | rfl
                    · exact HAL.out j h
                    · rw [List.getD_eq_getElem?_getD, hn]; rfl
                  clear hn HVN
                  go_wp2
                  go_roundg (gk - 1)
                  case measure => omega
                  case rel => exact ⟨k + 1, true, by omega, by omega, by go_num, rfl, HAN.out.bel, (fun _ => ⟨HAN.out, HAM.out⟩), fun h => by cases h⟩
              · obtain rfl : k = 5 := by omega
                have HYY := hid_of (HYES.out HAL.out)
                obtain ⟨⟨e0, e1, e2, e3, e4⟩, -⟩ := cells5f HAW.out.arr
                simp only [show (0 : Nat) < 5 from by decide, show (1 : Nat) < 5 from by decide, show (2 : Nat) < 5 from by decide, show (3 : Nat) < 5 from by decide, show (4 : Nat) < 5 from by decide, if_true] at e0 e1 e2 e3 e4
                have HR3 := hid_of (HR2.out.below HB.out)
                have hll := HL.out.2.2
                obtain ⟨i0, hi0, hz0, hz1, hz2⟩ := info_parts infoItem
                go_wp2_with (at_builtin; refine wpList_append_seg _ rfl (.tmp 52) (.tmp 64) 22 rfl 39 i0 _ 5 40 Tryd.underlying22 hi0 hz0 hz1 hz2 rfl (by decide) u4 l.length (flt itC l) rfl (Seg.alloc HR3.out.row _) ⟨wr.heap.size, 0, none⟩ 1 1 (itC ⟨m0.getD 0, m1.getD 0, m2.getD 0, m3.getD 0, m4.getD 0⟩) rfl rfl (news5 _ _ _ _ _ _ _) (itC_one _) (by decide) (by unfold maxLen; omega) (by omega) _ rfl ?_; intro g1 off1 cap1 w5 hs5 hg5 ha5 hl5)
                have HR5 := hid_of (HR3.out.step (below_alloc_ (Below.refl _ _) _) hg5 hs5 ha5)
                clear hs5 hg5 ha5 hl5
                generalize (⟨m0.getD 0, m1.getD 0, m2.getD 0, m3.getD 0, m4.getD 0⟩ : It) = z at *
                have hel : (l ++ [z]).length = l.length + 1 := by simp
                have HLC : Calls Tryd.prog 15 #[.slice (some ⟨g1, off1, none⟩) (l.length + 1) cap1] w5 fun e w' => e = .returned (.agg #[.int .i64 (listE (l ++ [z])).1, .int .i64 (listE (l ++ [z])).2]) ∧ Below w5.heap.size w5 w' := by
                  by_cases h100 : 100 < l.length + 1
                  · have he : listE (l ++ [z]) = (4, -1) := by unfold listE; rw [hel, if_pos h100]
                    rw [he]
                    exact rlist_long _ _ _ w5 h100 (by unfold maxLen; omega)
                  · have h := HR5.out.row
                    rw [hel] at h
                    have := rlist_some g1 off1 cap1 (l ++ [z]) w5 (HGW.out w5 HR5.out.bel).2 (seg_items (cap := cap1) (by rw [hel]; exact h)) (by omega) (by omega)
                    rw [hel] at this
                    exact this
                have HG := hid_of (fun h => HL.out.good HX.out HN.out HYY.out h)
                have HBD := hid_of (fun h => HL.out.bad HX.out HN.out HYY.out h)
                generalize (listE (l ++ [z])).1 = E at *
                generalize (listE (l ++ [z])).2 = P at *
                refine HLC.mono ?_
                rintro e w6 ⟨rfl, hb6⟩
                have HR7 := hid_of ((HR5.out.below hb6).below (below_alloc_ (Below.refl _ _) (.cells #[.int .i64 E, .int .i64 P] 25)))
                clear hb6 HLC HR5 hel
                by_cases hE : E = 0
                · have HL2 := hid_of (HG.out hE)
                  clear HG HBD
                  subst hE
                  go_wp2
                  go_roundg (xs.length - (i + 1))
                  case measure => omega
                  case rel => exact ⟨i + 1, p + x.length + 1, l ++ [z], by omega, by go_num, by go_num, HL2, HR7⟩
                · have HE := hid_of (HBD.out hE)
                  have HNE := hid_of hE
                  have dE : (E == 0) = false := by simpa using hE
                  clear HG HBD hE
                  obtain ⟨r0, r1, r2, r3⟩ := cells2r HR7.out.res
                  have hlt := lt_of_block HR7.out.res
                  go_wp2
                  go_region
                  all_goals go_wp2
                  (try simp only [Exit.inBlock, Exit.then])
                  refine bodyPost_ret (v := .tuple #[.slice none 0 0, .agg #[.int .i64 E, .int .i64 p]]) ?_ rfl ⟨?_, Or.inr ⟨E, p, HE.out, HNE.out, rfl⟩⟩
                  · rw [results_tmp_cell rfl]
                    go_simp
                    try rfl
                  · repeat' (first | exact HR7.out.bel | refine Below.drew ?_ | refine Below.setCell ?_ ?_ _)
                    all_goals exact Nat.le_refl _
        · have HE := HL.out.form HX.out HN.out (by rw [HRL.out]; exact fiveL_len (by rw [List.length_map]; exact h5))
          have d5 : ((ws.length : Int) == 5) = false := by simp; omega
          have HB3 : Hid (Below w.heap.size w (w2.alloc (.cells #[.int .i64 0, .int .i64 0, .int .i64 0, .int .i64 0, .int .i64 0] 44))) := below_alloc_ HR2.out.bel _
          have k3 : (w2.alloc (.cells #[.int .i64 0, .int .i64 0, .int .i64 0, .int .i64 0, .int .i64 0] 44)).heap[w.heap.size]? = some (.cells #[.int .i64 0, .int .i64 0] 25 (0, 0)) := (Below.heap_alloc _ _ _ (lt_of_block HR2.out.res)).trans HR2.out.res
          go_wp2_with fail
          generalize w2.alloc (.cells #[.int .i64 0, .int .i64 0, .int .i64 0, .int .i64 0, .int .i64 0] 44) = w3 at *
          obtain ⟨r0, r1, r2, r3⟩ := cells2r k3
          have hlt := lt_of_block k3
          refine wp_loop_rounds 1 ?_
          rw [rounds_succ]
          go_wp2
          (try simp only [Exit.inBlock, Exit.then])
          refine bodyPost_ret (v := .tuple #[.slice none 0 0, .agg #[.int .i64 3, .int .i64 p]]) ?_ rfl ⟨?_, Or.inr ⟨3, p, HE, by decide, rfl⟩⟩
          · rw [results_tmp_cell rfl]
            go_simp
            try rfl
          · exact (HB3.out.setCell (Nat.le_refl _) _).setCell (Nat.le_refl _) _
    · obtain rfl : i = xs.length := by omega
      have HA := HL.out.all
      obtain ⟨f0, f1⟩ := (HGW.out _ HR.out.bel).2
      obtain ⟨r0, r1, r2, r3⟩ := cells2r HR.out.res
      have hlt := lt_of_block HR.out.res
      go_wp2
      go_region
      all_goals go_wp2
      (try simp only [Exit.inBlock, Exit.then])
      refine bodyPost_ret (v := .tuple #[u4, .agg #[.int .i64 0, .int .i64 (-1)]]) ?_ rfl ⟨?_, Or.inl ⟨l, _, HA, rfl, ?_, ?_⟩⟩
      · rw [results_tmp_cell rfl]
        go_simp
        try rfl
      · repeat' (first | exact HR.out.bel | refine Below.drew ?_ | refine Below.setCell ?_ ?_ _)
        all_goals exact Nat.le_refl _
      · exact (HR.out.row.setCell (p := ⟨w.heap.size, 0, none⟩) (fun e => by have h9 : w.heap.size + 2 ≤ w.heap.size := HR.out.own _ e; omega) _).setCell (p := ⟨w.heap.size, 1, none⟩) (fun e => by have h9 : w.heap.size + 2 ≤ w.heap.size := HR.out.own _ e; omega) _
      · exact fun j hj => by have := HR.out.own j hj; omega
end Go.Proofs.YtcdcplocpdmjaaaDoor
