/-
  millracelaw.CurveLeast is true at every two rows of numbers; nothing that was there before is otherwise. Conditions: errors.errorType holds its handle; the numbers lie in memory.
-/
import Derived.Test.YtdapgjkjkiighaaDoorLwErr
import Derived.Deep.AppendLies
import Derived.Deep.RegionHeld3
namespace Go.Proofs.YtdapgjkjkiighaaDoor
open Go.RowKit Go.Extern.Stop Go.Stop Go.Extern

theorem below_alloc' {a w : World} (h : Below a.heap.size a w) (o : Obj) : Below a.heap.size a (w.alloc o) := h.alloc h.size o
theorem below_grown' {a w w' : World} {row : Option Nat} (h : Below a.heap.size a w) (hg : w.grownBy w' row) (hr : ∀ k, row = some k → a.heap.size ≤ k) : Below a.heap.size a w' := h.grown hg h.size hr
theorem cleast_long (x y : Option Addr) (cx cy n m : Nat) (w : World) (h : 300 < n ∨ 300 < m) :
    Calls Tryd.prog 5 #[.slice x n cx, .slice y m cy] w fun e w' => e = .returned (.bool true) ∧ Below w.heap.size w w' := by
  have HL : Hid (Calls Tryd.prog 13 #[.slice x n cx, .slice y m cy] w fun e w' => e = .returned (.bool true) ∧ w' = w) := long_yes x y cx cy n m w h
  clear h
  go_enter Tryd.func5, Tryd.ntmps5
  go_wp2_with fail
  refine HL.out.mono ?_
  rintro e w' ⟨rfl, rfl⟩
  go_wp2
  go_ret
  exact ⟨rfl, Below.refl _ _⟩
set_option maxHeartbeats 1000000 in
theorem cleast_no (x y : Option Addr) (cx cy n m : Nat) (f g : Nat → Int) (w : World) (hL : Laid w) (hx : Row w x n f) (hy : Row w y m g) (h3 : n ≤ 300) (h4 : m ≤ 300) (h : ¬ (okC n f ∧ okC m g)) :
    Calls Tryd.prog 5 #[.slice x n cx, .slice y m cy] w fun e w' => e = .returned (.bool true) ∧ Below w.heap.size w w' := by
  have mn : n ≤ maxLen := by unfold maxLen; omega
  have mm : m ≤ maxLen := by unfold maxLen; omega
  have HL : Hid (Calls Tryd.prog 13 #[.slice x n cx, .slice y m cy] w fun e w' => e = .returned (.bool false) ∧ w' = w) := long_no x y cx cy n m w h3 h4
  have HC : Hid (Calls Tryd.prog 14 #[.slice x n cx, .slice y m cy] w fun e w' => e = .returned (.int .i64 (pairE n f m g)) ∧ w' = w) := rcurves_any x y cx cy n m f g w mn mm hx hy
  have HT : Hid (Calls Tryd.prog 18 #[.slice x n cx, .slice y m cy] w fun e w' => e = .returned (.tuple #[.slice none 0 0, .iface 28 (.int .i64 (pairE n f m g))]) ∧ Below w.heap.size w w') := least_no x y cx cy n m f g w mn mm hx hy h
  have hE : pairE n f m g ≠ 0 := fun e => h (pairE_zero.1 e)
  have HB : Hid (∀ W, Laid W → Calls Tryd.prog 10 #[.iface 28 (.int .i64 (pairE n f m g)), .int .i64 (pairE n f m g)] W fun e w' => e = .returned (.bool true) ∧ Below W.heap.size W w') := fun W hW => bare_no _ W hW hE
  have HLA : Hid (Laid w) := hL
  clear hx hy h h3 h4 mn mm hL
  generalize pairE n f m g = E at *
  have hE' : (E == 0) = false := by simpa using hE
  clear hE
  go_enter Tryd.func5, Tryd.ntmps5
  go_wp2_with fail
  refine HL.out.mono ?_
  rintro e w' ⟨rfl, rfl⟩
  go_wp2_with fail
  refine HC.out.mono ?_
  rintro e w' ⟨rfl, rfl⟩
  go_wp2_with fail
  refine wp_loop_rounds 1 ?_
  rw [rounds_succ]
  go_wp2_with fail
  refine HT.out.mono ?_
  rintro e w1 ⟨rfl, hb1⟩
  go_wp2_with fail
  refine (HB.out w1 (HLA.out.below hb1)).mono ?_
  rintro e w2 ⟨rfl, hb2⟩
  have B2 : Hid (Below w'.heap.size w' w2) := hb1.trans (hb2.mono hb1.size)
  clear hb1 hb2
  go_wp2_with fail
  refine (lsame_any none none 0 0 0 (fun _ => 0) w2 (Nat.zero_le _) (Or.inl rfl) (Or.inl rfl)).mono ?_
  rintro e w3 ⟨rfl, hq3⟩
  have B3 : Hid (Below w'.heap.size w' w3) := B2.out.trans (below_of_drew hq3)
  clear hq3
  go_wp2
  go_ret
  exact ⟨rfl, B3.out⟩
theorem least_k (x y : Option Addr) (cx cy n m : Nat) (f g : Nat → Int) (w : World) (hx : Row w x n f) (hy : Row w y m g) (h1 : okC n f) (h2 : okC m g) (k : Nat) (hk : min n m = k) :
    Calls Tryd.prog 18 #[.slice x n cx, .slice y m cy] w fun e w' => ∃ s, e = .returned (.tuple #[.slice (some ⟨s, 0, none⟩) k k, .nilIface]) ∧ Row w' (some ⟨s, 0, none⟩) k (fun i => min (f i) (g i)) ∧ Below w.heap.size w w' := by
  subst hk; exact least_ok x y cx cy n m f g w hx hy h1 h2
set_option maxRecDepth 20000 in
set_option maxHeartbeats 4000000 in
theorem cleast_yes (x y : Option Addr) (cx cy n m : Nat) (f g : Nat → Int) (w : World) (hL : Laid w) (hx : Row w x n f) (hy : Row w y m g) (h1 : okC n f) (h2 : okC m g) :
    Calls Tryd.prog 5 #[.slice x n cx, .slice y m cy] w fun e w' => e = .returned (.bool true) ∧ Below w.heap.size w w' := by
  obtain ⟨i0, hi, hz0, hz1, hz2⟩ := info_parts infoInt
  have h3 := h1.len
  have h4 := h2.len
  have mn : n ≤ maxLen := by unfold maxLen; omega
  have mm : m ≤ maxLen := by unfold maxLen; omega
  obtain ⟨q, hq⟩ : ∃ q, min n m = q := ⟨_, rfl⟩
  have HL : Hid (Calls Tryd.prog 13 #[.slice x n cx, .slice y m cy] w fun e w' => e = .returned (.bool false) ∧ w' = w) := long_no x y cx cy n m w (by omega) (by omega)
  have HC := rcurves_any x y cx cy n m f g w mn mm hx hy
  rw [pairE_zero.2 ⟨h1, h2⟩] at HC
  have HC' : Hid (Calls Tryd.prog 14 #[.slice x n cx, .slice y m cy] w fun e w' => e = .returned (.int .i64 0) ∧ w' = w) := HC
  have HX : Hid (Row w x n f) := hx
  have HY : Hid (Row w y m g) := hy
  have H1 : Hid (okC n f) := h1
  have H2 : Hid (okC m g) := h2
  have HQ : Hid (min n m = q) := hq
  have HLA : Hid (Laid w) := hL
  have hq201 : q ≤ 201 := by omega
  obtain ⟨bx, ox, rfl⟩ := hx.some h1.pos
  obtain ⟨by', oy, rfl⟩ := hy.some h2.pos
  clear hx hy h1 h2 hq HC mn mm hL
  go_enter Tryd.func5, Tryd.ntmps5
  go_wp2_with fail
  refine HL.out.mono ?_
  rintro e w' ⟨rfl, rfl⟩
  go_wp2_with fail
  refine HC'.out.mono ?_
  rintro e w' ⟨rfl, rfl⟩
  go_wp2
  go_loopw [6, 7] (fun o i wr => ∃ k : Nat, k ≤ q ∧ i = .int .i64 k ∧ wr.ownsRow w'.heap.size 3 1 o k (vals (fun i => min (f i) (g i)) k) ∧ Below w'.heap.size w' wr) (fun _ i _ => q - (intOf i).toNat)
  case atStart => exact ⟨0, Nat.zero_le _, rfl, World.ownsRow_nil w' _ _ _, Below.refl _ _⟩
  case round =>
    obtain ⟨k, hk, rfl, hown, hbel⟩ := hrel
    have HO : Hid (wr.ownsRow w'.heap.size 3 1 u6 k (vals (fun i => min (f i) (g i)) k)) := hown
    have HB : Hid (Below w'.heap.size w' wr) := hbel
    by_cases hlt : k < q
    · have hkn : k < n := by have := HQ.out; omega
      have hkm : k < m := by have := HQ.out; omega
      have c0 := (HX.out.below hbel).at hkn
      have c1 := (HY.out.below hbel).at hkm
      have c0' := HX.out.at hkn
      have c1' := HY.out.at hkm
      have HV : Hid (vals (fun i => min (f i) (g i)) (k + 1) = vals (fun i => min (f i) (g i)) k ++ [.int .i64 (min (f k) (g k))]) := vals_succ _ _
      generalize vals (fun i => min (f i) (g i)) k = vv at *
      generalize f k = u at *
      generalize g k = v at *
      have HSS : Hid (∀ W, Below w'.heap.size w' W → W.cell? ⟨bx, ox + k, none⟩ = some (.int .i64 u) ∧ W.cell? ⟨by', oy + k, none⟩ = some (.int .i64 v)) := fun W hW =>
        ⟨by rw [hW.cell (World.block_lt_of_cell? _ _ c0')]; exact c0', by rw [hW.cell (World.block_lt_of_cell? _ _ c1')]; exact c1'⟩
      clear hown hbel c0' c1'
      have HM : Hid (min u v = if v < u then v else u) := by show min u v = if v < u then v else u; split <;> omega
      rw [HM.out] at HV
      go_wp2
      go_region_held3 (fun W => W.cell? ⟨bx, ox + k, none⟩ = some (.int .i64 u) ∧ W.cell? ⟨by', oy + k, none⟩ = some (.int .i64 v)) ((refine HSS.out _ ?_; (repeat (first | exact HB.out | refine Below.drew ?_ | refine below_alloc' ?_ _ | refine below_grown' ?_ hgrow4 (fun i e => (HO.out.lt i e).1))))) ((refine step_append_lies _ (by rfl) (.tmp 32) (.tmp 42) 22 (by rfl) w'.heap.size 3 i0 (.int .i64 0) 1 8 Tryd.underlying22 hi hz0 hz1 hz2 rfl (by decide) _ k vv (by rfl) (ownsRow_below HO.out (by repeat (first | exact Below.refl _ _ | assumption | refine Below.drew ?_ | refine below_alloc' ?_ _))) _ 1 1 [.int .i64 (if v < u then v else u)] (by rfl) rfl (cell_new1 _ _ _) (by simp [Value.oneCell']) (by decide) (by unfold maxLen; omega) (by omega) (by simp; have := HB.out.size; omega) _ rfl ?_; intro g4 cap4 w4 hown4 hgrow4 _ _))
      all_goals
        go_wp2
        go_roundw
        case rel =>
          have hb4 : Below w'.heap.size w' w4 := below_grown' (by repeat (first | exact HB.out | refine Below.drew ?_ | refine below_alloc' ?_ _)) hgrow4 (fun i e => (HO.out.lt i e).1)
          exact ⟨k + 1, by omega, by go_num, by rw [HV.out]; exact hown4, hb4⟩
        case measure => simp [intOf]; omega
    · obtain rfl : k = q := by omega
      obtain ⟨z, cz, rfl, _, _, hrow⟩ := row_of_owns HO.out
      have R1 : Hid (Row wr z k (fun i => min (f i) (g i))) := hrow
      clear hrow hown hbel
      have hcase : ¬ k < n ∨ (k < n ∧ ¬ k < m) := by have := HQ.out; omega
      rcases hcase with hkn | ⟨hkn, hkm⟩
      all_goals
        go_wp2_with fail
        refine (least_k (some ⟨bx, ox, none⟩) (some ⟨by', oy, none⟩) cx cy n m f g wr (HX.out.below HB.out) (HY.out.below HB.out) H1.out H2.out k HQ.out).mono ?_
        rintro e w2 ⟨s, rfl, hr2, hb2⟩
        have R2 : Hid (Row w2 (some ⟨s, 0, none⟩) k (fun i => min (f i) (g i))) := hr2
        have R12 : Hid (Row w2 z k (fun i => min (f i) (g i))) := R1.out.below hb2
        have B2 : Hid (Below w'.heap.size w' w2) := HB.out.trans (hb2.mono HB.out.size)
        clear hr2 hb2
        go_wp2_with fail
        refine (bare_nil w2 (HLA.out.below B2.out)).mono ?_
        rintro e w3 ⟨rfl, hb3⟩
        have R3 : Hid (Row w3 (some ⟨s, 0, none⟩) k (fun i => min (f i) (g i))) := R2.out.below hb3
        have R13 : Hid (Row w3 z k (fun i => min (f i) (g i))) := R12.out.below hb3
        have B3 : Hid (Below w'.heap.size w' w3) := B2.out.trans (hb3.mono B2.out.size)
        clear hb3
        go_wp2_with fail
        refine (lsame_any (some ⟨s, 0, none⟩) z k cz k (fun i => min (f i) (g i)) w3 (by unfold maxLen; omega) R3.out R13.out).mono ?_
        rintro e w4 ⟨rfl, hq4⟩
        have B4 : Hid (Below w'.heap.size w' w4) := B3.out.trans (below_of_drew hq4)
        clear hq4
        go_wp2
        go_ret
        exact ⟨rfl, B4.out⟩
theorem cleast_any (x y : Option Addr) (cx cy n m : Nat) (f g : Nat → Int) (w : World) (hL : Laid w) (hx : Row w x n f) (hy : Row w y m g) :
    Calls Tryd.prog 5 #[.slice x n cx, .slice y m cy] w fun e w' => e = .returned (.bool true) ∧ Below w.heap.size w w' := by
  by_cases h : 300 < n ∨ 300 < m
  · exact cleast_long x y cx cy n m w h
  by_cases hk : okC n f ∧ okC m g
  · exact cleast_yes x y cx cy n m f g w hL hx hy hk.1 hk.2
  · exact cleast_no x y cx cy n m f g w hL hx hy (by omega) (by omega) hk
end Go.Proofs.YtdapgjkjkiighaaDoor
