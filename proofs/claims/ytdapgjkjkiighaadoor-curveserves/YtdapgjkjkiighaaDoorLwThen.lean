/-
  millraceref.Then: of curves that may be, in new memory, the least sums; millracelaw.CurveThen is true at every two rows of numbers; nothing that was there before is otherwise. Conditions: errors.errorType holds its handle; the numbers lie in memory.
-/
import Derived.Test.YtdapgjkjkiighaaDoorLwErr
namespace Go.Proofs.YtdapgjkjkiighaaDoor
open Go.RowKit Go.Extern.Stop Go.Stop Go.Extern

/-- The best so far; -1: none. -/
def best (g : Nat → Int) (j : Nat) : Int := if j = 0 then -1 else pm g j
theorem best_zero (g : Nat → Int) : best g 0 = -1 := rfl
theorem best_pos (g : Nat → Int) {j : Nat} (h : 0 < j) : best g j = pm g j := if_neg (by omega)
theorem best_one (g : Nat → Int) : best g 1 = g 0 := by rw [best_pos g (by omega)]; simp [pm]
theorem best_next (g : Nat → Int) {j : Nat} (h : 0 < j) : best g (j + 1) = min (best g j) (g j) := by rw [best_pos g (by omega), best_pos g h]; rfl
theorem best_low {g : Nat → Int} {j : Nat} (h : 0 < j) (hg : ∀ i, i < j → 0 ≤ g i) : 0 ≤ best g j := by
  rw [best_pos g h]
  obtain ⟨i, hi, e⟩ := pm_ex g j h
  rw [e]; exact hg i hi

set_option maxRecDepth 20000 in
set_option maxHeartbeats 4000000 in
theorem rthen_any (x y : Option Addr) (cx cy n m : Nat) (f g : Nat → Int) (w : World) (hx : Row w x n f) (hy : Row w y m g) (h1 : okC n f) (h2 : okC m g) (q : Nat) (hq : min n m = q) :
    Calls Tryd.prog 15 #[.slice x n cx, .slice y m cy] w fun e w' => ∃ z cz, e = .returned (.slice z q cz) ∧ Row w' z q (conv f g) ∧ Below w.heap.size w w' := by
  obtain ⟨i0, hi, hz0, hz1, hz2⟩ := info_parts infoInt
  have HX : Hid (Row w x n f) := hx
  have HY : Hid (Row w y m g) := hy
  have H1 : Hid (okC n f) := h1
  have H2 : Hid (okC m g) := h2
  have b1 := h1.len
  have b2 := h2.len
  have HQ : Hid (min n m = q) := hq
  have hqn : q ≤ n := by omega
  have hqm : q ≤ m := by omega
  clear hx hy h1 h2 hq
  go_enter Tryd.func15, Tryd.ntmps15
  go_wp2
  go_loopw [5, 6] (fun o i wr => ∃ k : Nat, k ≤ q ∧ i = .int .i64 k ∧ wr.ownsRow w.heap.size 3 1 o k (vals (conv f g) k) ∧ Below w.heap.size w wr) (fun _ i _ => q - (intOf i).toNat)
  case atStart => exact ⟨0, Nat.zero_le _, rfl, World.ownsRow_nil w _ _ _, Below.refl _ _⟩
  case round =>
    obtain ⟨k, hk, rfl, hown, hbel⟩ := hrel
    have HO : Hid (wr.ownsRow w.heap.size 3 1 u5 k (vals (conv f g) k)) := hown
    have HB : Hid (Below w.heap.size w wr) := hbel
    clear hown hbel
    by_cases hlt : k < q
    · have hkn : k < n := by omega
      have hkm : k < m := by omega
      have RX : Hid (Row wr x n f) := HX.out.below HB.out
      have RY : Hid (Row wr y m g) := HY.out.below HB.out
      obtain ⟨b, off, rfl⟩ := RX.out.some (by omega)
      obtain ⟨b', off', rfl⟩ := RY.out.some (by omega)
      obtain ⟨wo, hwo⟩ : ∃ wo, wo = wr := ⟨_, rfl⟩
      subst hwo
      go_wp2
      go_loopw [7, 8] (fun v i w2 => ∃ j : Nat, j ≤ k + 1 ∧ i = .int .i64 j ∧ v = .int .i64 (best (fun s => f s + g (k - s)) j) ∧ ∃ p, w2 = wo.drewN p) (fun _ i _ => k + 1 - (intOf i).toNat)
      case atStart => exact ⟨0, Nat.zero_le _, rfl, rfl, 0, rfl⟩
      case round =>
        obtain ⟨j, hj, rfl, rfl, p, rfl⟩ := hrel
        by_cases hjk : j < k + 1
        · have c0 := RX.out.at (i := j) (by omega)
          have c1 := RY.out.at (i := k - j) (by omega)
          have d0 := H1.out.low j (by omega)
          have d1 := H1.out.top j (by omega)
          have d2 := H2.out.low (k - j) (by omega)
          have d3 := H2.out.top (k - j) (by omega)
          have e0 : IntKind.i64.wrap (f j + g (k - j)) = f j + g (k - j) := by rw [IntKind.wrap_i64]; omega
          have e1 : ((k : Int) - j).toNat = k - j := by omega
          by_cases hj0 : j = 0
          · subst hj0
            have HP : Hid (best (fun s => f s + g (k - s)) (0 + 1) = f 0 + g k) := best_one _
            rw [best_zero]
            rw [Nat.add_zero] at c0
            rw [Nat.sub_zero] at c1 d2 d3 e0
            clear e1
            generalize f 0 = u at *
            generalize g k = v at *
            go_wp2
            go_quiet (fail)
            go_wp2
            go_roundw
            case rel => exact ⟨0 + 1, by omega, by go_num, by rw [HP.out], _, rfl⟩
            case measure => simp [intOf]
          · have HP : Hid (best (fun s => f s + g (k - s)) (j + 1) = min (best (fun s => f s + g (k - s)) j) (f j + g (k - j))) := best_next _ (by omega)
            have hlow : 0 ≤ best (fun s => f s + g (k - s)) j := best_low (by omega) fun i hi => by
              have := H1.out.low i (by omega)
              have := H2.out.low (k - i) (by omega)
              omega
            generalize best (fun s => f s + g (k - s)) j = r at *
            generalize f j = u at *
            generalize g (k - j) = v at *
            by_cases hm : u + v < r
            · have HM : Hid (u + v < r) := hm
              go_wp2
              go_quiet (fail)
              go_wp2
              go_roundw
              case rel => exact ⟨j + 1, by omega, by go_num, by rw [HP.out]; have := HM.out; congr 1; omega, _, rfl⟩
              case measure => simp [intOf]; omega
            · have HM : Hid (r ≤ u + v) := Int.not_lt.1 hm
              go_wp2
              go_quiet (fail)
              go_wp2
              go_roundw
              case rel => exact ⟨j + 1, by omega, by go_num, by rw [HP.out]; have := HM.out; congr 1; omega, _, rfl⟩
              case measure => simp [intOf]; omega
        · obtain rfl : j = k + 1 := by omega
          have e : best (fun s => f s + g (k - s)) (k + 1) = conv f g k := best_pos _ (by omega)
          rw [e]
          clear e
          go_wp2_with (at_builtin; refine wpList_append_own _ rfl _ _ 22 rfl w.heap.size 3 i0 (.int .i64 0) 1 8 Tryd.underlying22 hi hz0 hz1 hz2 rfl (by decide) _ _ _ rfl ((ownsRow_below HO.out (below_of_drew ⟨p, rfl⟩)).alloc _) ⟨wo.heap.size, 0, none⟩ 1 1 [.int .i64 (conv f g k)] rfl rfl (cell_new1 _ _ _) (by simp [Value.oneCell']) (by unfold maxLen; omega) (by omega) (by simp; have := HB.out.size; omega) ?_; intro v' w4 hown4 hgrow4 _)
          go_roundw
          case rel =>
            have hb4 : Below w.heap.size w w4 := ((below_drewN' HB.out p).alloc HB.out.size _).grown hgrow4 (by simp; have := HB.out.size; omega) (fun i e => (HO.out.lt i e).1)
            exact ⟨k + 1, by omega, by go_num, by rw [vals_succ]; exact hown4, hb4⟩
          case measure => simp [intOf]; omega
    · obtain rfl : k = q := by omega
      obtain ⟨z, cz, rfl, _, _, hrow⟩ := row_of_owns HO.out
      have HR : Hid (Row wr z k (conv f g)) := hrow
      clear hrow
      by_cases hkn : k < n
      · have hkm : ¬ k < m := by have := HQ.out; omega
        go_wp2
        go_ret
        exact ⟨z, cz, rfl, HR.out, HB.out⟩
      · go_wp2
        go_ret
        exact ⟨z, cz, rfl, HR.out, HB.out⟩
theorem cthen_long (x y : Option Addr) (cx cy n m : Nat) (w : World) (h : 300 < n ∨ 300 < m) :
    Calls Tryd.prog 4 #[.slice x n cx, .slice y m cy] w fun e w' => e = .returned (.bool true) ∧ Below w.heap.size w w' := by
  have HL : Hid (Calls Tryd.prog 13 #[.slice x n cx, .slice y m cy] w fun e w' => e = .returned (.bool true) ∧ w' = w) := long_yes x y cx cy n m w h
  clear h
  go_enter Tryd.func4, Tryd.ntmps4
  go_wp2_with fail
  refine HL.out.mono ?_
  rintro e w' ⟨rfl, rfl⟩
  go_wp2
  go_ret
  exact ⟨rfl, Below.refl _ _⟩
set_option maxHeartbeats 1000000 in
theorem cthen_no (x y : Option Addr) (cx cy n m : Nat) (f g : Nat → Int) (w : World) (hL : Laid w) (hx : Row w x n f) (hy : Row w y m g) (h3 : n ≤ 300) (h4 : m ≤ 300) (h : ¬ (okC n f ∧ okC m g)) :
    Calls Tryd.prog 4 #[.slice x n cx, .slice y m cy] w fun e w' => e = .returned (.bool true) ∧ Below w.heap.size w w' := by
  have mn : n ≤ maxLen := by unfold maxLen; omega
  have mm : m ≤ maxLen := by unfold maxLen; omega
  have HL : Hid (Calls Tryd.prog 13 #[.slice x n cx, .slice y m cy] w fun e w' => e = .returned (.bool false) ∧ w' = w) := long_no x y cx cy n m w h3 h4
  have HC : Hid (Calls Tryd.prog 14 #[.slice x n cx, .slice y m cy] w fun e w' => e = .returned (.int .i64 (pairE n f m g)) ∧ w' = w) := rcurves_any x y cx cy n m f g w mn mm hx hy
  have HT : Hid (Calls Tryd.prog 16 #[.slice x n cx, .slice y m cy] w fun e w' => e = .returned (.tuple #[.slice none 0 0, .iface 28 (.int .i64 (pairE n f m g))]) ∧ w' = w) := then_no x y cx cy n m f g w mn mm hx hy h
  have hE : pairE n f m g ≠ 0 := fun e => h (pairE_zero.1 e)
  have HB : Hid (Calls Tryd.prog 10 #[.iface 28 (.int .i64 (pairE n f m g)), .int .i64 (pairE n f m g)] w fun e w' => e = .returned (.bool true) ∧ Below w.heap.size w w') := bare_no _ w hL hE
  clear hx hy h h3 h4 mn mm
  generalize pairE n f m g = E at *
  have hE' : (E == 0) = false := by simpa using hE
  clear hE
  go_enter Tryd.func4, Tryd.ntmps4
  go_wp2_with fail
  refine HL.out.mono ?_
  rintro e w' ⟨rfl, rfl⟩
  go_wp2_with fail
  refine HC.out.mono ?_
  rintro e w' ⟨rfl, rfl⟩
  go_wp2_with fail
  refine HT.out.mono ?_
  rintro e w' ⟨rfl, rfl⟩
  go_wp2_with fail
  refine HB.out.mono ?_
  rintro e w1 ⟨rfl, hb1⟩
  go_wp2_with fail
  refine (lsame_any none none 0 0 0 (fun _ => 0) w1 (Nat.zero_le _) (Or.inl rfl) (Or.inl rfl)).mono ?_
  rintro e w2 ⟨rfl, hq2⟩
  have B2 : Hid (Below w'.heap.size w' w2) := hb1.trans (below_of_drew hq2)
  clear hq2 hb1
  go_wp2
  go_ret
  exact ⟨rfl, B2.out⟩
theorem then_k (x y : Option Addr) (cx cy n m : Nat) (f g : Nat → Int) (w : World) (hx : Row w x n f) (hy : Row w y m g) (h1 : okC n f) (h2 : okC m g) (k : Nat) (hk : min n m = k) :
    Calls Tryd.prog 16 #[.slice x n cx, .slice y m cy] w fun e w' => ∃ s, e = .returned (.tuple #[.slice (some ⟨s, 0, none⟩) k k, .nilIface]) ∧ Row w' (some ⟨s, 0, none⟩) k (conv f g) ∧ Below w.heap.size w w' := by
  subst hk; exact then_ok x y cx cy n m f g w hx hy h1 h2
set_option maxHeartbeats 1000000 in
theorem cthen_yes (x y : Option Addr) (cx cy n m : Nat) (f g : Nat → Int) (w : World) (hL : Laid w) (hx : Row w x n f) (hy : Row w y m g) (h1 : okC n f) (h2 : okC m g) :
    Calls Tryd.prog 4 #[.slice x n cx, .slice y m cy] w fun e w' => e = .returned (.bool true) ∧ Below w.heap.size w w' := by
  have h3 := h1.len
  have h4 := h2.len
  have mn : n ≤ maxLen := by unfold maxLen; omega
  have mm : m ≤ maxLen := by unfold maxLen; omega
  obtain ⟨q, hq⟩ : ∃ q, min n m = q := ⟨_, rfl⟩
  have HL : Hid (Calls Tryd.prog 13 #[.slice x n cx, .slice y m cy] w fun e w' => e = .returned (.bool false) ∧ w' = w) := long_no x y cx cy n m w (by omega) (by omega)
  have HC := rcurves_any x y cx cy n m f g w mn mm hx hy
  rw [pairE_zero.2 ⟨h1, h2⟩] at HC
  have HC' : Hid (Calls Tryd.prog 14 #[.slice x n cx, .slice y m cy] w fun e w' => e = .returned (.int .i64 0) ∧ w' = w) := HC
  have HX : Hid (Row w x n f) := hx
  have HY : Hid (Row w y m g) := hy
  have H1 : Hid (okC n f) := h1
  have H2 : Hid (okC m g) := h2
  have HQ : Hid (min n m = q) := hq
  have HLA : Hid (Laid w) := hL
  have hq201 : q ≤ 201 := by omega
  clear hx hy h1 h2 hq HC mn mm hL
  go_enter Tryd.func4, Tryd.ntmps4
  go_wp2_with fail
  refine HL.out.mono ?_
  rintro e w' ⟨rfl, rfl⟩
  go_wp2_with fail
  refine HC'.out.mono ?_
  rintro e w' ⟨rfl, rfl⟩
  go_wp2_with fail
  refine (rthen_any x y cx cy n m f g w' HX.out HY.out H1.out H2.out q HQ.out).mono ?_
  rintro e w1 ⟨z, cz, rfl, hr1, hb1⟩
  have R1 : Hid (Row w1 z q (conv f g)) := hr1
  have B1 : Hid (Below w'.heap.size w' w1) := hb1
  clear hr1 hb1
  go_wp2_with fail
  refine (then_k x y cx cy n m f g w1 (HX.out.below B1.out) (HY.out.below B1.out) H1.out H2.out q HQ.out).mono ?_
  rintro e w2 ⟨s, rfl, hr2, hb2⟩
  have R2 : Hid (Row w2 (some ⟨s, 0, none⟩) q (conv f g)) := hr2
  have R12 : Hid (Row w2 z q (conv f g)) := R1.out.below hb2
  have B2 : Hid (Below w'.heap.size w' w2) := B1.out.trans (hb2.mono B1.out.size)
  clear hr2 hb2
  go_wp2_with fail
  refine (bare_nil w2 (HLA.out.below B2.out)).mono ?_
  rintro e w3 ⟨rfl, hb3⟩
  have R3 : Hid (Row w3 (some ⟨s, 0, none⟩) q (conv f g)) := R2.out.below hb3
  have R13 : Hid (Row w3 z q (conv f g)) := R12.out.below hb3
  have B3 : Hid (Below w'.heap.size w' w3) := B2.out.trans (hb3.mono B2.out.size)
  clear hb3
  go_wp2_with fail
  refine (lsame_any (some ⟨s, 0, none⟩) z q cz q (conv f g) w3 (by unfold maxLen; omega) R3.out R13.out).mono ?_
  rintro e w4 ⟨rfl, hq4⟩
  have B4 : Hid (Below w'.heap.size w' w4) := B3.out.trans (below_of_drew hq4)
  clear hq4
  go_wp2
  go_ret
  exact ⟨rfl, B4.out⟩
theorem cthen_any (x y : Option Addr) (cx cy n m : Nat) (f g : Nat → Int) (w : World) (hL : Laid w) (hx : Row w x n f) (hy : Row w y m g) :
    Calls Tryd.prog 4 #[.slice x n cx, .slice y m cy] w fun e w' => e = .returned (.bool true) ∧ Below w.heap.size w w' := by
  by_cases h : 300 < n ∨ 300 < m
  · exact cthen_long x y cx cy n m w h
  by_cases hk : okC n f ∧ okC m g
  · exact cthen_yes x y cx cy n m f g w hL hx hy hk.1 hk.2
  · exact cthen_no x y cx cy n m f g w hL hx hy (by omega) (by omega) hk
end Go.Proofs.YtdapgjkjkiighaaDoor
