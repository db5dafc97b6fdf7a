/-
  millraceref.Behind: of curves that may be, in new memory, what may come out; millracelaw.CurveBehind is true at every two rows of numbers; nothing that was there before is otherwise. Conditions: errors.errorType holds its handle; the numbers lie in memory, and a slice is no longer than its room.
-/
import Derived.Test.YtdapgjkjkiighaaDoorLwErr
namespace Go.Proofs.YtdapgjkjkiighaaDoor
open Go.RowKit Go.Extern.Stop Go.Stop Go.Extern

set_option maxRecDepth 20000 in
set_option maxHeartbeats 4000000 in
theorem rbehind_any (x y : Option Addr) (cx cy n m : Nat) (f g : Nat → Int) (w : World) (hx : Row w x n f) (hy : Row w y m g) (h1 : okC n f) (h2 : okC m g) (q r : Nat) (hq : min n m = q) (hr : (q + 1) / 2 = r) :
    Calls Tryd.prog 19 #[.slice x n cx, .slice y m cy] w fun e w' => ∃ z cz, e = .returned (.slice z r cz) ∧ Row w' z r (bhd q f g) ∧ Below w.heap.size w w' := by
  obtain ⟨i0, hi, hz0, hz1, hz2⟩ := info_parts infoInt
  have HX : Hid (Row w x n f) := hx
  have HY : Hid (Row w y m g) := hy
  have H1 : Hid (okC n f) := h1
  have H2 : Hid (okC m g) := h2
  have b1 := h1.len
  have b2 := h2.len
  have HQ : Hid (min n m = q) := hq
  have hqn : q ≤ n := by omega
  have hqm : q ≤ m := by omega
  have hrq : r ≤ q + 1 := by omega
  have HRR : Hid ((q + 1) / 2 = r) := hr
  obtain ⟨bx, ox, rfl⟩ := hx.some h1.pos
  obtain ⟨by', oy, rfl⟩ := hy.some h2.pos
  clear hx hy h1 h2 hq hr
  go_enter Tryd.func19, Tryd.ntmps19
  go_upto_region 1 with (fail)
  go_cut [5] (fun v wx => v = .int .i64 q ∧ wx = w)
  case first =>
    by_cases hmn : m < n
    · obtain rfl : q = m := by have := HQ.out; omega
      go_wp2
      go_meet
      case rel => exact ⟨rfl, rfl⟩
    · obtain rfl : q = n := by have := HQ.out; omega
      go_wp2
      go_meet
      case rel => exact ⟨rfl, rfl⟩
  case rest =>
  obtain ⟨rfl, hwc⟩ := hcut
  subst hwc
  go_wp2
  go_loopw [6, 7] (fun o i wr => ∃ k : Nat, k ≤ r ∧ i = .int .i64 k ∧ wr.ownsRow wc.heap.size 3 1 o k (vals (bhd q f g) k) ∧ Below wc.heap.size wc wr) (fun _ i _ => r - (intOf i).toNat)
  case atStart => exact ⟨0, Nat.zero_le _, rfl, World.ownsRow_nil wc _ _ _, Below.refl _ _⟩
  case round =>
    obtain ⟨k, hk, rfl, hown, hbel⟩ := hrel
    have HO : Hid (wr.ownsRow wc.heap.size 3 1 u6 k (vals (bhd q f g) k)) := hown
    have HB : Hid (Below wc.heap.size wc wr) := hbel
    have RX : Hid (Row wr (some ⟨bx, ox, none⟩) n f) := HX.out.below HB.out
    have RY : Hid (Row wr (some ⟨by', oy, none⟩) m g) := HY.out.below HB.out
    clear hown hbel
    by_cases hlt : k < r
    · have hki : (k : Int) < ((q : Int) + 1) / 2 := by have := HRR.out; omega
      have hkq : k < q + 1 := by omega
      obtain ⟨wo, hwo⟩ : ∃ wo, wo = wr := ⟨_, rfl⟩
      subst hwo
      go_wp2
      go_loopw [8, 9] (fun v i w2 => ∃ j : Nat, j ≤ q - k ∧ i = .int .i64 j ∧ v = .int .i64 (px (fun s => f (k + s) - g s) j) ∧ ∃ p, w2 = wo.drewN p) (fun _ i _ => q - k - (intOf i).toNat)
      case atStart => exact ⟨0, Nat.zero_le _, rfl, rfl, 0, rfl⟩
      case round =>
        obtain ⟨j, hj, rfl, rfl, p, rfl⟩ := hrel
        have ew : IntKind.i64.wrap ((q : Int) - k) = (q : Int) - k := by rw [IntKind.wrap_i64]; omega
        by_cases hjk : j < q - k
        · have hji : (j : Int) < (q : Int) - k := by omega
          have c0 := RX.out.at (i := k + j) (by omega)
          have c1 := RY.out.at (i := j) (by omega)
          have d0 := H1.out.low (k + j) (by omega)
          have d1 := H1.out.top (k + j) (by omega)
          have d2 := H2.out.low j (by omega)
          have d3 := H2.out.top j (by omega)
          rw [show ox + (k + j) = ox + (j + k) by omega] at c0
          have hjn : (j : Int) + k < n := by omega
          have e0 : IntKind.i64.wrap (f (k + j) - g j) = f (k + j) - g j := by rw [IntKind.wrap_i64]; omega
          have e1 : ((j : Int) + k).toNat = j + k := by omega
          have HP : Hid (px (fun s => f (k + s) - g s) (j + 1) = max (px (fun s => f (k + s) - g s) j) (f (k + j) - g j)) := rfl
          generalize px (fun s => f (k + s) - g s) j = t at *
          generalize f (k + j) = u at *
          generalize g j = v at *
          by_cases hm : t < u - v
          · have HM : Hid (t < u - v) := hm
            go_wp2
            go_quiet (fail)
            go_wp2
            go_roundw
            case rel => exact ⟨j + 1, by omega, by go_num, by rw [HP.out]; have := HM.out; congr 1; omega, _, rfl⟩
            case measure => simp [intOf]; omega
          · have HM : Hid (u - v ≤ t) := Int.not_lt.1 hm
            go_wp2
            go_quiet (fail)
            go_wp2
            go_roundw
            case rel => exact ⟨j + 1, by omega, by go_num, by rw [HP.out]; have := HM.out; congr 1; omega, _, rfl⟩
            case measure => simp [intOf]; omega
        · obtain rfl : j = q - k := by omega
          have hji : ¬ ((q - k : Nat) : Int) < (q : Int) - k := by omega
          have e : px (fun s => f (k + s) - g s) (q - k) = bhd q f g k := rfl
          rw [e]
          clear e
          go_wp2_with (at_builtin; refine wpList_append_own _ rfl _ _ 22 rfl wc.heap.size 3 i0 (.int .i64 0) 1 8 Tryd.underlying22 hi hz0 hz1 hz2 rfl (by decide) _ _ _ rfl ((ownsRow_below HO.out (below_of_drew ⟨p, rfl⟩)).alloc _) ⟨wo.heap.size, 0, none⟩ 1 1 [.int .i64 (bhd q f g k)] rfl rfl (cell_new1 _ _ _) (by simp [Value.oneCell']) (by unfold maxLen; omega) (by omega) (by simp; have := HB.out.size; omega) ?_; intro v' w4 hown4 hgrow4 _)
          go_roundw
          case rel =>
            have hb4 : Below wc.heap.size wc w4 := ((below_drewN' HB.out p).alloc HB.out.size _).grown hgrow4 (by simp; have := HB.out.size; omega) (fun i e => (HO.out.lt i e).1)
            exact ⟨k + 1, by omega, by go_num, by rw [vals_succ]; exact hown4, hb4⟩
          case measure => simp [intOf]; omega
    · obtain rfl : k = r := by omega
      obtain ⟨z, cz, rfl, _, _, hrow⟩ := row_of_owns HO.out
      have HR : Hid (Row wr z k (bhd q f g)) := hrow
      have hki : ¬ (k : Int) < ((q : Int) + 1) / 2 := by have := HRR.out; omega
      clear hrow
      go_wp2
      go_ret
      exact ⟨z, ⟨cz, rfl⟩, HR.out, HB.out⟩
theorem cbehind_long (x y : Option Addr) (cx cy n m : Nat) (w : World) (h : 300 < n ∨ 300 < m) :
    Calls Tryd.prog 6 #[.slice x n cx, .slice y m cy] w fun e w' => e = .returned (.bool true) ∧ Below w.heap.size w w' := by
  have HL : Hid (Calls Tryd.prog 13 #[.slice x n cx, .slice y m cy] w fun e w' => e = .returned (.bool true) ∧ w' = w) := long_yes x y cx cy n m w h
  clear h
  go_enter Tryd.func6, Tryd.ntmps6
  go_wp2_with fail
  refine HL.out.mono ?_
  rintro e w' ⟨rfl, rfl⟩
  go_wp2
  go_ret
  exact ⟨rfl, Below.refl _ _⟩
set_option maxHeartbeats 1000000 in
theorem cbehind_no (x y : Option Addr) (cx cy n m : Nat) (f g : Nat → Int) (w : World) (hL : Laid w) (hx : Row w x n f) (hy : Row w y m g) (h3 : n ≤ 300) (h4 : m ≤ 300) (h : ¬ (okC n f ∧ okC m g)) :
    Calls Tryd.prog 6 #[.slice x n cx, .slice y m cy] w fun e w' => e = .returned (.bool true) ∧ Below w.heap.size w w' := by
  have mn : n ≤ maxLen := by unfold maxLen; omega
  have mm : m ≤ maxLen := by unfold maxLen; omega
  have HL : Hid (Calls Tryd.prog 13 #[.slice x n cx, .slice y m cy] w fun e w' => e = .returned (.bool false) ∧ w' = w) := long_no x y cx cy n m w h3 h4
  have HC : Hid (Calls Tryd.prog 14 #[.slice x n cx, .slice y m cy] w fun e w' => e = .returned (.int .i64 (pairE n f m g)) ∧ w' = w) := rcurves_any x y cx cy n m f g w mn mm hx hy
  have HT : Hid (Calls Tryd.prog 20 #[.slice x n cx, .slice y m cy] w fun e w' => e = .returned (.tuple #[.slice none 0 0, .iface 28 (.int .i64 (pairE n f m g))]) ∧ Below w.heap.size w w') := behind_no x y cx cy n m f g w mn mm hx hy h
  have hE : pairE n f m g ≠ 0 := fun e => h (pairE_zero.1 e)
  have HB : Hid (∀ W, Laid W → Calls Tryd.prog 10 #[.iface 28 (.int .i64 (pairE n f m g)), .int .i64 (pairE n f m g)] W fun e w' => e = .returned (.bool true) ∧ Below W.heap.size W w') := fun W hW => bare_no _ W hW hE
  have HLA : Hid (Laid w) := hL
  clear hx hy h h3 h4 mn mm hL
  generalize pairE n f m g = E at *
  have hE' : (E == 0) = false := by simpa using hE
  clear hE
  go_enter Tryd.func6, Tryd.ntmps6
  go_wp2_with fail
  refine HL.out.mono ?_
  rintro e w' ⟨rfl, rfl⟩
  go_wp2_with fail
  refine HC.out.mono ?_
  rintro e w' ⟨rfl, rfl⟩
  go_wp2_with fail
  refine HT.out.mono ?_
  rintro e w0 ⟨rfl, hb0⟩
  go_wp2_with fail
  refine (HB.out w0 (HLA.out.below hb0)).mono ?_
  rintro e w1 ⟨rfl, hb1⟩
  go_wp2_with fail
  refine (lsame_any none none 0 0 0 (fun _ => 0) w1 (Nat.zero_le _) (Or.inl rfl) (Or.inl rfl)).mono ?_
  rintro e w2 ⟨rfl, hq2⟩
  have B2 : Hid (Below w'.heap.size w' w2) := (hb0.trans (hb1.mono hb0.size)).trans (below_of_drew hq2)
  clear hq2 hb1 hb0
  go_wp2
  go_ret
  exact ⟨rfl, B2.out⟩
theorem behind_k (x y : Option Addr) (cx cy n m : Nat) (f g : Nat → Int) (w : World) (hx : Row w x n f) (hy : Row w y m g) (h1 : okC n f) (h2 : okC m g) (hc : n ≤ cx) (hc2 : cx ≤ maxLen) (q r : Nat) (hq : min n m = q) (hr : (q + 1) / 2 = r) :
    Calls Tryd.prog 20 #[.slice x n cx, .slice y m cy] w fun e w' => ∃ s, e = .returned (.tuple #[.slice (some ⟨s, 0, none⟩) r r, .nilIface]) ∧ Row w' (some ⟨s, 0, none⟩) r (bhd q f g) ∧ Below w.heap.size w w' := by
  subst hq; subst hr; exact behind_ok x y cx cy n m f g w hx hy h1 h2 hc hc2
set_option maxHeartbeats 1000000 in
theorem cbehind_yes (x y : Option Addr) (cx cy n m : Nat) (f g : Nat → Int) (w : World) (hL : Laid w) (hx : Row w x n f) (hy : Row w y m g) (h1 : okC n f) (h2 : okC m g) (hc : n ≤ cx) (hc2 : cx ≤ maxLen) :
    Calls Tryd.prog 6 #[.slice x n cx, .slice y m cy] w fun e w' => e = .returned (.bool true) ∧ Below w.heap.size w w' := by
  have h3 := h1.len
  have h4 := h2.len
  have mn : n ≤ maxLen := by unfold maxLen; omega
  have mm : m ≤ maxLen := by unfold maxLen; omega
  obtain ⟨q, hq⟩ : ∃ q, min n m = q := ⟨_, rfl⟩
  obtain ⟨r, hr⟩ : ∃ r, (q + 1) / 2 = r := ⟨_, rfl⟩
  have HRR : Hid ((q + 1) / 2 = r) := hr
  have hr201 : r ≤ 201 := by omega
  have HC1 : Hid (n ≤ cx) := hc
  have HC2 : Hid (cx ≤ maxLen) := hc2
  have HL : Hid (Calls Tryd.prog 13 #[.slice x n cx, .slice y m cy] w fun e w' => e = .returned (.bool false) ∧ w' = w) := long_no x y cx cy n m w (by omega) (by omega)
  have HC := rcurves_any x y cx cy n m f g w mn mm hx hy
  rw [pairE_zero.2 ⟨h1, h2⟩] at HC
  have HC' : Hid (Calls Tryd.prog 14 #[.slice x n cx, .slice y m cy] w fun e w' => e = .returned (.int .i64 0) ∧ w' = w) := HC
  have HX : Hid (Row w x n f) := hx
  have HY : Hid (Row w y m g) := hy
  have H1 : Hid (okC n f) := h1
  have H2 : Hid (okC m g) := h2
  have HQ : Hid (min n m = q) := hq
  have HLA : Hid (Laid w) := hL
  have hq201 : q ≤ 201 := by omega
  clear hx hy h1 h2 hq hr HC mn mm hL hc hc2
  go_enter Tryd.func6, Tryd.ntmps6
  go_wp2_with fail
  refine HL.out.mono ?_
  rintro e w' ⟨rfl, rfl⟩
  go_wp2_with fail
  refine HC'.out.mono ?_
  rintro e w' ⟨rfl, rfl⟩
  go_wp2_with fail
  refine (rbehind_any x y cx cy n m f g w' HX.out HY.out H1.out H2.out q r HQ.out HRR.out).mono ?_
  rintro e w1 ⟨z, cz, rfl, hr1, hb1⟩
  have R1 : Hid (Row w1 z r (bhd q f g)) := hr1
  have B1 : Hid (Below w'.heap.size w' w1) := hb1
  clear hr1 hb1
  go_wp2_with fail
  refine (behind_k x y cx cy n m f g w1 (HX.out.below B1.out) (HY.out.below B1.out) H1.out H2.out HC1.out HC2.out q r HQ.out HRR.out).mono ?_
  rintro e w2 ⟨s, rfl, hr2, hb2⟩
  have R2 : Hid (Row w2 (some ⟨s, 0, none⟩) r (bhd q f g)) := hr2
  have R12 : Hid (Row w2 z r (bhd q f g)) := R1.out.below hb2
  have B2 : Hid (Below w'.heap.size w' w2) := B1.out.trans (hb2.mono B1.out.size)
  clear hr2 hb2
  go_wp2_with fail
  refine (bare_nil w2 (HLA.out.below B2.out)).mono ?_
  rintro e w3 ⟨rfl, hb3⟩
  have R3 : Hid (Row w3 (some ⟨s, 0, none⟩) r (bhd q f g)) := R2.out.below hb3
  have R13 : Hid (Row w3 z r (bhd q f g)) := R12.out.below hb3
  have B3 : Hid (Below w'.heap.size w' w3) := B2.out.trans (hb3.mono B2.out.size)
  clear hb3
  go_wp2_with fail
  refine (lsame_any (some ⟨s, 0, none⟩) z r cz r (bhd q f g) w3 (by unfold maxLen; omega) R3.out R13.out).mono ?_
  rintro e w4 ⟨rfl, hq4⟩
  have B4 : Hid (Below w'.heap.size w' w4) := B3.out.trans (below_of_drew hq4)
  clear hq4
  go_wp2
  go_ret
  exact ⟨rfl, B4.out⟩
theorem cbehind_any (x y : Option Addr) (cx cy n m : Nat) (f g : Nat → Int) (w : World) (hL : Laid w) (hx : Row w x n f) (hy : Row w y m g) (hc : n ≤ cx) (hc2 : cx ≤ maxLen) :
    Calls Tryd.prog 6 #[.slice x n cx, .slice y m cy] w fun e w' => e = .returned (.bool true) ∧ Below w.heap.size w w' := by
  by_cases h : 300 < n ∨ 300 < m
  · exact cbehind_long x y cx cy n m w h
  by_cases hk : okC n f ∧ okC m g
  · exact cbehind_yes x y cx cy n m f g w hL hx hy hk.1 hk.2 hc hc2
  · exact cbehind_no x y cx cy n m f g w hL hx hy (by omega) (by omega) hk
end Go.Proofs.YtdapgjkjkiighaaDoor
