/-
  millraceref.Delay: of curves that may be the longest wait, or that there is none; millracelaw.CurveBounds is true at every two rows of numbers; nothing that was there before is otherwise. Conditions: errors.errorType holds its handle; the numbers lie in memory, and a slice is no longer than its room.
-/
import Derived.Test.YtdapgjkjkiighaaDoorLwErr
namespace Go.Proofs.YtdapgjkjkiighaaDoor
open Go.RowKit Go.Extern.Stop Go.Stop Go.Extern

set_option maxRecDepth 20000 in
set_option maxHeartbeats 2000000 in
theorem rdelay_any (x y : Option Addr) (cx cy n m : Nat) (f g : Nat → Int) (w : World) (hx : Row w x n f) (hy : Row w y m g) (h1 : okC n f) (h2 : okC m g) :
    Calls Tryd.prog 21 #[.slice x n cx, .slice y m cy] w fun e w' => ((dlyOk n f m g ∧ e = .returned (.tuple #[.int .i64 (dlyV n f m g), .bool true])) ∨ (¬ dlyOk n f m g ∧ e = .returned (.tuple #[.int .i64 0, .bool false]))) ∧ w' = w := by
  have HX : Hid (Row w x n f) := hx
  have HY : Hid (Row w y m g) := hy
  have b1 := h1.len
  have b2 := h2.len
  obtain ⟨b, off, rfl⟩ := hx.some h1.pos
  obtain ⟨b', off', rfl⟩ := hy.some h2.pos
  clear hx hy h1 h2
  go_enter Tryd.func21, Tryd.ntmps21
  go_wp2
  go_loop [6, 12] (fun l i => ∃ k : Nat, k ≤ n ∧ i = .int .i64 k ∧ l = .int .i64 (dlyV k f m g) ∧ Hid (dlyOk k f m g)) (fun _ i => n - (intOf i).toNat)
  case atStart => exact ⟨0, Nat.zero_le _, rfl, rfl, fun t ht => by omega⟩
  case round =>
    obtain ⟨k, hk, rfl, rfl, HD⟩ := hrel
    by_cases hlt : k < n
    · have c0 := HX.out.at hlt
      go_wp2
      go_loop [9] (fun a => ∃ i : Nat, a = .int .i64 ((k + i : Nat) : Int) ∧ (i = 0 ∨ k + i ≤ m) ∧ Hid (∀ j, j < i → g (k + j) < f k)) (fun a => m + k - (intOf a).toNat)
      case atStart => exact ⟨0, rfl, Or.inl rfl, fun j hj => by omega⟩
      case round =>
        obtain ⟨i, rfl, hi, HJ⟩ := hrel
        by_cases him : k + i < m
        · have c1 := HY.out.at him
          have hii : ((k + i : Nat) : Int) < m := by omega
          by_cases hv : g (k + i) < f k
          · have HJ' : Hid (∀ j, j < i + 1 → g (k + j) < f k) := fun j hj => by
              by_cases e : j = i
              · subst e; exact hv
              · exact HJ.out j (by omega)
            go_wp2
            go_round
            case rel => exact ⟨i + 1, by go_num, Or.inr (by omega), HJ'⟩
            case measure => simp [intOf]; omega
          · have HE : Hid (dly f m g k = i) := ff_eq (by omega) (by simp; omega) (fun j hj => by have := HJ.out j hj; simp; omega)
            have HD' : Hid (dlyOk (k + 1) f m g) := fun t ht => by
              by_cases e : t = k
              · subst e; rw [HE.out]; omega
              · exact HD.out t (by omega)
            have HP : Hid (dlyV (k + 1) f m g = max (dlyV k f m g) (dly f m g k)) := rfl
            have e1 : IntKind.i64.wrap (((k + i : Nat) : Int) - k) = (i : Int) := by rw [IntKind.wrap_i64]; omega
            generalize dlyV k f m g = p at *
            by_cases hmx : p < i
            · have HM : Hid (p < i) := hmx
              go_wp2
              go_round
              case rel => exact ⟨k + 1, by omega, by go_num, by rw [HP.out, HE.out]; have := HM.out; congr 1; omega, HD'⟩
              case measure => simp [intOf]; omega
            · have HM : Hid ((i : Int) ≤ p) := Int.not_lt.1 hmx
              go_wp2
              go_round
              case rel => exact ⟨k + 1, by omega, by go_num, by rw [HP.out, HE.out]; have := HM.out; congr 1; omega, HD'⟩
              case measure => simp [intOf]; omega
        · have hii : ¬ ((k + i : Nat) : Int) < m := by omega
          have hge : (m : Int) ≤ ((k + i : Nat) : Int) := by omega
          have HN : Hid (¬ dlyOk n f m g) := fun h => by
            have h1 := h k hlt
            have h2 := ff_yes _ _ h1
            have h3 : dly f m g k < i := by unfold dly at h1 ⊢; omega
            have h4 := HJ.out _ h3
            simp only [decide_eq_true_eq] at h2
            unfold dly at h4
            omega
          go_wp2
          go_ret2
          exact ⟨Or.inr ⟨HN.out, rfl⟩, rfl⟩
    · obtain rfl : k = n := by omega
      go_wp2
      go_ret2
      exact ⟨Or.inl ⟨HD.out, rfl⟩, rfl⟩
theorem cbounds_long (x y : Option Addr) (cx cy n m : Nat) (w : World) (h : 300 < n ∨ 300 < m) :
    Calls Tryd.prog 7 #[.slice x n cx, .slice y m cy] w fun e w' => e = .returned (.bool true) ∧ Below w.heap.size w w' := by
  have HL : Hid (Calls Tryd.prog 13 #[.slice x n cx, .slice y m cy] w fun e w' => e = .returned (.bool true) ∧ w' = w) := long_yes x y cx cy n m w h
  clear h
  go_enter Tryd.func7, Tryd.ntmps7
  go_wp2_with fail
  refine HL.out.mono ?_
  rintro e w' ⟨rfl, rfl⟩
  go_wp2
  go_ret
  exact ⟨rfl, Below.refl _ _⟩
set_option maxRecDepth 20000 in
set_option maxHeartbeats 2000000 in
theorem cbounds_no (x y : Option Addr) (cx cy n m : Nat) (f g : Nat → Int) (w : World) (hL : Laid w) (hx : Row w x n f) (hy : Row w y m g) (h3 : n ≤ 300) (h4 : m ≤ 300) (h : ¬ (okC n f ∧ okC m g)) :
    Calls Tryd.prog 7 #[.slice x n cx, .slice y m cy] w fun e w' => e = .returned (.bool true) ∧ Below w.heap.size w w' := by
  have mn : n ≤ maxLen := by unfold maxLen; omega
  have mm : m ≤ maxLen := by unfold maxLen; omega
  have HL : Hid (Calls Tryd.prog 13 #[.slice x n cx, .slice y m cy] w fun e w' => e = .returned (.bool false) ∧ w' = w) := long_no x y cx cy n m w h3 h4
  have HC : Hid (Calls Tryd.prog 14 #[.slice x n cx, .slice y m cy] w fun e w' => e = .returned (.int .i64 (pairE n f m g)) ∧ w' = w) := rcurves_any x y cx cy n m f g w mn mm hx hy
  have HT : Hid (Calls Tryd.prog 22 #[.slice x n cx, .slice y m cy] w fun e w' => e = .returned (.tuple #[.int .i64 0, .iface 28 (.int .i64 (pairE n f m g))]) ∧ w' = w) := backlog_no x y cx cy n m f g w mn mm hx hy h
  have HD : Hid (Calls Tryd.prog 23 #[.slice x n cx, .slice y m cy] w fun e w' => e = .returned (.tuple #[.int .i64 0, .iface 28 (.int .i64 (pairE n f m g))]) ∧ w' = w) := delay_no x y cx cy n m f g w mn mm hx hy h
  have hE : pairE n f m g ≠ 0 := fun e => h (pairE_zero.1 e)
  have HB : Hid (∀ W, Laid W → Calls Tryd.prog 10 #[.iface 28 (.int .i64 (pairE n f m g)), .int .i64 (pairE n f m g)] W fun e w' => e = .returned (.bool true) ∧ Below W.heap.size W w') := fun W hW => bare_no _ W hW hE
  have HLA : Hid (Laid w) := hL
  clear hx hy h h3 h4 mn mm hL
  generalize pairE n f m g = E at *
  have hE' : (E == 0) = false := by simpa using hE
  clear hE
  go_enter Tryd.func7, Tryd.ntmps7
  go_wp2_with fail
  refine HL.out.mono ?_
  rintro e w' ⟨rfl, rfl⟩
  go_wp2_with fail
  refine HC.out.mono ?_
  rintro e w' ⟨rfl, rfl⟩
  go_wp2_with fail
  refine wp_loop_rounds 1 ?_
  rw [rounds_succ]
  go_wp2_with fail
  refine HT.out.mono ?_
  rintro e w' ⟨rfl, rfl⟩
  go_wp2_with fail
  refine HD.out.mono ?_
  rintro e w' ⟨rfl, rfl⟩
  go_wp2_with fail
  refine (HB.out w' HLA.out).mono ?_
  rintro e w2 ⟨rfl, hb2⟩
  go_wp2_with fail
  refine (HB.out w2 (HLA.out.below hb2)).mono ?_
  rintro e w3 ⟨rfl, hb3⟩
  have B3 : Hid (Below w'.heap.size w' w3) := hb2.trans (hb3.mono hb2.size)
  clear hb2 hb3
  go_wp2
  go_ret
  exact ⟨rfl, B3.out⟩
set_option maxRecDepth 20000 in
set_option maxHeartbeats 8000000 in
theorem cbounds_yes (x y : Option Addr) (cx cy n m : Nat) (f g : Nat → Int) (w : World) (hL : Laid w) (hx : Row w x n f) (hy : Row w y m g) (h1 : okC n f) (h2 : okC m g) (hc : m ≤ cy) :
    Calls Tryd.prog 7 #[.slice x n cx, .slice y m cy] w fun e w' => e = .returned (.bool true) ∧ Below w.heap.size w w' := by
  have h3 := h1.len
  have h4 := h2.len
  have mn : n ≤ maxLen := by unfold maxLen; omega
  have mm : m ≤ maxLen := by unfold maxLen; omega
  obtain ⟨q, hq⟩ : ∃ q, min n m = q := ⟨_, rfl⟩
  obtain ⟨M, hM⟩ : ∃ M, px (fun t => f t - g t) q = M := ⟨_, rfl⟩
  have HL : Hid (Calls Tryd.prog 13 #[.slice x n cx, .slice y m cy] w fun e w' => e = .returned (.bool false) ∧ w' = w) := long_no x y cx cy n m w (by omega) (by omega)
  have HC := rcurves_any x y cx cy n m f g w mn mm hx hy
  rw [pairE_zero.2 ⟨h1, h2⟩] at HC
  have HC' : Hid (Calls Tryd.prog 14 #[.slice x n cx, .slice y m cy] w fun e w' => e = .returned (.int .i64 0) ∧ w' = w) := HC
  have HX : Hid (Row w x n f) := hx
  have HY : Hid (Row w y m g) := hy
  have H1 : Hid (okC n f) := h1
  have H2 : Hid (okC m g) := h2
  have HQ : Hid (min n m = q) := hq
  have HM : Hid (px (fun t => f t - g t) q = M) := hM
  have HLA : Hid (Laid w) := hL
  have HCY : Hid (m ≤ cy) := hc
  have hq201 : q ≤ 201 := by omega
  obtain ⟨bx, ox, rfl⟩ := hx.some h1.pos
  obtain ⟨by', oy, rfl⟩ := hy.some h2.pos
  clear hx hy h1 h2 hq HC mn mm hL hc hM
  go_enter Tryd.func7, Tryd.ntmps7
  go_wp2_with fail
  refine HL.out.mono ?_
  rintro e w' ⟨rfl, rfl⟩
  go_wp2_with fail
  refine HC'.out.mono ?_
  rintro e w' ⟨rfl, rfl⟩
  go_wp2
  go_loopw [6, 9] (fun l i wr => ∃ k : Nat, k ≤ q ∧ i = .int .i64 k ∧ l = .int .i64 (px (fun t => f t - g t) k) ∧ ∃ p, wr = w'.drewN p) (fun _ i _ => q - (intOf i).toNat)
  case atStart => exact ⟨0, Nat.zero_le _, rfl, rfl, 0, rfl⟩
  case round =>
    obtain ⟨k, hk, rfl, rfl, p, rfl⟩ := hrel
    by_cases hlt : k < q
    · have hkn : k < n := by have := HQ.out; omega
      have hkm : k < m := by have := HQ.out; omega
      have c0 := HX.out.at hkn
      have c1 := HY.out.at hkm
      have d0 := H1.out.low k hkn
      have d1 := H1.out.top k hkn
      have d2 := H2.out.low k hkm
      have d3 := H2.out.top k hkm
      have e0 : IntKind.i64.wrap (f k - g k) = f k - g k := by rw [IntKind.wrap_i64]; omega
      have HP : Hid (px (fun t => f t - g t) (k + 1) = max (px (fun t => f t - g t) k) (f k - g k)) := rfl
      generalize px (fun t => f t - g t) k = t at *
      generalize f k = u at *
      generalize g k = v at *
      by_cases hm : t < u - v
      · have HM : Hid (t < u - v) := hm
        go_wp2
        go_quiet (fail)
        go_wp2
        go_roundw
        case rel => exact ⟨k + 1, by omega, by go_num, by rw [HP.out]; have := HM.out; congr 1; omega, _, rfl⟩
        case measure => simp [intOf]; omega
      · have HM : Hid (u - v ≤ t) := Int.not_lt.1 hm
        go_wp2
        go_quiet (fail)
        go_wp2
        go_roundw
        case rel => exact ⟨k + 1, by omega, by go_num, by rw [HP.out]; have := HM.out; congr 1; omega, _, rfl⟩
        case measure => simp [intOf]; omega
    · obtain rfl : k = q := by omega
      rw [HM.out]
      have hcase : ¬ k < n ∨ (k < n ∧ ¬ k < m) := by have := HQ.out; omega
      have HBK : Hid (∀ W, Below w'.heap.size w' W → Calls Tryd.prog 22 #[.slice (some ⟨bx, ox, none⟩) n cx, .slice (some ⟨by', oy, none⟩) m cy] W fun e w'' => e = .returned (.tuple #[.int .i64 M, .nilIface]) ∧ Below W.heap.size W w'') := fun W hW => by
        have := backlog_ok (some ⟨bx, ox, none⟩) (some ⟨by', oy, none⟩) cx cy n m f g W (HX.out.below hW) (HY.out.below hW) H1.out H2.out
        rw [HQ.out, HM.out] at this
        exact this.mono fun e w'' hh => ⟨hh.1, below_of_drew hh.2⟩
      have B0 : Hid (Below w'.heap.size w' (w'.drewN p)) := below_drewN' (Below.refl _ _) p
      generalize w'.drewN p = w0 at *
      rcases hcase with hkn | ⟨hkn, hkm⟩
      all_goals
        go_wp2_with fail
        refine (rdelay_any (some ⟨bx, ox, none⟩) (some ⟨by', oy, none⟩) cx cy n m f g w0 (HX.out.below B0.out) (HY.out.below B0.out) H1.out H2.out).mono ?_
        rintro e w1 ⟨⟨hd, rfl⟩ | ⟨hd, rfl⟩, rfl⟩
        · have HD : Hid (dlyOk n f m g) := hd
          clear hd
          go_wp2_with fail
          refine (HBK.out w1 B0.out).mono ?_
          rintro e w2 ⟨rfl, hb2⟩
          have B2 : Hid (Below w'.heap.size w' w2) := B0.out.trans (hb2.mono B0.out.size)
          clear hb2
          go_wp2_with fail
          refine (delay_any (some ⟨bx, ox, none⟩) (some ⟨by', oy, none⟩) cx cy n m f g w2 (HX.out.below B2.out) (HY.out.below B2.out) H1.out H2.out HCY.out).mono ?_
          rintro e w3 ⟨⟨_, rfl⟩ | ⟨hd, _⟩, hb3⟩
          case inr => exact absurd HD.out hd
          have B3 : Hid (Below w'.heap.size w' w3) := B2.out.trans (hb3.mono B2.out.size)
          clear hb3
          generalize dlyV n f m g = D at *
          go_wp2_with fail
          refine (bare_nil w3 (HLA.out.below B3.out)).mono ?_
          rintro e w4 ⟨rfl, hb4⟩
          have B4 : Hid (Below w'.heap.size w' w4) := B3.out.trans (hb4.mono B3.out.size)
          clear hb4
          go_wp2_with fail
          refine (bare_nil w4 (HLA.out.below B4.out)).mono ?_
          rintro e w5 ⟨rfl, hb5⟩
          have B5 : Hid (Below w'.heap.size w' w5) := B4.out.trans (hb5.mono B4.out.size)
          clear hb5
          go_wp2
          go_ret
          exact ⟨rfl, B5.out⟩
        · have HD : Hid (¬ dlyOk n f m g) := hd
          clear hd
          go_wp2_with fail
          refine (HBK.out w1 B0.out).mono ?_
          rintro e w2 ⟨rfl, hb2⟩
          have B2 : Hid (Below w'.heap.size w' w2) := B0.out.trans (hb2.mono B0.out.size)
          clear hb2
          go_wp2_with fail
          refine (delay_any (some ⟨bx, ox, none⟩) (some ⟨by', oy, none⟩) cx cy n m f g w2 (HX.out.below B2.out) (HY.out.below B2.out) H1.out H2.out HCY.out).mono ?_
          rintro e w3 ⟨⟨hd, _⟩ | ⟨_, rfl⟩, hb3⟩
          case inl => exact absurd hd HD.out
          have B3 : Hid (Below w'.heap.size w' w3) := B2.out.trans (hb3.mono B2.out.size)
          clear hb3
          go_wp2_with fail
          refine (bare_nil w3 (HLA.out.below B3.out)).mono ?_
          rintro e w4 ⟨rfl, hb4⟩
          have B4 : Hid (Below w'.heap.size w' w4) := B3.out.trans (hb4.mono B3.out.size)
          clear hb4
          go_wp2_with fail
          refine (bare_no 8 w4 (HLA.out.below B4.out) (by decide)).mono ?_
          rintro e w5 ⟨rfl, hb5⟩
          have B5 : Hid (Below w'.heap.size w' w5) := B4.out.trans (hb5.mono B4.out.size)
          clear hb5
          go_wp2
          go_ret
          exact ⟨rfl, B5.out⟩
theorem cbounds_any (x y : Option Addr) (cx cy n m : Nat) (f g : Nat → Int) (w : World) (hL : Laid w) (hx : Row w x n f) (hy : Row w y m g) (hc : m ≤ cy) :
    Calls Tryd.prog 7 #[.slice x n cx, .slice y m cy] w fun e w' => e = .returned (.bool true) ∧ Below w.heap.size w w' := by
  by_cases h : 300 < n ∨ 300 < m
  · exact cbounds_long x y cx cy n m w h
  by_cases hk : okC n f ∧ okC m g
  · exact cbounds_yes x y cx cy n m f g w hL hx hy hk.1 hk.2 hc
  · exact cbounds_no x y cx cy n m f g w hL hx hy (by omega) (by omega) hk
end Go.Proofs.YtdapgjkjkiighaaDoor
