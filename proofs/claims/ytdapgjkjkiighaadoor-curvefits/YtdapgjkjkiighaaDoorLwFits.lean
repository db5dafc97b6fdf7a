/-
  millraceref.Fits: the error, or whether what comes keeps to a curve; millracelaw.CurveFits is true at every two rows of numbers; nothing that was there before is otherwise. Conditions: errors.errorType holds its handle; the numbers lie in memory, and a slice is no longer than its room.
-/
import Derived.Test.YtdapgjkjkiighaaDoorLwErr
namespace Go.Proofs.YtdapgjkjkiighaaDoor
open Go.RowKit Go.Extern.Stop Go.Stop Go.Extern

theorem rcheck_ok' (y : Option Addr) (cy m : Nat) (g : Nat → Int) (w : World) (hy : Row w y m g) (h : okC m g) : Calls Tryd.prog 12 #[.slice y m cy] w fun e w' => e = .returned (.int .i64 0) ∧ w' = w := by
  have := rcheck_any y cy m g w (by have := h.len; unfold maxLen; omega) hy
  rw [curveE_zero.2 h] at this
  exact this
theorem rfits_no1 (x y : Option Addr) (cx cy n m : Nat) (g : Nat → Int) (w : World) (hm : m ≤ maxLen) (hy : Row w y m g) (h : ¬ okC m g) :
    Calls Tryd.prog 26 #[.slice x n cx, .slice y m cy] w fun e w' => e = .returned (.tuple #[.bool false, .int .i64 (curveE m g)]) ∧ w' = w := by
  have HC : Hid (Calls Tryd.prog 12 #[.slice y m cy] w fun e w' => e = .returned (.int .i64 (curveE m g)) ∧ w' = w) := rcheck_any y cy m g w hm hy
  have hE : ¬ curveE m g = 0 := fun e => h (curveE_zero.1 e)
  clear hm hy h
  generalize curveE m g = E at *
  have hE' : (E != 0) = true := by simpa using hE
  go_enter Tryd.func26, Tryd.ntmps26
  go_wp2_with fail
  refine HC.out.mono ?_
  rintro e w' ⟨rfl, rfl⟩
  go_wp2
  go_ret2
  exact ⟨rfl, rfl⟩
theorem rfits_no2 (x y : Option Addr) (cx cy n m : Nat) (g : Nat → Int) (w : World) (hy : Row w y m g) (h : okC m g) (hle : m ≤ n) :
    Calls Tryd.prog 26 #[.slice x n cx, .slice y m cy] w fun e w' => e = .returned (.tuple #[.bool false, .int .i64 4]) ∧ w' = w := by
  have HC : Hid (Calls Tryd.prog 12 #[.slice y m cy] w fun e w' => e = .returned (.int .i64 0) ∧ w' = w) := rcheck_ok' y cy m g w hy h
  clear hy h
  go_enter Tryd.func26, Tryd.ntmps26
  go_wp2_with fail
  refine HC.out.mono ?_
  rintro e w' ⟨rfl, rfl⟩
  go_wp2
  go_ret2
  exact ⟨rfl, rfl⟩

/-- The sum of a row, its last number added whatever it is. -/
def rowS (c : Nat → Int) (k j i : Nat) : Int := if i ≤ j then tot (fun i => c (k + i)) i else IntKind.i64.wrap (tot (fun i => c (k + i)) j + c (k + j))
theorem rowS_le {c : Nat → Int} {k j i : Nat} (h : i ≤ j) : rowS c k j i = tot (fun i => c (k + i)) i := if_pos h
theorem rowS_last (c : Nat → Int) (k j : Nat) : rowS c k j (j + 1) = IntKind.i64.wrap (tot (fun i => c (k + i)) j + c (k + j)) := if_neg (by omega)
/-- What the reference tells. -/
def fitQ (E : Int) : Value := if E = 0 then .tuple #[.bool true, .int .i64 0] else if E = 1 then .tuple #[.bool false, .int .i64 0] else .tuple #[.bool false, .int .i64 2]
set_option maxRecDepth 20000 in
set_option maxHeartbeats 8000000 in
theorem rfits_any (x y : Option Addr) (cx cy n m : Nat) (c a : Nat → Int) (w : World) (hx : Row w x n c) (hy : Row w y m a) (h : okC m a) (hlt : n < m) (hcx : n ≤ cx) :
    Calls Tryd.prog 26 #[.slice x n cx, .slice y m cy] w fun e w' => e = .returned (fitQ (fitsE n c a)) ∧ w' = w := by
  have b1 := h.len
  have HC : Hid (Calls Tryd.prog 12 #[.slice y m cy] w fun e w' => e = .returned (.int .i64 0) ∧ w' = w) := rcheck_ok' y cy m a w hy h
  have HX : Hid (Row w x n c) := hx
  have HY : Hid (Row w y m a) := hy
  obtain ⟨by', oy, rfl⟩ := hy.some h.pos
  have hnl : ¬ m ≤ n := by omega
  clear hy h hx
  go_enter Tryd.func26, Tryd.ntmps26
  go_wp2_with fail
  refine HC.out.mono ?_
  rintro e w' ⟨rfl, rfl⟩
  go_wp2
  go_loop [24] (fun i => ∃ k : Nat, k ≤ n ∧ i = .int .i64 k ∧ Hid (fst0 (fun s => fst0 (rwE c a s) (n - s)) k = 0)) (fun i => n - (intOf i).toNat)
  case atStart => exact ⟨0, Nat.zero_le _, rfl, rfl⟩
  case round =>
    obtain ⟨k, hk, rfl, HF⟩ := hrel
    by_cases hkn : k < n
    · obtain ⟨bx, ox, rfl⟩ := HX.out.some (by omega)
      go_wp2
      go_loop [8] (fun i => ∃ j : Nat, j ≤ n - k ∧ i = .int .i64 ((j : Int) + 1) ∧ Hid (fst0 (rwE c a k) j = 0)) (fun i => n - k + 1 - (intOf i).toNat)
      case atStart => exact ⟨0, Nat.zero_le _, rfl, rfl⟩
      case round =>
        obtain ⟨j, hj, rfl, HJ⟩ := hrel
        by_cases hjn : j < n - k
        · have hok : ∀ i, i < j → 0 ≤ c (k + i) ∧ c (k + i) ≤ 1000000 := fun i hi => (rwE_zero.1 ((fst0_zero j).1 HJ.out i hi)).1
          have HTB : Hid (∀ t, t ≤ j → 0 ≤ tot (fun i => c (k + i)) t ∧ tot (fun i => c (k + i)) t ≤ 1000000000) := fun t ht => by
            have := tot_bd (c := fun i => c (k + i)) (n := j) (B := 1000000) hok t ht
            omega
          have g1 : (k : Int) + ((j : Int) + 1) ≤ n := by omega
          have g2 : (k : Int) ≤ (k : Int) + ((j : Int) + 1) := by omega
          have g3 : (k : Int) + ((j : Int) + 1) ≤ cx := by omega
          have hne : ¬ cx = k := by omega
          have e1 : ((k : Int) + ((j : Int) + 1)).toNat = k + (j + 1) := by omega
          clear hok
          go_wp2
          go_loop [9, 42] (fun v i => ∃ t : Nat, t ≤ j + 1 ∧ i = .int .i64 t ∧ v = .int .i64 (rowS c k j t)) (fun _ i => j + 1 - (intOf i).toNat)
          case atStart => exact ⟨0, Nat.zero_le _, rfl, rfl⟩
          case round =>
            obtain ⟨t, ht, rfl, rfl⟩ := hrel
            by_cases htj : t < j + 1
            · have g4 : (t : Int) < (j : Int) + 1 := by omega
              have c0 := HX.out.at (i := k + t) (by omega)
              rw [← Nat.add_assoc] at c0
              have d0 := HTB.out t (by omega)
              have HN : Hid (rowS c k j (t + 1) = IntKind.i64.wrap (tot (fun i => c (k + i)) t + c (k + t))) := by
                show rowS c k j (t + 1) = _
                by_cases e : t < j
                · rw [rowS_le (by omega)]
                  have := HTB.out (t + 1) (by omega)
                  rw [IntKind.wrap_i64]
                  simp only [tot] at this ⊢
                  omega
                · obtain rfl : t = j := by omega
                  exact rowS_last c k t
              rw [rowS_le (by omega)]
              generalize tot (fun i => c (k + i)) t = u at *
              generalize c (k + t) = v at *
              go_wp2
              go_round
              case rel => exact ⟨t + 1, by omega, by go_num, by rw [HN.out, IntKind.wrap_i64]; unfold wrap64; rfl⟩
              case measure => simp [intOf]; omega
            · obtain rfl : t = j + 1 := by omega
              have g4 : ¬ ((j + 1 : Nat) : Int) < (j : Int) + 1 := by omega
              rw [rowS_last]
              have c0 := HX.out.at (i := k + j) (by omega)
              have c1 := HY.out.at (i := j + 1) (by omega)
              have g5 : (k : Int) + ((j : Int) + 1) - 1 < n := by omega
              have g6 : (j : Int) + 1 < m := by omega
              have e2 : IntKind.i64.wrap ((k : Int) + ((j : Int) + 1) - 1) = (k : Int) + j := by rw [IntKind.wrap_i64]; omega
              have e3 : ((k : Int) + j).toNat = k + j := by omega
              have e4 : ((j : Int) + 1).toNat = j + 1 := by omega
              have g7 : (k : Int) + j < n := by omega
              have d0 := HTB.out j (by omega)
              by_cases h2 : c (k + j) < 0 ∨ 1000000 < c (k + j)
              · have HE : Hid (fitsE n c a = 2) := by
                  have hc : rwE c a k j = 2 := if_pos h2
                  have h1 : fst0 (rwE c a k) (n - k) = 2 := by rw [fst0_at HJ.out (by rw [hc]; decide) hjn, hc]
                  exact (fst0_at (g := fun s => fst0 (rwE c a s) (n - s)) HF.out (by rw [h1]; decide) hkn).trans h1
                have HW : Hid (Calls Tryd.prog 30 #[.int .i64 (c (k + j)), .int .i64 0, .int .i64 1000000] w' fun e w'' => e = .returned (.bool false) ∧ w'' = w') := within_no _ _ _ _ h2
                clear h2
                generalize IntKind.i64.wrap (tot (fun i => c (k + i)) j + c (k + j)) = sm at *
                generalize c (k + j) = v at *
                go_wp2_with fail
                refine HW.out.mono ?_
                rintro e w'' ⟨rfl, rfl⟩
                go_wp2
                go_ret2
                exact ⟨by rw [HE.out]; rfl, rfl⟩
              · have HW : Hid (Calls Tryd.prog 30 #[.int .i64 (c (k + j)), .int .i64 0, .int .i64 1000000] w' fun e w'' => e = .returned (.bool true) ∧ w'' = w') := within_yes _ _ _ _ (by omega) (by omega)
                have es : IntKind.i64.wrap (tot (fun i => c (k + i)) j + c (k + j)) = tot (fun i => c (k + i)) (j + 1) := by rw [IntKind.wrap_i64]; simp only [tot]; omega
                rw [es]
                by_cases h3 : a (j + 1) < tot (fun i => c (k + i)) (j + 1)
                · have HE : Hid (fitsE n c a = 1) := by
                    have hc : rwE c a k j = 1 := by unfold rwE; rw [if_neg h2, if_pos h3]
                    have h1 : fst0 (rwE c a k) (n - k) = 1 := by rw [fst0_at HJ.out (by rw [hc]; decide) hjn, hc]
                    exact (fst0_at (g := fun s => fst0 (rwE c a s) (n - s)) HF.out (by rw [h1]; decide) hkn).trans h1
                  clear h2 es d0
                  generalize tot (fun i => c (k + i)) (j + 1) = sm at *
                  generalize c (k + j) = v at *
                  generalize a (j + 1) = av at *
                  go_wp2_with fail
                  refine HW.out.mono ?_
                  rintro e w'' ⟨rfl, rfl⟩
                  go_wp2
                  go_ret2
                  exact ⟨by rw [HE.out]; rfl, rfl⟩
                · have HE : Hid (fst0 (rwE c a k) (j + 1) = 0) := fst0_next HJ.out (by unfold rwE; rw [if_neg h2, if_neg h3])
                  clear h2 es d0
                  generalize tot (fun i => c (k + i)) (j + 1) = sm at *
                  generalize c (k + j) = v at *
                  generalize a (j + 1) = av at *
                  go_wp2_with fail
                  refine HW.out.mono ?_
                  rintro e w'' ⟨rfl, rfl⟩
                  go_wp2
                  go_round
                  case rel => exact ⟨j + 1, by omega, by go_num, HE⟩
                  case measure => simp [intOf]; omega
        · obtain rfl : j = n - k := by omega
          have g1 : ¬ (k : Int) + (((n - k : Nat) : Int) + 1) ≤ n := by omega
          have HE : Hid (fst0 (fun s => fst0 (rwE c a s) (n - s)) (k + 1) = 0) := fst0_next HF.out HJ.out
          go_wp2
          go_round
          case rel => exact ⟨k + 1, by omega, by go_num, HE⟩
          case measure => simp [intOf]; omega
    · obtain rfl : k = n := by omega
      go_wp2
      go_ret2
      exact ⟨by rw [show fitsE k c a = 0 from HF.out]; rfl, rfl⟩
theorem cfits_long (x y : Option Addr) (cx cy n m : Nat) (w : World) (hn : n ≤ maxLen) (hm : m ≤ maxLen) (h : (300 < n ∨ 300 < m) ∨ (60 < n ∧ n < m)) :
    Calls Tryd.prog 9 #[.slice x n cx, .slice y m cy] w fun e w' => e = .returned (.bool true) ∧ Below w.heap.size w w' := by
  unfold maxLen at hn hm
  by_cases h1 : 300 < n ∨ 300 < m
  · have HL : Hid (Calls Tryd.prog 13 #[.slice x n cx, .slice y m cy] w fun e w' => e = .returned (.bool true) ∧ w' = w) := long_yes x y cx cy n m w h1
    clear h h1
    go_enter Tryd.func9, Tryd.ntmps9
    go_wp2_with fail
    refine HL.out.mono ?_
    rintro e w' ⟨rfl, rfl⟩
    go_wp2
    go_ret
    exact ⟨rfl, Below.refl _ _⟩
  · have HL : Hid (Calls Tryd.prog 13 #[.slice x n cx, .slice y m cy] w fun e w' => e = .returned (.bool false) ∧ w' = w) := long_no x y cx cy n m w (by omega) (by omega)
    have h2 : 60 < n := by omega
    have h3 : n < m := by omega
    clear h h1
    go_enter Tryd.func9, Tryd.ntmps9
    go_wp2_with fail
    refine HL.out.mono ?_
    rintro e w' ⟨rfl, rfl⟩
    go_wp2
    go_ret
    exact ⟨rfl, Below.refl _ _⟩
set_option maxHeartbeats 1000000 in
theorem cfits_two (x y : Option Addr) (cx cy n m : Nat) (b : Bool) (E : Int) (w : World) (hL : Laid w) (h3 : n ≤ 300) (h4 : m ≤ 300) (h5 : n ≤ 60 ∨ m ≤ n)
    (h1 : Calls Tryd.prog 26 #[.slice x n cx, .slice y m cy] w fun e w' => e = .returned (.tuple #[.bool b, .int .i64 E]) ∧ w' = w)
    (h2 : Calls Tryd.prog 27 #[.slice x n cx, .slice y m cy] w fun e w' => e = .returned (.tuple #[.bool b, errV E]) ∧ w' = w) :
    Calls Tryd.prog 9 #[.slice x n cx, .slice y m cy] w fun e w' => e = .returned (.bool true) ∧ Below w.heap.size w w' := by
  have HL : Hid (Calls Tryd.prog 13 #[.slice x n cx, .slice y m cy] w fun e w' => e = .returned (.bool false) ∧ w' = w) := long_no x y cx cy n m w h3 h4
  have H1 : Hid (Calls Tryd.prog 26 #[.slice x n cx, .slice y m cy] w fun e w' => e = .returned (.tuple #[.bool b, .int .i64 E]) ∧ w' = w) := h1
  have H2 : Hid (Calls Tryd.prog 27 #[.slice x n cx, .slice y m cy] w fun e w' => e = .returned (.tuple #[.bool b, errV E]) ∧ w' = w) := h2
  have HB : Hid (Calls Tryd.prog 10 #[errV E, .int .i64 E] w fun e w' => e = .returned (.bool true) ∧ Below w.heap.size w w') := bare_errV E w hL
  clear h1 h2 hL
  generalize errV E = v at *
  have hcase : ¬ 60 < n ∨ (60 < n ∧ ¬ n < m) := by omega
  clear h5
  rcases hcase with hc | ⟨hc, hc2⟩
  all_goals
    cases b
    all_goals
      go_enter Tryd.func9, Tryd.ntmps9
      go_wp2_with fail
      refine HL.out.mono ?_
      rintro e w' ⟨rfl, rfl⟩
      go_wp2_with fail
      refine H1.out.mono ?_
      rintro e w' ⟨rfl, rfl⟩
      go_wp2_with fail
      refine H2.out.mono ?_
      rintro e w' ⟨rfl, rfl⟩
      go_wp2_with fail
      refine HB.out.mono ?_
      rintro e w1 ⟨rfl, hb1⟩
      go_wp2
      go_ret
      exact ⟨rfl, hb1⟩
theorem cfits_any (x y : Option Addr) (cx cy n m : Nat) (c a : Nat → Int) (w : World) (hL : Laid w) (hx : Row w x n c) (hy : Row w y m a) (hc : n ≤ cx) (hn : n ≤ maxLen) (hm : m ≤ maxLen) :
    Calls Tryd.prog 9 #[.slice x n cx, .slice y m cy] w fun e w' => e = .returned (.bool true) ∧ Below w.heap.size w w' := by
  by_cases h : (300 < n ∨ 300 < m) ∨ (60 < n ∧ n < m)
  · exact cfits_long x y cx cy n m w hn hm h
  by_cases hk : okC m a
  · by_cases hle : m ≤ n
    · exact cfits_two x y cx cy n m false 4 w hL (by omega) (by omega) (by omega) (rfits_no2 x y cx cy n m a w hy hk hle) (fits_no2 x y cx cy n m a w hy hk hle)
    · have h1 := rfits_any x y cx cy n m c a w hx hy hk (by omega) hc
      have h2 := fits_any x y cx cy n m c a w hx hy hk (by omega) hc
      rcases fitsE_val n c a with e | e | e
      · rw [e] at h1 h2
        exact cfits_two x y cx cy n m true 0 w hL (by omega) (by omega) (by omega) h1 h2
      · rw [e] at h1 h2
        exact cfits_two x y cx cy n m false 0 w hL (by omega) (by omega) (by omega) h1 h2
      · rw [e] at h1 h2
        exact cfits_two x y cx cy n m false 2 w hL (by omega) (by omega) (by omega) h1 h2
  · have h2 := fits_no1 x y cx cy n m a w hm hy hk
    rw [← errV_not (fun e => hk (curveE_zero.1 e))] at h2
    exact cfits_two x y cx cy n m false (curveE m a) w hL (by omega) (by omega) (by omega) (rfits_no1 x y cx cy n m a w hm hy hk) h2
end Go.Proofs.YtdapgjkjkiighaaDoor
