/-
  What the law BucketCells calls beside the two rows: millraceref.RateCheck, BucketCheck; millracelaw.of, wrong, many, sameBools: what each returns, and that nothing that was there before is otherwise. Conditions: millraceref.Fine holds what the program's text lays; the packets and the bools lie in memory.
-/
import Derived.Test.YtnppmigncjakeaaGreatDoorRefList
import Derived.Test.YtnppmigncjakeaaGreatDoorGa
import Derived.Test.YtnppmigncjakeaaGreatDoorBkCe
import Derived.BigQuiet
namespace Go.Proofs.YtnppmigncjakeaaGreatDoor
open Go.RowKit Go.Extern.Stop Go.Stop Go.Extern

theorem rateCheckB_yes (n t : Int) (w : World) (h : okRate n t = true) : Calls Tryz.prog 33 #[.agg #[.int .i64 n, .int .i64 t]] w fun e w' => e = .returned (.int .i64 0) ∧ w' = w.alloc (.cells #[.int .i64 n, .int .i64 t] 23) := by
  simp only [okRate, Bool.and_eq_true] at h
  obtain ⟨h1, h2⟩ := h
  go_enter Tryz.func33, Tryz.ntmps33
  go_wp2_with (first | (go_at_call 34; refine (rwithin_any _ _ _ _).mono ?_; rintro e w' ⟨rfl, rfl⟩))
  go_ret
  exact ⟨rfl, rfl⟩

theorem rateCheckB_no (n t : Int) (w : World) (h : okRate n t = false) : Calls Tryz.prog 33 #[.agg #[.int .i64 n, .int .i64 t]] w fun e w' => e = .returned (.int .i64 2) ∧ w' = w.alloc (.cells #[.int .i64 n, .int .i64 t] 23) := by
  cases h1 : wth n 1 1000000 with
  | false =>
    go_enter Tryz.func33, Tryz.ntmps33
    go_wp2_with (first | (go_at_call 34; refine (rwithin_any _ _ _ _).mono ?_; rintro e w' ⟨rfl, rfl⟩))
    go_ret
    exact ⟨rfl, rfl⟩
  | true =>
    cases h2 : wth t 1 1000000 with
    | false =>
      clear h
      go_enter Tryz.func33, Tryz.ntmps33
      go_wp2_with (first | (go_at_call 34; refine (rwithin_any _ _ _ _).mono ?_; rintro e w' ⟨rfl, rfl⟩))
      go_ret
      exact ⟨rfl, rfl⟩
    | true => simp [okRate, h1, h2] at h

theorem okB_iff (n t R : Int) : okB n t R ↔ okRate n t = true ∧ wth R 0 1000000 = true := by
  simp only [okB, okRate, Bool.and_eq_true, wth_iff]
  exact ⟨fun h => ⟨⟨h.1, h.2.1⟩, h.2.2⟩, fun h => ⟨h.1.1, h.1.2, h.2⟩⟩

theorem rbcheck_yes (n t R : Int) (w : World) (h : okB n t R) : Calls Tryz.prog 17 #[.agg #[.int .i64 n, .int .i64 t, .int .i64 R]] w fun e w' => e = .returned (.int .i64 0) ∧ Below w.heap.size w w' := by
  obtain ⟨h1, h2⟩ := (okB_iff n t R).1 h
  have H1 : Hid (okRate n t = true) := h1
  clear h h1
  go_enter Tryz.func17, Tryz.ntmps17
  go_wp2_with (first | (go_at_call 33; refine (rateCheckB_yes _ _ _ H1.out).mono ?_; rintro e w' ⟨rfl, rfl⟩) | (go_at_call 34; refine (rwithin_any _ _ _ _).mono ?_; rintro e w' ⟨rfl, rfl⟩))
  go_ret
  exact ⟨rfl, ((Below.refl _ _).alloc (Nat.le_refl _) _).alloc (by simp) _⟩

theorem rbcheck_no (n t R : Int) (w : World) (h : ¬ okB n t R) : Calls Tryz.prog 17 #[.agg #[.int .i64 n, .int .i64 t, .int .i64 R]] w fun e w' => e = .returned (.int .i64 2) ∧ Below w.heap.size w w' := by
  cases h1 : okRate n t with
  | false =>
    have H1 : Hid (okRate n t = false) := h1
    clear h h1
    go_enter Tryz.func17, Tryz.ntmps17
    go_wp2_with (first | (go_at_call 33; refine (rateCheckB_no _ _ _ H1.out).mono ?_; rintro e w' ⟨rfl, rfl⟩))
    go_ret
    exact ⟨rfl, ((Below.refl _ _).alloc (Nat.le_refl _) _).alloc (by simp) _⟩
  | true =>
    have H1 : Hid (okRate n t = true) := h1
    have h2 : wth R 0 1000000 = false := by
      cases h2 : wth R 0 1000000 with
      | false => rfl
      | true => exact absurd ((okB_iff n t R).2 ⟨h1, h2⟩) h
    clear h h1
    go_enter Tryz.func17, Tryz.ntmps17
    go_wp2_with (first | (go_at_call 33; refine (rateCheckB_yes _ _ _ H1.out).mono ?_; rintro e w' ⟨rfl, rfl⟩) | (go_at_call 34; refine (rwithin_any _ _ _ _).mono ?_; rintro e w' ⟨rfl, rfl⟩))
    go_ret
    exact ⟨rfl, ((Below.refl _ _).alloc (Nat.le_refl _) _).alloc (by simp) _⟩

theorem lof_any (n t R : Int) (w : World) : Calls Tryz.prog 10 #[.agg #[.int .i64 n, .int .i64 t, .int .i64 R]] w fun e w' => e = .returned (.agg #[.int .i64 n, .int .i64 t, .int .i64 R]) ∧ Below w.heap.size w w' := by
  go_enter Tryz.func10, Tryz.ntmps10
  go_wp2
  refine bodyPost_ret (v := .agg #[.int .i64 n, .int .i64 t, .int .i64 R]) (by simp [results, Tryz.results10, go_sem]) rfl ⟨rfl, ?_⟩
  repeat' (first | exact Below.refl _ _ | refine Below.drew ?_ | refine Below.alloc ?_ ?_ _ | refine Below.setCell ?_ ?_ _)
  all_goals (simp <;> omega)

theorem many_any (x : Option Addr) (n cap : Nat) (w : World) (hm : n ≤ maxLen) : Calls Tryz.prog 7 #[.slice x n cap] w fun e w' => e = .returned (.bool (decide ((40 < n ∧ n ≤ 100) ∨ 150 < n))) ∧ w' = w := by
  unfold maxLen at hm
  by_cases h1 : 40 < n
  · by_cases h2 : n ≤ 100
    · go_enter Tryz.func7, Tryz.ntmps7
      go_wp2
      go_ret
      exact ⟨by simp, rfl⟩
    · go_enter Tryz.func7, Tryz.ntmps7
      go_wp2
      go_ret
      exact ⟨congrArg (fun u => Ending.returned (Value.bool u)) (by rw [Bool.eq_iff_iff]; simp; omega), rfl⟩
  · go_enter Tryz.func7, Tryz.ntmps7
    go_wp2
    go_ret
    exact ⟨by simp; omega, rfl⟩

/-- Bools in memory, or none. -/
def RowBO (w : World) (x : Option Addr) (n : Nat) (r : Nat → Bool) : Prop := ∀ j, j < n → ∃ b, x = some ⟨b, 0, none⟩ ∧ w.cell? ⟨b, j, none⟩ = some (.bool (r j))
theorem RowBO.of {w : World} {g n : Nat} {r : Nat → Bool} (h : RowB w g n r) : RowBO w (some ⟨g, 0, none⟩) n r := fun j hj => ⟨g, rfl, h j hj⟩
theorem RowBO.nil (w : World) (x : Option Addr) (r : Nat → Bool) : RowBO w x 0 r := fun j hj => absurd hj (Nat.not_lt_zero j)
theorem RowBO.below {w w' : World} {x : Option Addr} {n : Nat} {r : Nat → Bool} (h : RowBO w x n r) (hb : Below w.heap.size w w') : RowBO w' x n r := fun j hj => by
  obtain ⟨b, e, hc⟩ := h j hj
  exact ⟨b, e, cell_below hb hc⟩

theorem sameB_any (x y : Option Addr) (cx cy n : Nat) (f : Nat → Bool) (w : World) (hm : n ≤ maxLen) (hx : RowBO w x n f) (hy : RowBO w y n f) :
    Calls Tryz.prog 13 #[.slice x n cx, .slice y n cy] w fun e w' => e = .returned (.bool true) ∧ ∃ q, w' = w.drewN q := by
  unfold maxLen at hm
  have HX : Hid (RowBO w x n f) := hx
  have HY : Hid (RowBO w y n f) := hy
  clear hx hy
  go_enter Tryz.func13, Tryz.ntmps13
  go_wp2
  go_loopw [5] (fun i wr => ∃ k : Nat, k ≤ n ∧ i = .int .i64 k ∧ ∃ q, wr = w.drewN q) (fun i _ => n - (intOf i).toNat)
  case atStart => exact ⟨0, Nat.zero_le _, rfl, 0, rfl⟩
  case round =>
    obtain ⟨k, hk, rfl, q, rfl⟩ := hrel
    by_cases hlt : k < n
    · obtain ⟨b, rfl, c0⟩ := HX.out k hlt
      obtain ⟨b', rfl, c1⟩ := HY.out k hlt
      have d0 : w.cell? ⟨b, 0 + k, none⟩ = some (.bool (f k)) := by simpa using c0
      have d1 : w.cell? ⟨b', 0 + k, none⟩ = some (.bool (f k)) := by simpa using c1
      generalize f k = u at *
      go_wp2
      go_quiet (fail)
      go_wp2
      go_roundw
      case rel => exact ⟨k + 1, by omega, by go_num, _, rfl⟩
      case measure => simp [intOf]; omega
    · go_wp2
      go_ret
      exact ⟨rfl, _, rfl⟩

theorem okL_at {xs : List It} (h : okL xs) : listE xs = (0, -1) := by
  unfold okL at h
  have hl : ¬ 100 < xs.length := fun hl => by rw [listE_long hl] at h; simp at h
  cases hb : firstBad xs with
  | none => simp only [listE, hl, if_false, hb]
  | some i =>
    exfalso
    simp only [listE, hl, if_false, hb] at h
    unfold firstBad at hb
    rw [List.find?_range_eq_some] at hb
    have := hb.1
    simp [h] at this
end Go.Proofs.YtnppmigncjakeaaGreatDoor
