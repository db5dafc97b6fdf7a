/-
  millraceref.Number and the parser's field: a number from 0 to 1000000000, or what is wrong with it. Conditions: strconv's variables are as they are laid; the word has at most 2000 bytes.
-/
import Derived.Test.YtibecinojkkjpaaGreatDoorRp1
namespace Go.Proofs.YtibecinojkkjpaaGreatDoor
open Go.RowKit Go.Extern.Stop Go.Stop Go.Extern

theorem rnumber_any (s : ByteArray) (w : World) (hs : s.size ≤ 2000) (hG : Glob w) :
    Calls Tryz.prog 39 #[.string s] w fun e w' => e = .returned (.tuple #[.int .i64 ((numL s.data.toList).getD 0), .bool (numL s.data.toList).isSome]) ∧ Below w.heap.size w w' := by
  rcases hp : Lib.parseIntB 64 s.data.toList with v | _ | _
  ·
    have hv : -9223372036854775808 ≤ v ∧ v ≤ 9223372036854775807 := by have := Lib.parseIntB_bounds hp; simp at this; omega
    have HP : Hid (Calls Tryz.prog 55 #[.string s, .int .i64 10, .int .i64 64] w fun e w' => e = .returned (.tuple #[.int .i64 v, .nilIface]) ∧ Below w.heap.size w w') := by
      refine (Tryz.strconv_ParseInt_10_at64_ok s (by omega) v hp w).mono ?_
      rintro e w' ⟨rfl, rfl | ⟨t, rfl⟩⟩
      · exact ⟨rfl, Below.refl _ _⟩
      · exact ⟨rfl, Lib.bytesWorld_below _ _ _⟩
    have HF : Hid (∀ w1, Below w.heap.size w w1 → Calls Tryz.prog 56 #[.int .i64 v, .int .i64 10] w1 fun e w' => e = .returned (.string ⟨(Lib.itoa v).toArray⟩) ∧ Below w1.heap.size w1 w') := by
      intro w1 hb1
      refine (Tryz.strconv_FormatInt_10 v hv.1 hv.2 w1 (hG.below hb1).1).mono ?_
      rintro e w' ⟨rfl, k, os, rfl⟩
      exact ⟨rfl, Lib.below_grow _ _ (Nat.le_refl _) _ _⟩
    by_cases hq : Lib.itoa v = s.data.toList
    · have o1 : (Lib.itoa v == s.toList) = true := by rw [toList_data]; simpa using hq
      have HN : Hid (numL s.data.toList = some v) := by show _ = _; unfold numL; rw [hp]; simp [hq]
      clear hp hq
      go_enter Tryz.func39, Tryz.ntmps39
      go_wp2_with (first | (go_at_call 55; refine HP.out.mono ?_; rintro e w1 ⟨rfl, hb1⟩) | (go_at_call 56; refine (HF.out _ hb1).mono ?_; rintro e w2 ⟨rfl, hb2⟩))
      go_ret2
      exact ⟨by rw [HN.out]; rfl, hb1.trans (hb2.mono hb1.size)⟩
    · have o1 : (Lib.itoa v == s.toList) = false := by rw [toList_data]; simpa using hq
      have HN : Hid (numL s.data.toList = none) := by show _ = _; unfold numL; rw [hp]; simp [hq]
      clear hp hq
      go_enter Tryz.func39, Tryz.ntmps39
      go_wp2_with (first | (go_at_call 55; refine HP.out.mono ?_; rintro e w1 ⟨rfl, hb1⟩) | (go_at_call 56; refine (HF.out _ hb1).mono ?_; rintro e w2 ⟨rfl, hb2⟩))
      go_ret2
      exact ⟨by rw [HN.out]; rfl, hb1.trans (hb2.mono hb1.size)⟩
  ·
    obtain ⟨tp, pv, hvar⟩ := hG.2.1
    have HP : Hid (Calls Tryz.prog 55 #[.string s, .int .i64 10, .int .i64 64] w fun e w' => ∃ N, e = .returned (.tuple #[.int .i64 0, .iface 177 (.pointer (some ⟨N, 0, none⟩))]) ∧ Below w.heap.size w w') := by
      refine (Tryz.strconv_ParseInt_10_at64_bad_var s (by omega) (fun v => by rw [hp]; simp) (by rw [hp]; simp) tp pv w hvar).mono ?_
      rintro e w' ⟨N, rfl, _, _, hb⟩
      exact ⟨N, rfl, hb⟩
    have HN : Hid (numL s.data.toList = none) := by show _ = _; unfold numL; rw [hp]
    clear hp
    go_enter Tryz.func39, Tryz.ntmps39
    go_wp2_with (go_at_call 55; refine HP.out.mono ?_; rintro e w1 ⟨N, rfl, hb1⟩)
    go_ret2
    exact ⟨by rw [HN.out]; rfl, hb1⟩
  ·
    obtain ⟨tp, pv, hvar⟩ := hG.2.2
    have HP : Hid (∃ x, Calls Tryz.prog 55 #[.string s, .int .i64 10, .int .i64 64] w fun e w' => ∃ N, e = .returned (.tuple #[.int .i64 x, .iface 177 (.pointer (some ⟨N, 0, none⟩))]) ∧ Below w.heap.size w w') := by
      refine ⟨Lib.intSat 64 s.data.toList, (Tryz.strconv_ParseInt_10_at64_range_var s (by omega) hp tp pv w hvar).mono ?_⟩
      rintro e w' ⟨N, rfl, _, _, hb⟩
      exact ⟨N, rfl, hb⟩
    have HN : Hid (numL s.data.toList = none) := by show _ = _; unfold numL; rw [hp]
    clear hp
    obtain ⟨x, hP⟩ := HP.out
    have HQ : Hid (Calls Tryz.prog 55 #[.string s, .int .i64 10, .int .i64 64] w fun e w' => ∃ N, e = .returned (.tuple #[.int .i64 x, .iface 177 (.pointer (some ⟨N, 0, none⟩))]) ∧ Below w.heap.size w w') := hP
    clear HP hP
    go_enter Tryz.func39, Tryz.ntmps39
    go_wp2_with (go_at_call 55; refine HQ.out.mono ?_; rintro e w1 ⟨N, rfl, hb1⟩)
    go_ret2
    exact ⟨by rw [HN.out]; rfl, hb1⟩
theorem rwithin_any (n lo hi : Int) (w : World) : Calls Tryz.prog 40 #[.int .i64 n, .int .i64 lo, .int .i64 hi] w fun e w' => e = .returned (.bool (decide (lo ≤ n) && decide (n ≤ hi))) ∧ w' = w := by
  by_cases h1 : lo ≤ n
  · by_cases h2 : n ≤ hi
    · go_enter Tryz.func40, Tryz.ntmps40
      go_wp2
      go_ret
      exact ⟨by simp [h1, h2], rfl⟩
    · go_enter Tryz.func40, Tryz.ntmps40
      go_wp2
      go_ret
      exact ⟨by simp [h2], rfl⟩
  · go_enter Tryz.func40, Tryz.ntmps40
    go_wp2
    go_ret
    exact ⟨by simp; intro h; omega, rfl⟩
/-- A number that may be is read; else the parser says what is wrong, where it stands. -/
theorem field_yes (b : Nat) (w : World) (s : ByteArray) (hs : s.size ≤ 2000) (hG : Glob w) (q : Int) (hq : numF s.data.toList = some q) :
    Calls Tryz.prog 26 #[.pointer (some ⟨b, 0, none⟩), .string s] w fun e w' => e = .returned (.int .i64 q) ∧ Below w.heap.size w w' := by
  have hn : numL s.data.toList = some q ∧ 0 ≤ q ∧ q ≤ 1000000000 := by
    unfold numF at hq
    cases hnn : numL s.data.toList with
    | none => rw [hnn] at hq; cases hq
    | some m =>
      rw [hnn] at hq
      simp only at hq
      split at hq
      · cases hq; rename_i hh; exact ⟨rfl, hh⟩
      · cases hq
  have HN := rnumber_any s w hs hG
  rw [hn.1] at HN
  have HNN : Hid (Calls Tryz.prog 39 #[.string s] w fun e w' => e = .returned (.tuple #[.int .i64 q, .bool true]) ∧ Below w.heap.size w w') := HN
  have HWI : Hid (∀ W, Calls Tryz.prog 40 #[.int .i64 q, .int .i64 0, .int .i64 1000000000] W fun e w' => e = .returned (.bool true) ∧ w' = W) := fun W => by
    have := rwithin_any q 0 1000000000 W
    rw [show (decide (0 ≤ q) && decide (q ≤ 1000000000)) = true by simp; exact hn.2] at this
    exact this
  clear hn hq HN
  go_enter Tryz.func26, Tryz.ntmps26
  go_wp2_with fail
  refine HNN.out.mono ?_
  rintro e w1 ⟨rfl, hb1⟩
  have HB1 : Hid (Below w.heap.size w w1) := hb1
  clear hb1
  go_wp2_with fail
  refine (HWI.out _).mono ?_
  rintro e w2 ⟨rfl, rfl⟩
  go_wp2
  go_ret
  exact ⟨rfl, HB1.out⟩
theorem field_no {b n : Nat} {v : Value} {L : List (List UInt8 × Nat)} {at' : Int} (w : World) (h : PsAt w b n 0 at' v L) (s : ByteArray) (hs : s.size ≤ 2000) (hG : Glob w) (hq : numF s.data.toList = none) :
    Calls Tryz.prog 26 #[.pointer (some ⟨b, 0, none⟩), .string s] w fun e w' => (∃ q, e = .returned (.int .i64 q)) ∧ PsAt w' b n (numC s.data.toList) (hdP n L) v L ∧ Ot (· = b) w w' := by
  have HN := rnumber_any s w hs hG
  have H : Hid (PsAt w b n 0 at' v L) := h
  clear h
  cases hnn : numL s.data.toList with
  | none =>
    have HC : Hid (numC s.data.toList = 3) := by show _ = _; unfold numC; rw [hnn]
    rw [hnn] at HN
    have HNN : Hid (Calls Tryz.prog 39 #[.string s] w fun e w' => e = .returned (.tuple #[.int .i64 0, .bool false]) ∧ Below w.heap.size w w') := HN
    clear HN hq hnn
    go_enter Tryz.func26, Tryz.ntmps26
    go_wp2_with fail
    refine HNN.out.mono ?_
    rintro e w1 ⟨rfl, hb1⟩
    have HB1 : Hid (Below w.heap.size w w1) := hb1
    clear hb1
    go_wp2_with fail
    refine (fail_any at' w1 (H.out.below HB1.out) 3).mono ?_
    rintro e w2 ⟨rfl, hp, ho⟩
    have HP : Hid (PsAt w2 b n 3 (hdP n L) v L) := hp
    have HO : Hid (Ot (· = b) w w2) := (Ot.of_below HB1.out).trans ho
    clear hp ho
    go_wp2
    go_ret
    exact ⟨⟨_, rfl⟩, by rw [HC.out]; exact HP.out, HO.out⟩
  | some q =>
    have HC : Hid (numC s.data.toList = 2) := by show _ = _; unfold numC; rw [hnn]
    have hr : ¬ (0 ≤ q ∧ q ≤ 1000000000) := fun hh => by
      unfold numF at hq
      rw [hnn] at hq
      simp only at hq
      rw [if_pos hh] at hq
      cases hq
    rw [hnn] at HN
    have HNN : Hid (Calls Tryz.prog 39 #[.string s] w fun e w' => e = .returned (.tuple #[.int .i64 q, .bool true]) ∧ Below w.heap.size w w') := HN
    have HWI : Hid (∀ W, Calls Tryz.prog 40 #[.int .i64 q, .int .i64 0, .int .i64 1000000000] W fun e w' => e = .returned (.bool false) ∧ w' = W) := fun W => by
      have := rwithin_any q 0 1000000000 W
      rw [show (decide (0 ≤ q) && decide (q ≤ 1000000000)) = false by
        rw [Bool.and_eq_false_iff, decide_eq_false_iff_not, decide_eq_false_iff_not]; omega] at this
      exact this
    clear HN hq hnn hr
    go_enter Tryz.func26, Tryz.ntmps26
    go_wp2_with fail
    refine HNN.out.mono ?_
    rintro e w1 ⟨rfl, hb1⟩
    have HB1 : Hid (Below w.heap.size w w1) := hb1
    clear hb1
    go_wp2_with fail
    refine (HWI.out _).mono ?_
    rintro e w1 ⟨rfl, rfl⟩
    go_wp2_with fail
    refine (fail_any at' w1 (H.out.below HB1.out) 2).mono ?_
    rintro e w2 ⟨rfl, hp, ho⟩
    have HP : Hid (PsAt w2 b n 2 (hdP n L) v L) := hp
    have HO : Hid (Ot (· = b) w w2) := (Ot.of_below HB1.out).trans ho
    clear hp ho
    go_wp2
    go_ret
    exact ⟨⟨_, rfl⟩, by rw [HC.out]; exact HP.out, HO.out⟩
/-- Where something is wrong already, nothing is said any more. -/
theorem field_done {b n : Nat} {v : Value} {L : List (List UInt8 × Nat)} {er at' : Int} (w : World) (h : PsAt w b n er at' v L) (hne : er ≠ 0) (s : ByteArray) (hs : s.size ≤ 2000) (hG : Glob w) :
    Calls Tryz.prog 26 #[.pointer (some ⟨b, 0, none⟩), .string s] w fun e w' => (∃ q, e = .returned (.int .i64 q)) ∧ Below w.heap.size w w' := by
  have HN := rnumber_any s w hs hG
  have H : Hid (PsAt w b n er at' v L) := h
  have HNE : Hid (er ≠ 0) := hne
  clear h hne
  obtain ⟨q, hqq⟩ : ∃ q, (numL s.data.toList).getD 0 = q := ⟨_, rfl⟩
  cases hnn : (numL s.data.toList).isSome with
  | false =>
    rw [hnn, hqq] at HN
    have HNN : Hid (Calls Tryz.prog 39 #[.string s] w fun e w' => e = .returned (.tuple #[.int .i64 q, .bool false]) ∧ Below w.heap.size w w') := HN
    clear HN hnn hqq
    go_enter Tryz.func26, Tryz.ntmps26
    go_wp2_with fail
    refine HNN.out.mono ?_
    rintro e w1 ⟨rfl, hb1⟩
    have HB1 : Hid (Below w.heap.size w w1) := hb1
    clear hb1
    go_wp2_with fail
    refine (fail_done w1 (H.out.below HB1.out) HNE.out 3).mono ?_
    rintro e w2 ⟨rfl, rfl⟩
    go_wp2
    go_ret
    exact ⟨⟨_, rfl⟩, HB1.out⟩
  | true =>
    rw [hnn, hqq] at HN
    have HNN : Hid (Calls Tryz.prog 39 #[.string s] w fun e w' => e = .returned (.tuple #[.int .i64 q, .bool true]) ∧ Below w.heap.size w w') := HN
    clear HN hnn hqq
    cases hin : (decide (0 ≤ q) && decide (q ≤ 1000000000)) with
    | true =>
      have HWI : Hid (∀ W, Calls Tryz.prog 40 #[.int .i64 q, .int .i64 0, .int .i64 1000000000] W fun e w' => e = .returned (.bool true) ∧ w' = W) := fun W => by
        have := rwithin_any q 0 1000000000 W
        rw [hin] at this
        exact this
      clear hin
      go_enter Tryz.func26, Tryz.ntmps26
      go_wp2_with fail
      refine HNN.out.mono ?_
      rintro e w1 ⟨rfl, hb1⟩
      have HB1 : Hid (Below w.heap.size w w1) := hb1
      clear hb1
      go_wp2_with fail
      refine (HWI.out _).mono ?_
      rintro e w2 ⟨rfl, rfl⟩
      go_wp2
      go_ret
      exact ⟨⟨_, rfl⟩, HB1.out⟩
    | false =>
      have HWI : Hid (∀ W, Calls Tryz.prog 40 #[.int .i64 q, .int .i64 0, .int .i64 1000000000] W fun e w' => e = .returned (.bool false) ∧ w' = W) := fun W => by
        have := rwithin_any q 0 1000000000 W
        rw [hin] at this
        exact this
      clear hin
      go_enter Tryz.func26, Tryz.ntmps26
      go_wp2_with fail
      refine HNN.out.mono ?_
      rintro e w1 ⟨rfl, hb1⟩
      have HB1 : Hid (Below w.heap.size w w1) := hb1
      clear hb1
      go_wp2_with fail
      refine (HWI.out _).mono ?_
      rintro e w1 ⟨rfl, rfl⟩
      go_wp2_with fail
      refine (fail_done w1 (H.out.below HB1.out) HNE.out 2).mono ?_
      rintro e w2 ⟨rfl, rfl⟩
      go_wp2
      go_ret
      exact ⟨⟨_, rfl⟩, HB1.out⟩
end Go.Proofs.YtibecinojkkjpaaGreatDoor
