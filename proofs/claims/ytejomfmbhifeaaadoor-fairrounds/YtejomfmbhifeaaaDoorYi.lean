/-
  millracelaw.FairRounds: it returns true at every room and quanta and for all steps; nothing that was there before is otherwise. Conditions: quanta and steps lie in memory; errors.errorType holds its handle.
-/
import Derived.Test.YtejomfmbhifeaaaDoorYh
namespace Go.Proofs.YtejomfmbhifeaaaDoor
open Go.RowKit Go.Extern.Stop Go.Stop Go.Extern

set_option maxRecDepth 20000 in
set_option maxHeartbeats 4000000 in
theorem roundsLaw_any (R : Int) (y : Option Addr) (m ycap : Nat) (f : Nat → Int) (x : Option Addr) (cap : Nat) (xs : List Stp) (w : World) (hr : IRow w y m f) (hmm : m ≤ maxLen) (hl : Lies w x (flt Stp.cs xs)) (hm : xs.length ≤ maxLen) (hL : Laid w) :
    Calls Tryd.prog 5 #[.int .i64 R, .slice y m ycap, .slice x xs.length cap] w fun e w' => e = .returned (.bool true) ∧ Below w.heap.size w w' := by
  have HL : Hid (Lies w x (flt Stp.cs xs)) := hl
  have HR : Hid (IRow w y m f) := hr
  have HLD : Hid (Laid w) := hL
  clear hl hr hL
  unfold maxLen at hm hmm
  obtain ⟨q, hq⟩ : ∃ q, xs.length = q := ⟨_, rfl⟩
  have HN : Hid (xs.length = q) := hq
  rw [hq] at hm ⊢
  clear hq
  have hp1 := ptrRo
  have hp2 := ptrRoN
  by_cases hlen : 120 < q
  · go_enter Tryd.func5, Tryd.ntmps5
    go_wp2
    go_ret
    exact ⟨rfl, Below.refl _ _⟩
  by_cases hml : 40 < m
  · go_enter Tryd.func5, Tryd.ntmps5
    go_wp2
    go_ret
    exact ⟨rfl, Below.refl _ _⟩
  clear hm hmm
  go_enter Tryd.func5, Tryd.ntmps5
  go_wp2
  go_loopw [7] (fun i wr => ∃ k : Nat, k ≤ m ∧ i = .int .i64 k ∧ wr = w) (fun i _ => m - (intOf i).toNat)
  case atStart => exact ⟨0, Nat.zero_le _, rfl, rfl⟩
  case round =>
    obtain ⟨k, hk, rfl, rfl⟩ := hrel
    by_cases hlt : k < m
    · rcases HR.out with h0 | ⟨b, off, rfl, hb, hc⟩
      · omega
      have hck := hc k hlt
      clear hc
      by_cases h1 : 1 ≤ f k
      · have o0 : decide (1 ≤ f k) = true := decide_eq_true h1
        by_cases h20 : f k < 20
        · have o1 : decide (f k < 20) = true := decide_eq_true h20
          go_wp2
          go_ret
          exact ⟨rfl, Below.refl _ _⟩
        · have o1 : decide (f k < 20) = false := decide_eq_false h20
          go_wp2
          go_roundw
          case rel => exact ⟨k + 1, by omega, by go_num, by first | trivial | rfl⟩
          case measure => simp [intOf]; omega
      · have o0 : decide (1 ≤ f k) = false := decide_eq_false h1
        go_wp2
        go_roundw
        case rel => exact ⟨k + 1, by omega, by go_num, by first | trivial | rfl⟩
        case measure => simp [intOf]; omega
    · obtain rfl : k = m := by omega
      clear hk hlt
      by_cases hbad : (k < 1 ∨ 16 < k) ∨ ¬ (0 ≤ R ∧ R ≤ 1000000 ∧ allQ f k = true)
      · obtain ⟨ec, hec, HCK, HNW⟩ : ∃ ec : Int, ec ≠ 0 ∧ (Calls Tryd.prog 16 #[.int .i64 R, .slice y k ycap] wr fun e w' => e = .returned (.int .i64 ec) ∧ w' = wr) ∧ Calls Tryd.prog 17 #[.int .i64 R, .slice y k ycap] wr fun e w' => e = .returned (.tuple #[.pointer none, .iface 27 (.int .i64 ec)]) ∧ w' = wr := by
          by_cases h1 : k < 1 ∨ 16 < k
          · exact ⟨4, by decide, roundsCheck_len R wr h1 (by omega), newRn_len R wr h1 (by omega)⟩
          · have h2 : ¬ (0 ≤ R ∧ R ≤ 1000000 ∧ allQ f k = true) := hbad.resolve_left h1
            have h3 := roundsCheck_any (pcap := ycap) R wr HR.out (by omega) (by omega)
            rw [if_neg h2] at h3
            refine ⟨2, by decide, h3, newRn_range R wr HR.out (by omega) (by omega) ?_⟩
            cases hq : allQ f k with
            | false => exact Or.inr (Or.inr rfl)
            | true =>
              have : ¬ (0 ≤ R ∧ R ≤ 1000000) := fun h => h2 ⟨h.1, h.2, hq⟩
              omega
        have HB : Hid (∀ W : World, Laid W → Calls Tryd.prog 9 #[.iface 27 (.int .i64 ec), .int .i64 ec] W fun e w' => e = .returned (.bool true) ∧ Below W.heap.size W w') := fun W hW => bare_no ec W hW hec
        have o1 : (ec == 0) = false := by simpa using hec
        have o2 : (ec != 0) = true := by simpa using hec
        have hbr : wr.heap.size < (wr.alloc (.cells #[.pointer none] 61)).heap.size := by simp
        clear hbad hec
        go_wp2_with (go_at_call 16; fail)
        refine HCK.mono ?_
        rintro e w1 ⟨rfl, hw1⟩
        subst w1
        go_wp2_with (go_at_call 17; fail)
        refine HNW.mono ?_
        rintro e w2 ⟨rfl, hw2⟩
        subst w2
        go_wp2_with (go_at_call 9; fail)
        refine (HB.out _ (HLD.out.below (below_alloc_ (Below.refl _ _) _))).mono ?_
        rintro e w3 ⟨rfl, hb3⟩
        have HB3 : Hid (Below wr.heap.size wr w3) := (below_alloc_ (Below.refl _ _) _).trans (hb3.mono (by simp))
        have hblk3 : w3.heap[wr.heap.size]? = some (.cells #[.pointer none] 61 (0, 0)) := (hb3.block wr.heap.size (by simp)).trans (new_block wr _)
        have hc3 : w3.cell? ⟨wr.heap.size, 0, none⟩ = some (.pointer none) := by simp [World.cell?, hblk3]
        clear hblk3
        have hl3 : wr.heap.size < w3.heap.size := by have := hb3.size; simp at this; omega
        clear hb3 HCK HNW
        go_wp2
        go_ret
        exact ⟨rfl, HB3.out⟩
      · have hk1 : 1 ≤ k ∧ k ≤ 16 := by omega
        have hRQ : 0 ≤ R ∧ R ≤ 1000000 ∧ allQ f k = true := Classical.byContradiction (fun h => hbad (Or.inr h))
        clear hbad
        have HCK := roundsCheck_any (pcap := ycap) R wr HR.out hk1.1 hk1.2
        rw [if_pos hRQ] at HCK
        have HNW := newRn_yes (pcap := ycap) R wr HR.out hk1.1 hk1.2 hRQ.1 hRQ.2.1 hRQ.2.2
        have HQ : Hid (∀ i, i < 16 → 1 ≤ qF f k 16 i ∧ qF f k 16 i ≤ 1000000) := qF_ok hk1.1 hRQ.2.2
        have hmm := @run_makeMap Tryd.prog
        clear hRQ
        go_wp2_with (go_at_call 16; fail)
        refine HCK.mono ?_
        rintro e w1 ⟨rfl, hw1⟩
        subst w1
        go_wp2_with (go_at_call 17; fail)
        refine HNW.mono ?_
        rintro e w2 ⟨rfl, C2, hP2, hb2⟩
        have HPL := roundsPlay (pcap := ycap) (cap := cap) hk1.1 hk1.2 HQ.out hP2 HR.out hb2 HL.out (by rw [HN.out]; omega)
        rw [HN.out] at HPL
        unfold wPl at HPL
        have hb2s : wr.heap.size < w2.heap.size := hP2.blk.lt
        have HCO : Hid (∀ (W : World) (j : Int), (j < 0 ∨ 16 ≤ j) → Calls Tryd.prog 18 #[.pointer (some ⟨wr.heap.size, 0, none⟩), .int .i64 j] W fun e w' => e = .returned (.int .i64 0) ∧ w' = W) := fun W j hj => rcred_out wr.heap.size j hj W
        clear hP2 hb2 HCK HNW
        go_wp2_with (go_at_call 18; fail)
        refine (HCO.out _ (-1) (by omega)).mono ?_
        rintro e w4 ⟨rfl, hw4⟩
        subst hw4
        go_wp2_with (go_at_call 18; fail)
        refine (HCO.out _ 16 (by omega)).mono ?_
        rintro e w4 ⟨rfl, hw4⟩
        subst hw4
        go_wp2_with (go_at_call 10; fail)
        refine HPL.mono ?_
        rintro e w5 ⟨rfl, hb5⟩
        have HB5 : Hid (Below wr.heap.size wr w5) := hb5
        clear hb5 HPL
        go_wp2
        go_ret
        exact ⟨rfl, HB5.out⟩
end Go.Proofs.YtejomfmbhifeaaaDoor
