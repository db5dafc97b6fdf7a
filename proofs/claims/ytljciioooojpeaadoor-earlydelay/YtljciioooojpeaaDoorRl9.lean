/-
  millracelaw.EarlyDelay: it returns true at every target, span and room and for all steps; nothing that was there before is otherwise. Conditions: the steps lie in memory; errors.errorType holds its handle.
-/
import Derived.Test.YtljciioooojpeaaDoorRl8
import Derived.Test.YtljciioooojpeaaDoorRl4
namespace Go.Proofs.YtljciioooojpeaaDoor
open Go.RowKit Go.Extern.Stop Go.Stop Go.Extern

theorem ptrDl (b : Nat) (w : World) : (binOp .eql 25 (.pointer (some ⟨b, 0, none⟩)) (.pointer none)).run Tryd.prog w = .ok (.bool false) w := by kernel_rfl
theorem ptrDlN (w : World) : (binOp .eql 25 (.pointer none) (.pointer none)).run Tryd.prog w = .ok (.bool true) w := by kernel_rfl
set_option maxHeartbeats 2000000 in
theorem delayLaw_any (T S P : Int) (x : Option Addr) (cap : Nat) (xs : List Stp) (w : World) (hl : Lies w x (flt Stp.cs xs)) (hm : xs.length ≤ maxLen) (hL : Laid w) :
    Calls Tryd.prog 3 #[.int .i64 T, .int .i64 S, .int .i64 P, .slice x xs.length cap] w fun e w' => e = .returned (.bool true) ∧ Below w.heap.size w w' := by
  have HL : Hid (Lies w x (flt Stp.cs xs)) := hl
  have HLD : Hid (Laid w) := hL
  clear hl hL
  unfold maxLen at hm
  obtain ⟨q, hq⟩ : ∃ q, xs.length = q := ⟨_, rfl⟩
  have HN : Hid (xs.length = q) := hq
  rw [hq] at hm ⊢
  clear hq
  have hp1 := ptrDl
  have hp2 := ptrDlN
  by_cases hlen : 120 < q
  · go_enter Tryd.func3, Tryd.ntmps3
    go_wp2
    go_ret
    exact ⟨rfl, Below.refl _ _⟩
  · have hq1 : q ≤ 120 := by omega
    clear hm hlen
    by_cases hpr : 0 ≤ P ∧ P ≤ 1000000 ∧ 0 ≤ T ∧ T ≤ 1000000 ∧ 1 ≤ S ∧ S ≤ 1000000
    · have HE : Hid (∀ W : World, Calls Tryd.prog 7 #[.int .i64 T, .int .i64 S, .int .i64 P] W fun e w' => e = .returned (.int .i64 0) ∧ w' = W) := fun W => delayCheck_yes T S P W hpr.1 hpr.2.1 hpr.2.2.1 hpr.2.2.2.1 hpr.2.2.2.2.1 hpr.2.2.2.2.2
      have HNW : Hid (∀ W : World, Calls Tryd.prog 8 #[.int .i64 T, .int .i64 S, .int .i64 P] W fun e w' => e = .returned (.tuple #[.pointer (some ⟨W.heap.size + 1, 0, none⟩), .nilIface]) ∧ DAt w' (W.heap.size + 1) P 1000000 T S (.slice none 0 0) dl0 ∧ Below W.heap.size W w') := fun W => newDelay_yes T S P W hpr.1 hpr.2.1 hpr.2.2.1 hpr.2.2.2.1 hpr.2.2.2.2.1 hpr.2.2.2.2.2
      obtain ⟨hP, hP1, hT, hT1, hS, hS1⟩ := hpr
      go_enter Tryd.func3, Tryd.ntmps3
      go_wp2_with (first | (go_at_call 7; refine (HE.out w).mono ?_; rintro e w1 ⟨rfl, hw1⟩; subst hw1) | (go_at_call 8; refine (HNW.out _).mono ?_; rintro e w2 ⟨rfl, hd2, hb2⟩; have hbl := LAt.lt hd2; obtain ⟨⟨k5, k6, k7, k8, k9, k10, k11⟩, _⟩ := DAt.cells hd2; have HD2 : Hid (DAt w2 (w1.heap.size + 1) P 1000000 T S (.slice none 0 0) dl0) := hd2; have HB2 : Hid (Below w1.heap.size w1 w2) := hb2; clear hd2 hb2) | (go_at_call 10; fail))
      have hb3 : Below w1.heap.size w1 (w2.alloc (.cells #[.int .i64 P, .int .i64 1000000, .bool false, .slice none 0 0, .int .i64 T, .int .i64 S, .slice none 0 0, .bool false, .int .i64 0, .int .i64 0] 45)) := below_alloc_ HB2.out _
      have HPL := played_any (DelayM (w1.heap.size + 1) P 1000000 T S) (delayM_fine _ _ _ _ _ hP (by decide) (by decide) (by omega) hS1) (RDelM w2.heap.size P 1000000 T S) (rdelM_fine _ _ _ _ _ hP (by decide) (by decide) (by omega) hS1) _ (delay_agree _ _ P 1000000 T S) (· = w1.heap.size + 1) (· = w2.heap.size) dl0 dl0 x cap xs _ (HL.out.below hb3) (by rw [HN.out]; omega) ⟨.slice none 0 0, LAt.below HD2.out (below_alloc_ (Below.refl _ _) _), fun k => by simp [Value.ownBlock]⟩ (delay_inv0 0 P 1000000 T S) ⟨.slice none 0 0, .slice none 0 0, ⟨⟨new_block_ rfl, Ps.nil _, by simp [Value.ownBlock]⟩, fun _ => rfl, fun h => (by cases h), by simp [Value.ownBlock], fun k hk => by simp [Value.ownBlock] at hk, fun k hk => by simp [Value.ownBlock] at hk⟩, fun k => by simp [Value.ownBlock]⟩ (delay_inv0 0 P 1000000 T S) (fun k h1 h2 => by omega) rfl
      rw [HN.out] at HPL
      refine HPL.mono ?_
      rintro e w3 ⟨rfl, hot⟩
      have hsz := HB2.out.size
      have hfin : Below w1.heap.size w1 w3 := hb3.trans (hot.below (by simp; omega) (fun k hk => by omega))
      have HF : Hid (Below w1.heap.size w1 w3) := hfin
      clear hfin hot HPL hb3
      go_wp2
      go_ret
      exact ⟨rfl, HF.out⟩
    · have HE : Hid (∀ W : World, Calls Tryd.prog 7 #[.int .i64 T, .int .i64 S, .int .i64 P] W fun e w' => e = .returned (.int .i64 2) ∧ w' = W) := fun W => delayCheck_no T S P W hpr
      have HNW : Hid (∀ W : World, Calls Tryd.prog 8 #[.int .i64 T, .int .i64 S, .int .i64 P] W fun e w' => e = .returned (.tuple #[.pointer none, .iface 23 (.int .i64 2)]) ∧ Below W.heap.size W w') := fun W => newDelay_no T S P W hpr
      have HB : Hid (∀ W : World, Laid W → Calls Tryd.prog 9 #[.iface 23 (.int .i64 2), .int .i64 2] W fun e w' => e = .returned (.bool true) ∧ Below W.heap.size W w') := fun W hW => bare_no 2 W hW (by decide)
      clear hpr
      go_enter Tryd.func3, Tryd.ntmps3
      go_wp2_with (first | (go_at_call 7; refine (HE.out w).mono ?_; rintro e w1 ⟨rfl, hw1⟩; subst hw1) | (go_at_call 8; refine (HNW.out _).mono ?_; rintro e w2 ⟨rfl, hb2⟩) | (go_at_call 9; refine (HB.out _ (HLD.out.below hb2)).mono ?_; rintro e w3 ⟨rfl, hb3⟩))
      go_ret
      exact ⟨rfl, hb2.trans (hb3.mono hb2.size)⟩
end Go.Proofs.YtljciioooojpeaaDoor
