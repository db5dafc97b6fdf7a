/-
  millracelaw.QueueFifo: it returns true at every room, at either end, and for all steps; nothing that was there before is otherwise. Conditions: the steps lie in memory; errors.errorType holds its handle.
-/
import Derived.Test.YtgiommaelipmhaaDoorPe
import Derived.Test.YtgiommaelipmhaaDoorEr
namespace Go.Proofs.YtgiommaelipmhaaDoor
open Go.RowKit Go.Extern.Stop Go.Stop Go.Extern

/-- What room may be. -/
def roomE (P R : Int) : Int := if 0 ≤ P ∧ P ≤ 1000000 ∧ 0 ≤ R ∧ R ≤ 1000000 then 0 else 2
theorem room_any (P R : Int) (w : World) : Calls Tryd.prog 5 #[.int .i64 P, .int .i64 R] w fun e w' => e = .returned (.int .i64 (roomE P R)) ∧ w' = w := by
  by_cases h1 : 0 ≤ P ∧ P ≤ 1000000
  · by_cases h2 : 0 ≤ R ∧ R ≤ 1000000
    · have HE : Hid (roomE P R = 0) := by show _ = _; unfold roomE; rw [if_pos (by omega)]
      have HY1 := within_yes P 0 1000000 w h1.1 h1.2
      have HY2 := within_yes R 0 1000000 w h2.1 h2.2
      clear h1 h2
      go_enter Tryd.func5, Tryd.ntmps5
      go_wp2_with fail
      refine HY1.mono ?_
      rintro e w1 ⟨rfl, hw1⟩
      subst hw1
      go_wp2_with fail
      refine HY2.mono ?_
      rintro e w2 ⟨rfl, hw2⟩
      subst hw2
      go_wp2
      go_ret
      exact ⟨by rw [HE.out]; rfl, rfl⟩
    · have HE : Hid (roomE P R = 2) := by show _ = _; unfold roomE; rw [if_neg (by omega)]
      have HY1 := within_yes P 0 1000000 w h1.1 h1.2
      have HY2 := within_no R 0 1000000 w (by omega)
      clear h1 h2
      go_enter Tryd.func5, Tryd.ntmps5
      go_wp2_with fail
      refine HY1.mono ?_
      rintro e w1 ⟨rfl, hw1⟩
      subst hw1
      go_wp2_with fail
      refine HY2.mono ?_
      rintro e w2 ⟨rfl, hw2⟩
      subst hw2
      go_wp2
      go_ret
      exact ⟨by rw [HE.out]; rfl, rfl⟩
  · have HE : Hid (roomE P R = 2) := by show _ = _; unfold roomE; rw [if_neg (by omega)]
    have HY1 := within_no P 0 1000000 w (by omega)
    clear h1
    go_enter Tryd.func5, Tryd.ntmps5
    go_wp2_with fail
    refine HY1.mono ?_
    rintro e w1 ⟨rfl, hw1⟩
    subst hw1
    go_wp2
    go_ret
    exact ⟨by rw [HE.out]; rfl, rfl⟩
theorem fifo_agree (b b' : Nat) (P R : Int) (hd : Bool) : Agree (FifoM b P R hd) (RFifoM b' P R hd) (fun (s : List Hd) (r : List Hd) => s = r) where
  put := by
    rintro (s : List Hd) (r : List Hd) t n now x rfl _ _ _ _ _ _ _ _ _
    exact ⟨rfl, rfl⟩
  take := by
    rintro (s : List Hd) (r : List Hd) t n now rfl _ _ _ _ _ _
    exact ⟨rfl, rfl⟩
  when := by
    rintro (s : List Hd) (r : List Hd) t n now rfl _ _ _ _ _ _
    exact ⟨rfl, fun _ => rfl, rfl⟩
  len := by
    rintro (s : List Hd) (r : List Hd) t n rfl _ _
    exact ⟨rfl, rfl⟩
theorem ptrF (b : Nat) (w : World) : (binOp .eql 25 (.pointer (some ⟨b, 0, none⟩)) (.pointer none)).run Tryd.prog w = .ok (.bool false) w := by kernel_rfl
theorem ptrN (w : World) : (binOp .eql 25 (.pointer none) (.pointer none)).run Tryd.prog w = .ok (.bool true) w := by kernel_rfl
set_option maxHeartbeats 2000000 in
theorem fifoLaw_any (P R : Int) (hd : Bool) (x : Option Addr) (cap : Nat) (xs : List Stp) (w : World) (hl : Lies w x (flt Stp.cs xs)) (hm : xs.length ≤ maxLen) (hL : Laid w) :
    Calls Tryd.prog 3 #[.int .i64 P, .int .i64 R, .bool hd, .slice x xs.length cap] w fun e w' => e = .returned (.bool true) ∧ Below w.heap.size w w' := by
  have HL : Hid (Lies w x (flt Stp.cs xs)) := hl
  have HLD : Hid (Laid w) := hL
  clear hl hL
  unfold maxLen at hm
  obtain ⟨q, hq⟩ : ∃ q, xs.length = q := ⟨_, rfl⟩
  have HN : Hid (xs.length = q) := hq
  rw [hq] at hm ⊢
  clear hq
  have hp1 := ptrF
  have hp2 := ptrN
  by_cases hlen : 120 < q
  · go_enter Tryd.func3, Tryd.ntmps3
    go_wp2
    go_ret
    exact ⟨rfl, Below.refl _ _⟩
  · have hq1 : q ≤ 120 := by omega
    clear hm hlen
    by_cases hpr : 0 ≤ P ∧ P ≤ 1000000 ∧ 0 ≤ R ∧ R ≤ 1000000
    · have HE : Hid (roomE P R = 0) := by show _ = _; unfold roomE; rw [if_pos hpr]
      obtain ⟨hP, hP1, hR, hR1⟩ := hpr
      go_enter Tryd.func3, Tryd.ntmps3
      go_wp2_with (first | (go_at_call 5; refine (room_any P R w).mono ?_; rintro e w1 ⟨he1, hw1⟩; rw [HE.out] at he1; subst he1 hw1) | (go_at_call 6; refine (newFifo_yes P R hd _ hP hP1 hR hR1).mono ?_; rintro e w2 ⟨rfl, hl2, hw2⟩; subst hw2; obtain ⟨k2, k3, k4⟩ := fifo_cells hl2) | (go_at_call 8; fail))
      have hb2 : Below w1.heap.size w1 ((w1.alloc (.cells #[.slice none 0 0, .int .i64 0, .int .i64 P, .int .i64 R, .bool hd] 35)).alloc (.cells #[.int .i64 P, .int .i64 R, .bool hd, .slice none 0 0] 40)) := below_alloc_ (below_alloc_ (Below.refl _ _) _) _
      have HPL := played_any (FifoM w1.heap.size P R hd) (fifoM_fine _ _ _ _ hP hR hR1) (RFifoM (w1.heap.size + 1) P R hd) (rfifoM_fine _ _ _ _ hP hR) _ (fifo_agree _ _ P R hd) (· = w1.heap.size) (· = w1.heap.size + 1) ([] : List Hd) ([] : List Hd) x cap xs _ (HL.out.below hb2) (by rw [HN.out]; omega) ⟨.slice none 0 0, hl2.below (below_alloc_ (Below.refl _ _) _), fun k => by simp [Value.ownBlock]⟩ ⟨Nat.le_refl _, by simp⟩ ⟨.slice none 0 0, ⟨new_block_ (by simp), Ps.nil _, by simp [Value.ownBlock]⟩, fun k => by simp [Value.ownBlock]⟩ ⟨Nat.le_refl _, by simp⟩ (fun k h1 h2 => by omega) rfl
      rw [HN.out] at HPL
      refine HPL.mono ?_
      rintro e w3 ⟨rfl, hot⟩
      have hfin : Below w1.heap.size w1 w3 := hb2.trans (hot.below (by simp; omega) (fun k hk => by omega))
      have HF : Hid (Below w1.heap.size w1 w3) := hfin
      clear hfin hot HPL hb2
      go_wp2
      go_ret
      exact ⟨rfl, HF.out⟩
    · have HE : Hid (roomE P R = 2) := by show _ = _; unfold roomE; rw [if_neg hpr]
      have HB : Hid (∀ W : World, Laid W → Calls Tryd.prog 7 #[.iface 23 (.int .i64 2), .int .i64 2] W fun e w' => e = .returned (.bool true) ∧ Below W.heap.size W w') := fun W hW => bare_no 2 W hW (by decide)
      go_enter Tryd.func3, Tryd.ntmps3
      go_wp2_with (first | (go_at_call 5; refine (room_any P R w).mono ?_; rintro e w1 ⟨he1, hw1⟩; rw [HE.out] at he1; subst he1 hw1) | (go_at_call 6; refine (newFifo_no P R hd _ hpr).mono ?_; rintro e w2 ⟨rfl, hw2⟩; subst hw2) | (go_at_call 7; refine (HB.out _ HLD.out).mono ?_; rintro e w3 ⟨rfl, hb3⟩))
      go_ret
      exact ⟨rfl, hb3⟩
end Go.Proofs.YtgiommaelipmhaaDoor
