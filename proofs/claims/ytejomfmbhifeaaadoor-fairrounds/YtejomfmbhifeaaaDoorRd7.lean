/-
  early.New: the error, where room or setup may not be, or the tape is too long. No condition.
-/
import Derived.Test.YtejomfmbhifeaaaDoorRd6
namespace Go.Proofs.YtejomfmbhifeaaaDoor
open Go.RowKit Go.Extern.Stop Go.Stop Go.Extern

theorem newRed_room (q : RSet) (P R : Int) {tv : Value} (w : World) (h : ¬ (0 ≤ P ∧ P ≤ 1000000 ∧ 0 ≤ R ∧ R ≤ 1000000)) :
    Calls Tryd.prog 8 #[q.val, .int .i64 P, .int .i64 R, tv] w fun e w' => e = .returned (.tuple #[.pointer none, .iface 27 (.int .i64 2)]) ∧ Below w.heap.size w w' := by
  rw [RSet.val_eq]
  go_enter Tryd.func8, Tryd.ntmps8
  go_wp2_with (go_at_call 26; refine (newFifo_no P R false _ h).mono ?_; rintro e w1 ⟨rfl, hw1⟩; subst hw1)
  go_ret2
  exact ⟨rfl, below_alloc_ (Below.refl _ _) _⟩
theorem newRed_setup (q : RSet) (P R : Int) {tv : Value} (w : World) (hq : ¬ q.Ok) (hP : 0 ≤ P) (hP1 : P ≤ 1000000) (hR : 0 ≤ R) (hR1 : R ≤ 1000000) :
    Calls Tryd.prog 8 #[q.val, .int .i64 P, .int .i64 R, tv] w fun e w' => e = .returned (.tuple #[.pointer none, .iface 27 (.int .i64 2)]) ∧ Below w.heap.size w w' := by
  have HRT : Hid (∀ W : World, Calls Tryd.prog 27 #[.agg #[.int .i64 q.lo, .int .i64 q.hi, .int .i64 q.often, .int .i64 q.sl, .bool q.mrk]] W fun e w' => e = .returned (.bool false) ∧ Below W.heap.size W w') := fun W => right_no q W hq
  rw [RSet.val_eq]
  go_enter Tryd.func8, Tryd.ntmps8
  go_wp2_with (first | (go_at_call 26; refine (newFifo_yes P R false _ hP hP1 hR hR1).mono ?_; rintro e w1 ⟨rfl, hl1, hw1⟩; subst hw1) | (go_at_call 27; fail))
  refine (HRT.out _).mono ?_
  rintro e w2 ⟨rfl, hb2⟩
  go_wp2
  go_ret2
  exact ⟨rfl, (below_alloc_ (below_alloc_ (Below.refl _ _) _) _).trans (hb2.mono (by simp; omega))⟩
theorem newRed_tape (q : RSet) (P R : Int) {px : Option Addr} {m pcap : Nat} (w : World) (hm : 1000 < m) (hm1 : m ≤ 9223372036854775807) (hq : q.Ok) (hP : 0 ≤ P) (hP1 : P ≤ 1000000) (hR : 0 ≤ R) (hR1 : R ≤ 1000000) :
    Calls Tryd.prog 8 #[q.val, .int .i64 P, .int .i64 R, .slice px m pcap] w fun e w' => e = .returned (.tuple #[.pointer none, .iface 27 (.int .i64 4)]) ∧ Below w.heap.size w w' := by
  have HRT : Hid (∀ W : World, Calls Tryd.prog 27 #[.agg #[.int .i64 q.lo, .int .i64 q.hi, .int .i64 q.often, .int .i64 q.sl, .bool q.mrk]] W fun e w' => e = .returned (.bool true) ∧ Below W.heap.size W w') := fun W => right_yes q W hq
  rw [RSet.val_eq]
  go_enter Tryd.func8, Tryd.ntmps8
  go_wp2_with (first | (go_at_call 26; refine (newFifo_yes P R false _ hP hP1 hR hR1).mono ?_; rintro e w1 ⟨rfl, hl1, hw1⟩; subst hw1) | (go_at_call 27; fail))
  refine (HRT.out _).mono ?_
  rintro e w2 ⟨rfl, hb2⟩
  go_wp2
  go_ret2
  exact ⟨rfl, (below_alloc_ (below_alloc_ (Below.refl _ _) _) _).trans (hb2.mono (by simp; omega))⟩
end Go.Proofs.YtejomfmbhifeaaaDoor
