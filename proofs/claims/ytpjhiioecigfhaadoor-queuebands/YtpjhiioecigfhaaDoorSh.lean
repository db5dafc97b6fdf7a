/-
  queue.NewBands: what it says of no queue, of more than eight, and where the last is nil. Conditions: the queues ahead of the last lie in memory.
-/
import Derived.Test.YtpjhiioecigfhaaDoorBs
namespace Go.Proofs.YtpjhiioecigfhaaDoor
open Go.RowKit Go.Extern.Stop Go.Stop Go.Extern

theorem newBands_limit {x : Option Addr} {N cap : Nat} (w : World) (h : N < 1 ∨ 8 < N) (hm : N ≤ 1000) :
    Calls Tryd.prog 7 #[.slice x N cap] w fun e w' => e = .returned (.tuple #[.pointer none, .iface 43 (.int .i64 4)]) ∧ w' = w := by
  rcases h with h | h
  · go_enter Tryd.func7, Tryd.ntmps7
    go_wp2
    all_goals
      go_ret2
      exact ⟨rfl, rfl⟩
  · go_enter Tryd.func7, Tryd.ntmps7
    go_wp2
    all_goals
      go_ret2
      exact ⟨rfl, rfl⟩
theorem nilC_yes (w : World) : Calls Tryd.prog 18 #[.nilIface] w fun e w' => e = .returned (.bool true) ∧ w' = w := by
  go_enter Tryd.func18, Tryd.ntmps18
  go_wp2
  go_ret
  exact ⟨rfl, rfl⟩
set_option maxHeartbeats 1000000 in
theorem index_last {b off N cap : Nat} {Q : Nat → TypeId × Value} (w : World) (h : QRowAt w b off N Q) (hl : w.cell? ⟨b, off + N, none⟩ = some .nilIface) (hN : N ≤ 7) :
    Calls Tryd.prog 30 #[.slice (some ⟨b, off, none⟩) (N + 1) cap, .func (.func 18) #[] #[]] w fun e w' => e = .returned (.int .i64 N) ∧ w' = w := by
  have H : Hid (QRowAt w b off N Q) := h
  have HL : Hid (w.cell? ⟨b, off + N, none⟩ = some .nilIface) := hl
  clear h hl
  have hent := eNilC
  go_enter Tryd.func30, Tryd.ntmps30
  go_wp2
  go_loopw [8] (fun i wr => ∃ k : Nat, k ≤ N ∧ i = .int .i64 k ∧ wr = w) (fun i _ => N + 1 - (intOf i).toNat)
  case atStart => exact ⟨0, Nat.zero_le _, rfl, rfl⟩
  case round =>
    obtain ⟨k, hk, rfl, rfl⟩ := hrel
    by_cases hlt : k < N
    · have hc := H.out k hlt
      go_wp2_with (go_at_call 18; refine (nilC_no _ _ _).mono ?_; rintro e w1 ⟨rfl, rfl⟩)
      go_roundw
      case rel => exact ⟨k + 1, by omega, by go_num, by first | rfl | trivial⟩
      case measure => simp [intOf]; omega
    · obtain rfl : k = N := by omega
      have hc := HL.out
      go_wp2_with (go_at_call 18; refine (nilC_yes _).mono ?_; rintro e w1 ⟨rfl, rfl⟩)
      go_ret
      exact ⟨rfl, rfl⟩
theorem contains_last {b off N cap : Nat} {Q : Nat → TypeId × Value} (w : World) (h : QRowAt w b off N Q) (hl : w.cell? ⟨b, off + N, none⟩ = some .nilIface) (hN : N ≤ 7) :
    Calls Tryd.prog 17 #[.slice (some ⟨b, off, none⟩) (N + 1) cap, .func (.func 18) #[] #[]] w fun e w' => e = .returned (.bool true) ∧ w' = w := by
  have HC := index_last (cap := cap) w h hl hN
  clear h hl
  go_enter Tryd.func17, Tryd.ntmps17
  go_wp2_with (go_at_call 30; refine HC.mono ?_; rintro e w1 ⟨rfl, rfl⟩)
  go_ret
  exact ⟨rfl, rfl⟩
theorem newBands_missing {b off N cap : Nat} {Q : Nat → TypeId × Value} (w : World) (h : QRowAt w b off N Q) (hl : w.cell? ⟨b, off + N, none⟩ = some .nilIface) (hN : N ≤ 7) :
    Calls Tryd.prog 7 #[.slice (some ⟨b, off, none⟩) (N + 1) cap] w fun e w' => e = .returned (.tuple #[.pointer none, .iface 43 (.int .i64 7)]) ∧ w' = w := by
  have HC := contains_last (cap := cap) w h hl hN
  clear h hl
  go_enter Tryd.func7, Tryd.ntmps7
  go_wp2_with (go_at_call 17; refine HC.mono ?_; rintro e w1 ⟨rfl, hw1⟩; subst hw1)
  go_ret2
  exact ⟨rfl, rfl⟩
end Go.Proofs.YtpjhiioecigfhaaDoor
