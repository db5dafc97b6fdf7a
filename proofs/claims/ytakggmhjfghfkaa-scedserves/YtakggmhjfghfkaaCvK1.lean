/-
  millracekeep.curved is true; lines says whether all of several rows are curves of at most 60 numbers up to 10^11; sameInts of equal rows is true. Conditions: the numbers lie in memory.
-/
import Derived.Test.YtakggmhjfghfkaaCv5
namespace Go.Proofs.Ytakggmhjfghfkaa
open Go.RowKit Go.Extern.Stop Go.Stop Go.Extern

/-- Three numbers. -/
def three (a b c : Int) : Nat → Int
  | 0 => a
  | 1 => b
  | _ => c
theorem okC_three {a b c : Int} (h0 : 0 ≤ a) (h1 : a ≤ b) (h2 : b ≤ c) (h3 : c ≤ 1000000000000) : okC 3 (three a b c) := by
  refine ⟨by omega, by omega, fun i hi => ?_, fun i hi => ?_, fun i hi => ?_⟩
  · match i, hi with
    | 0, _ => exact h0
    | 1, _ => show 0 ≤ b; omega
    | 2, _ => show 0 ≤ c; omega
  · match i, hi with
    | 0, _ => show a ≤ _; omega
    | 1, _ => show b ≤ _; omega
    | 2, _ => exact h3
  · match i, hi with
    | 0, _ => exact h1
    | 1, _ => exact h2
theorem row_three (w : World) (a b c : Int) (t : TypeId) : Row (w.alloc (.cells #[.int .i64 a, .int .i64 b, .int .i64 c] t)) (some ⟨w.heap.size, 0, none⟩) 3 (three a b c) := by
  refine Or.inr ⟨w.heap.size, 0, rfl, fun i hi => ?_⟩
  match i, hi with
  | 0, _ => simp [three]
  | 1, _ => simp [three]
  | 2, _ => simp [three]
theorem conv_one : conv (three 0 2 3) (three 0 1 5) 1 = 1 := by decide
theorem conv_two : conv (three 0 2 3) (three 0 1 5) 2 = 3 := by decide

theorem same_any (x y : Option Addr) (cx cy n : Nat) (f g : Nat → Int) (w : World) (hm : n ≤ maxLen) (hx : Row w x n f) (hy : Row w y n g) (he : ∀ i, i < n → f i = g i) :
    Calls Try.prog 14 #[.slice x n cx, .slice y n cy] w fun e w' => e = .returned (.bool true) ∧ ∃ q, w' = w.drewN q := by
  unfold maxLen at hm
  have HX : Hid (Row w x n f) := hx
  have HY : Hid (Row w y n g) := hy
  have HE : Hid (∀ i, i < n → f i = g i) := he
  clear hx hy he
  go_enter Try.func14, Try.ntmps14
  go_wp2
  go_loopw [5] (fun i wr => ∃ k : Nat, k ≤ n ∧ i = .int .i64 k ∧ ∃ q, wr = w.drewN q) (fun i _ => n - (intOf i).toNat)
  case atStart => exact ⟨0, Nat.zero_le _, rfl, 0, rfl⟩
  case round =>
    obtain ⟨k, hk, rfl, q, rfl⟩ := hrel
    by_cases hlt : k < n
    · obtain ⟨b, off, rfl⟩ := HX.out.some (by omega)
      obtain ⟨b', off', rfl⟩ := HY.out.some (by omega)
      have c0 := HX.out.at hlt
      have c1 := HY.out.at hlt
      rw [← HE.out k hlt] at c1
      generalize f k = u at *
      go_wp2
      go_quiet (fail)
      go_wp2
      go_roundw
      case rel => exact ⟨k + 1, by omega, by go_num, _, rfl⟩
      case measure => simp [intOf]; omega
    · go_wp2
      go_ret
      exact ⟨rfl, _, rfl⟩
theorem same_two (x y : Option Addr) (cx cy n1 n2 : Nat) (hn : n1 = n2) (f g : Nat → Int) (w : World) (hm : n1 ≤ maxLen) (hx : Row w x n1 f) (hy : Row w y n2 g) (he : ∀ i, i < n1 → f i = g i) :
    Calls Try.prog 14 #[.slice x n1 cx, .slice y n2 cy] w fun e w' => e = .returned (.bool true) ∧ ∃ q, w' = w.drewN q := by
  subst hn
  exact same_any x y cx cy n1 f g w hm hx hy he
end Go.Proofs.Ytakggmhjfghfkaa
