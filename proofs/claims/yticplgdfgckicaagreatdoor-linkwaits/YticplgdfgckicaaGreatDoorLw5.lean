/-
  LINDLEY: the law LinkWaits. Conditions: what errors and strconv have laid.
-/
import Derived.Test.YticplgdfgckicaaGreatDoorGf
import Derived.Test.YticplgdfgckicaaGreatDoorLd1
namespace Go.Proofs.YticplgdfgckicaaGreatDoor
open Go.RowKit Go.Extern.Stop Go.Stop Go.Extern

set_option maxHeartbeats 4000000 in
theorem waits_no (n t : Int) (x : Option Addr) (cap : Nat) (items : List It) (w : World) (hG : Glob w) (hL : Laid w) (hit : ItemsAt w x items) (h60 : items.length ≤ 60) (hbad : ¬ (okRate n t = true ∧ okL items)) :
    Calls Tryz.prog 4 #[.agg #[.int .i64 n, .int .i64 t], .slice x items.length cap] w fun e w' => e = .returned (.bool true) ∧ Below w.heap.size w w' := by
  have HRN : Hid (∀ w1, Below w.heap.size w w1 → Calls Tryz.prog 5 #[.string ⟨#[102, 105, 102, 111, 32, 49, 48, 48, 48, 32, 49, 48, 48, 48, 48, 48, 48]⟩, .agg #[.int .i64 n, .int .i64 t], .slice x items.length cap, .int .i64 10000000] w1 fun e w' => e = .returned (.tuple #[.agg #[.slice none 0 0, .slice none 0 0, .int .i64 0, .int .i64 0], .bool false]) ∧ Below w1.heap.size w1 w') := fun w1 h1 => runF_no n t x cap items 10000000 w1 (hG.below h1) (hL.below h1) hbad (hit.below h1) (by unfold maxLen; omega)
  have HLT : Hid (∀ w1, Below w.heap.size w w1 → Calls Tryz.prog 6 #[] w1 fun e w' => e = .returned (.bool true) ∧ Below w1.heap.size w1 w') := fun w1 h1 => linked_true w1 (hL.below h1)
  have HPT : Hid (∀ w1, Below w.heap.size w w1 → Calls Tryz.prog 7 #[] w1 fun e w' => e = .returned (.bool true) ∧ Below w1.heap.size w1 w') := fun w1 h1 => planted_true w1 (hG.below h1)
  have a1 : decide ((60 : Int) < (items.length : Int)) = false := by simp; omega
  clear hG hL hit h60 hbad
  go_enter Tryz.func4, Tryz.ntmps4
  go_wp2_with (go_at_call 5; fail)
  have hb0 : Below w.heap.size w (w.alloc (.cells #[.int .i64 n, .int .i64 t] 23)) := below_alloc_ (Below.refl _ _) _
  refine (HRN.out _ hb0).mono ?_
  rintro e w1 ⟨rfl, hb1⟩
  have HB1 : Hid (Below w.heap.size w w1) := hb0.trans (hb1.mono hb0.size)
  clear hb0 hb1
  go_wp2_with (go_at_call 6; fail)
  have hb2 : Below w.heap.size w (w1.alloc (.cells #[.slice none 0 0, .slice none 0 0, .int .i64 0, .int .i64 0] 28)) := HB1.out.alloc HB1.out.size _
  refine (HLT.out _ hb2).mono ?_
  rintro e w2 ⟨rfl, hb22⟩
  have HB2 : Hid (Below w.heap.size w w2) := hb2.trans (hb22.mono hb2.size)
  clear hb2 hb22
  go_wp2_with (go_at_call 7; fail)
  refine (HPT.out _ HB2.out).mono ?_
  rintro e w3 ⟨rfl, hb3⟩
  have HB3 : Hid (Below w.heap.size w w3) := HB2.out.trans (hb3.mono HB2.out.size)
  clear hb3
  go_wp2_with (go_at_call 6; fail)
  refine (HLT.out _ HB3.out).mono ?_
  rintro e w4 ⟨rfl, hb4⟩
  have HB4 : Hid (Below w.heap.size w w4) := HB3.out.trans (hb4.mono HB3.out.size)
  clear hb4
  go_wp2_with (go_at_call 7; fail)
  refine (HPT.out _ HB4.out).mono ?_
  rintro e w5 ⟨rfl, hb5⟩
  have HB5 : Hid (Below w.heap.size w w5) := HB4.out.trans (hb5.mono HB4.out.size)
  clear hb5
  go_wp2
  go_ret
  exact ⟨rfl, HB5.out⟩
theorem waits_long (n t : Int) (x : Option Addr) (cap len : Nat) (w : World) (h60 : 60 < len) :
    Calls Tryz.prog 4 #[.agg #[.int .i64 n, .int .i64 t], .slice x len cap] w fun e w' => e = .returned (.bool true) ∧ Below w.heap.size w w' := by
  have a1 : decide ((60 : Int) < (len : Int)) = true := by simp; omega
  clear h60
  go_enter Tryz.func4, Tryz.ntmps4
  go_wp2
  go_ret
  exact ⟨rfl, below_alloc_ (Below.refl _ _) _⟩
end Go.Proofs.YticplgdfgckicaaGreatDoor
