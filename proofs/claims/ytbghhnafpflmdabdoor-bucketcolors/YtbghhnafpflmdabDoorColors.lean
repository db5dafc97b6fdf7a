/-
  millracekeep.BucketColors is true at every two buckets, every excess and every packets; nothing that was there before is otherwise. Conditions: errors.errorType holds its handle; the packets lie in memory.
-/
import Derived.Test.YtbghhnafpflmdabDoorPoured
import Derived.Test.YtbghhnafpflmdabDoorBkCf
import Derived.Test.YtbghhnafpflmdabDoorBkOne2
import Derived.Test.YtbghhnafpflmdabDoorBkTwo
namespace Go.Proofs.YtbghhnafpflmdabDoor
open Go.RowKit Go.Extern.Stop Go.Stop Go.Extern

def pckN (a n : Int) : Int := (a % 18446744073709551616) % n
theorem pckN_lt (a n : Int) (hn : 1 ≤ n) : 0 ≤ pckN a n ∧ pckN a n < n := ⟨Int.emod_nonneg _ (by omega), Int.emod_lt_of_pos _ (by omega)⟩
theorem pickM_walk (a : Int) : wrap64 ((IntKind.u64.wrap a).tmod 1000000) = pckN a 1000000 := by
  unfold pckN
  rw [IntKind.wrap_u64, Int.tmod_eq_emod_of_nonneg (by omega)]
  have h1 := Int.emod_nonneg (a % 18446744073709551616) (by omega : (1000000 : Int) ≠ 0)
  have h2 := Int.emod_lt_of_pos (a % 18446744073709551616) (by omega : (0 : Int) < 1000000)
  generalize a % 18446744073709551616 % 1000000 = r at *
  unfold wrap64; omega
theorem retInt {k : IntKind} {a b : Int} (h : a = b) : Ending.returned (.int k a) = .returned (.int k b) := by rw [h]
theorem pickM_any (a : Int) (w : World) : Calls Tryd.prog 12 #[.int .i64 a, .int .i64 1000000] w fun e w' => e = .returned (.int .i64 (pckN a 1000000)) ∧ w' = w := by
  go_enter Tryd.func12, Tryd.ntmps12
  go_wp2
  go_ret
  exact ⟨retInt (pickM_walk a), rfl⟩

set_option maxRecDepth 50000 in
set_option maxHeartbeats 1000000 in
theorem colors_err (n t R n2 t2 R2 ex : Int) (x : Option Addr) (cap : Nat) (xs : List It) (w : World) (h : ¬ (okB n t R ∧ okL xs)) (hL : Laid w) (hI : ItemsAt w x xs) (hm : xs.length ≤ maxLen) :
    Calls Tryd.prog 6 #[.agg #[.int .i64 n, .int .i64 t, .int .i64 R], .agg #[.int .i64 n2, .int .i64 t2, .int .i64 R2], .int .i64 ex, .slice x xs.length cap] w fun e w' => e = .returned (.bool true) ∧ Below w.heap.size w w' := by
  have hC : ∀ W : World, Laid W → ItemsAt W x xs → Calls Tryd.prog 7 #[.agg #[.int .i64 n, .int .i64 t, .int .i64 R], .slice x xs.length cap] W fun e w' => ∃ t' u', e = .returned (.tuple #[.slice none 0 0, .iface t' u']) ∧ Below W.heap.size W w' := by
    intro W hL hI
    by_cases hb : okB n t R
    · exact (conform_nol n t R x cap xs W hb (fun hl => h ⟨hb, hl⟩) hL hI hm).mono (by rintro e w' ⟨t', u', rfl, _, hb⟩; exact ⟨_, _, rfl, hb⟩)
    · exact (conform_nob n t R _ W hb).mono (by rintro e w' ⟨rfl, hb⟩; exact ⟨_, _, rfl, hb⟩)
  have hE : ∀ (E : Int) (W : World), 0 ≤ E → E ≤ 1000000 → Laid W → ItemsAt W x xs → Calls Tryd.prog 13 #[.agg #[.int .i64 n, .int .i64 t, .int .i64 R], .int .i64 E, .slice x xs.length cap] W fun e w' => ∃ t' u', e = .returned (.tuple #[.slice none 0 0, .iface t' u']) ∧ Below W.heap.size W w' := by
    intro E W h0 h1 hL hI
    by_cases hb : okB n t R
    · exact (one_nol n t R E x cap xs W hb ⟨hb.1, hb.2.1, h0, h1⟩ (fun hl => h ⟨hb, hl⟩) hL hI hm).mono (by rintro e w' ⟨t', u', rfl, _, hb⟩; exact ⟨_, _, rfl, hb⟩)
    · exact (one_nob n t R E _ W hb).mono (by rintro e w' ⟨rfl, hb⟩; exact ⟨_, _, rfl, hb⟩)
  have HC : Hid (∀ W : World, Laid W → ItemsAt W x xs → Calls Tryd.prog 7 #[.agg #[.int .i64 n, .int .i64 t, .int .i64 R], .slice x xs.length cap] W fun e w' => ∃ t' u', e = .returned (.tuple #[.slice none 0 0, .iface t' u']) ∧ Below W.heap.size W w') := hC
  have HE : Hid (∀ (E : Int) (W : World), 0 ≤ E → E ≤ 1000000 → Laid W → ItemsAt W x xs → Calls Tryd.prog 13 #[.agg #[.int .i64 n, .int .i64 t, .int .i64 R], .int .i64 E, .slice x xs.length cap] W fun e w' => ∃ t' u', e = .returned (.tuple #[.slice none 0 0, .iface t' u']) ∧ Below W.heap.size W w') := hE
  have HL : Hid (Laid w) := hL
  have HI : Hid (ItemsAt w x xs) := hI
  clear hC hE hL hI hm h
  generalize xs.length = m at *
  have hp := pckN_lt ex 1000000 (by omega)
  have hPK := pickM_any ex
  have hB00 : Below w.heap.size w (w.alloc (.cells #[.int .i64 n, .int .i64 t, .int .i64 R] 25)) := (Below.refl _ _).alloc (Nat.le_refl _) _
  have hB0 : Below w.heap.size w ((w.alloc (.cells #[.int .i64 n, .int .i64 t, .int .i64 R] 25)).alloc (.cells #[.int .i64 n2, .int .i64 t2, .int .i64 R2] 25)) := hB00.alloc hB00.size _
  generalize pckN ex 1000000 = E at *
  have HP : Hid (0 ≤ E ∧ E ≤ 1000000) := ⟨hp.1, by omega⟩
  have HPK : Hid (∀ w : World, Calls Tryd.prog 12 #[.int .i64 ex, .int .i64 1000000] w fun e w' => e = .returned (.int .i64 E) ∧ w' = w) := hPK
  clear hp hPK
  go_enter Tryd.func6, Tryd.ntmps6
  go_wp2_with (go_at_call 12; refine (HPK.out _).mono ?_; rintro e w' ⟨rfl, rfl⟩)
  refine (HC.out _ (HL.out.below hB0) (HI.out.below hB0)).mono ?_
  rintro e w1 ⟨t1, u1, rfl, hb1⟩
  have c0 : w1.cell? ⟨w.heap.size, 0, none⟩ = some (.int .i64 n) := by rw [hb1.cell (by simp; omega), World.cell?_alloc_lt _ _ ⟨w.heap.size, 0, none⟩ (by simp)]; simp
  have c1 : w1.cell? ⟨w.heap.size, 1, none⟩ = some (.int .i64 t) := by rw [hb1.cell (by simp; omega), World.cell?_alloc_lt _ _ ⟨w.heap.size, 1, none⟩ (by simp)]; simp
  have c2 : w1.cell? ⟨w.heap.size, 2, none⟩ = some (.int .i64 R) := by rw [hb1.cell (by simp; omega), World.cell?_alloc_lt _ _ ⟨w.heap.size, 2, none⟩ (by simp)]; simp
  have hB1 : Below w.heap.size w w1 := hB0.trans (hb1.mono (by simp; omega))
  go_wp2_with fail
  refine (HE.out 0 _ (by omega) (by omega) (HL.out.below hB1) (HI.out.below hB1)).mono ?_
  rintro e w2 ⟨t2', u2, rfl, hb2⟩
  have hB2 : Below w.heap.size w w2 := hB1.trans (hb2.mono hB1.size)
  have d0 : w2.cell? ⟨w.heap.size, 0, none⟩ = some (.int .i64 n) := by rw [hb2.cell (lt_of_cell c0)]; exact c0
  have d1 : w2.cell? ⟨w.heap.size, 1, none⟩ = some (.int .i64 t) := by rw [hb2.cell (lt_of_cell c1)]; exact c1
  have d2 : w2.cell? ⟨w.heap.size, 2, none⟩ = some (.int .i64 R) := by rw [hb2.cell (lt_of_cell c2)]; exact c2
  clear c0 c1 c2
  go_wp2_with fail
  refine (HE.out E _ HP.out.1 HP.out.2 (HL.out.below hB2) (HI.out.below hB2)).mono ?_
  rintro e w3 ⟨t3, u3, rfl, hb3⟩
  have hB3 : Below w.heap.size w w3 := hB2.trans (hb3.mono hB2.size)
  clear d0 d1 d2
  go_wp2_with fail
  refine (poured_true _).mono ?_
  rintro e w4 ⟨rfl, hb4⟩
  have hB4 : Below w.heap.size w w4 := hB3.trans (hb4.mono hB3.size)
  go_wp2_with fail
  refine (poured_true _).mono ?_
  rintro e w5 ⟨rfl, hb5⟩
  go_wp2
  go_ret
  exact ⟨rfl, hB4.trans (hb5.mono hB4.size)⟩
end Go.Proofs.YtbghhnafpflmdabDoor
