/-
  millracekeep.BucketGcra is true at every bucket and every packets; nothing that was there before is otherwise. Conditions: errors.errorType holds its handle; the packets lie in memory.
-/
import Derived.Test.YtbghhnafpflmdabDoorPoured
import Derived.Test.YtbghhnafpflmdabDoorBkCe
namespace Go.Proofs.YtbghhnafpflmdabDoor
open Go.RowKit Go.Extern.Stop Go.Stop Go.Extern

theorem gcra_err (n t R : Int) (x : Option Addr) (cap : Nat) (xs : List It) (w : World) (h : ¬ (okB n t R ∧ okL xs)) (hL : Laid w) (hI : ItemsAt w x xs) (hm : xs.length ≤ maxLen) :
    Calls Tryd.prog 3 #[.agg #[.int .i64 n, .int .i64 t, .int .i64 R], .slice x xs.length cap] w fun e w' => e = .returned (.bool true) ∧ Below w.heap.size w w' := by
  have hC : ∀ W : World, Laid W → ItemsAt W x xs → Calls Tryd.prog 7 #[.agg #[.int .i64 n, .int .i64 t, .int .i64 R], .slice x xs.length cap] W fun e w' => ∃ t' u', e = .returned (.tuple #[.slice none 0 0, .iface t' u']) ∧ Below W.heap.size W w' := by
    intro W hL hI
    by_cases hb : okB n t R
    · exact (conform_nol n t R x cap xs W hb (fun hl => h ⟨hb, hl⟩) hL hI hm).mono (by rintro e w' ⟨t', u', rfl, _, hb⟩; exact ⟨_, _, rfl, hb⟩)
    · exact (conform_nob n t R _ W hb).mono (by rintro e w' ⟨rfl, hb⟩; exact ⟨_, _, rfl, hb⟩)
  have hE : ∀ W : World, Laid W → ItemsAt W x xs → Calls Tryd.prog 8 #[.agg #[.int .i64 n, .int .i64 t, .int .i64 R], .slice x xs.length cap] W fun e w' => ∃ t' u', e = .returned (.tuple #[.slice none 0 0, .iface t' u']) ∧ Below W.heap.size W w' := by
    intro W hL hI
    by_cases hb : okB n t R
    · exact (cells_nol n t R x cap xs W hb (fun hl => h ⟨hb, hl⟩) hL hI hm).mono (by rintro e w' ⟨t', u', rfl, _, hb⟩; exact ⟨_, _, rfl, hb⟩)
    · exact (cells_nob n t R _ W hb).mono (by rintro e w' ⟨rfl, hb⟩; exact ⟨_, _, rfl, hb⟩)
  have HC : Hid (∀ W : World, Laid W → ItemsAt W x xs → Calls Tryd.prog 7 #[.agg #[.int .i64 n, .int .i64 t, .int .i64 R], .slice x xs.length cap] W fun e w' => ∃ t' u', e = .returned (.tuple #[.slice none 0 0, .iface t' u']) ∧ Below W.heap.size W w') := hC
  have HE : Hid (∀ W : World, Laid W → ItemsAt W x xs → Calls Tryd.prog 8 #[.agg #[.int .i64 n, .int .i64 t, .int .i64 R], .slice x xs.length cap] W fun e w' => ∃ t' u', e = .returned (.tuple #[.slice none 0 0, .iface t' u']) ∧ Below W.heap.size W w') := hE
  have HL : Hid (Laid w) := hL
  have HI : Hid (ItemsAt w x xs) := hI
  clear hC hE hL hI hm h
  generalize xs.length = m at *
  go_enter Tryd.func3, Tryd.ntmps3
  go_wp2_with fail
  have hB0 : Below w.heap.size w (w.alloc (.cells #[.int .i64 n, .int .i64 t, .int .i64 R] 25)) := (Below.refl _ _).alloc (Nat.le_refl _) _
  refine (HC.out _ (HL.out.below hB0) (HI.out.below hB0)).mono ?_
  rintro e w1 ⟨t1, u1, rfl, hb1⟩
  have c0 : w1.cell? ⟨w.heap.size, 0, none⟩ = some (.int .i64 n) := by rw [hb1.cell (by simp)]; simp
  have c1 : w1.cell? ⟨w.heap.size, 1, none⟩ = some (.int .i64 t) := by rw [hb1.cell (by simp)]; simp
  have c2 : w1.cell? ⟨w.heap.size, 2, none⟩ = some (.int .i64 R) := by rw [hb1.cell (by simp)]; simp
  have hB1 : Below w.heap.size w w1 := hB0.trans (hb1.mono (by simp))
  go_wp2_with fail
  refine (HE.out _ (HL.out.below hB1) (HI.out.below hB1)).mono ?_
  rintro e w2 ⟨t2, u2, rfl, hb2⟩
  have hB2 : Below w.heap.size w w2 := hB1.trans (hb2.mono hB1.size)
  clear c0 c1 c2
  go_wp2_with fail
  refine (poured_true _).mono ?_
  rintro e w3 ⟨rfl, hb3⟩
  have hB3 : Below w.heap.size w w3 := hB2.trans (hb3.mono hB2.size)
  go_wp2_with fail
  refine (poured_true _).mono ?_
  rintro e w4 ⟨rfl, hb4⟩
  go_wp2
  go_ret
  exact ⟨rfl, hB3.trans (hb4.mono hB3.size)⟩

set_option maxHeartbeats 1000000 in
theorem gcra_yes (n t R : Int) (x : Option Addr) (cap : Nat) (xs : List It) (w : World) (h : okB n t R) (hl : okL xs) (hL : Laid w) (hI : ItemsAt w x xs) :
    Calls Tryd.prog 3 #[.agg #[.int .i64 n, .int .i64 t, .int .i64 R], .slice x xs.length cap] w fun e w' => e = .returned (.bool true) ∧ Below w.heap.size w w' := by
  obtain ⟨hF, h100⟩ := hl.fine
  have HL : Hid (Laid w) := hL
  have HI : Hid (ItemsAt w x xs) := hI
  have H : Hid (okB n t R) := h
  have HN : Hid (okL xs) := hl
  have HQ : Hid (∀ k, k < xs.length → bok n t R xs k = cok n t R xs k) := fun k hk => bok_cok hF h.1.1 h.2.1.1 h.2.2.1 k hk
  clear hL hI h hl hF
  go_enter Tryd.func3, Tryd.ntmps3
  go_wp2_with fail
  have hB0 : Below w.heap.size w (w.alloc (.cells #[.int .i64 n, .int .i64 t, .int .i64 R] 25)) := (Below.refl _ _).alloc (Nat.le_refl _) _
  refine (conform_yes n t R x cap xs _ H.out HN.out (HL.out.below hB0) (HI.out.below hB0)).mono ?_
  rintro e w1 ⟨g1, rfl, hg1, hr1, hb1⟩
  have HR1 : Hid (RowB w1 g1 xs.length (bok n t R xs)) := hr1
  have c0 : w1.cell? ⟨w.heap.size, 0, none⟩ = some (.int .i64 n) := by rw [hb1.cell (by simp)]; simp
  have c1 : w1.cell? ⟨w.heap.size, 1, none⟩ = some (.int .i64 t) := by rw [hb1.cell (by simp)]; simp
  have c2 : w1.cell? ⟨w.heap.size, 2, none⟩ = some (.int .i64 R) := by rw [hb1.cell (by simp)]; simp
  have hB1 : Below w.heap.size w w1 := hB0.trans (hb1.mono (by simp))
  clear hr1
  go_wp2_with fail
  refine (cells_yes n t R x cap xs _ H.out HN.out (HL.out.below hB1) (HI.out.below hB1)).mono ?_
  rintro e w2 ⟨g2, rfl, hg2, hr2, hb2⟩
  have HR2 : Hid (RowB w2 g2 xs.length (cok n t R xs)) := hr2
  have hB2 : Below w.heap.size w w2 := hB1.trans (hb2.mono hB1.size)
  clear c0 c1 c2 hr2
  go_wp2_with fail
  refine (poured_true _).mono ?_
  rintro e w3 ⟨rfl, hb3⟩
  have hB3 : Below w.heap.size w w3 := hB2.trans (hb3.mono hB2.size)
  have HA : Hid (RowB w3 g1 xs.length (bok n t R xs)) := (HR1.out.kept (S := fun _ => False) (Oth.of_below hb2) id).kept (S := fun _ => False) (Oth.of_below hb3) id
  have HB : Hid (RowB w3 g2 xs.length (cok n t R xs)) := HR2.out.kept (S := fun _ => False) (Oth.of_below hb3) id
  clear hb1 hb2 hb3 hg1 hg2
  generalize hn : xs.length = m at *
  go_wp2
  go_loopw [9] (fun i wr => ∃ k : Nat, k ≤ m ∧ i = .int .i64 k ∧ ∃ q, wr = w3.drewN q) (fun i _ => m - (intOf i).toNat)
  case atStart => exact ⟨0, Nat.zero_le _, rfl, 0, rfl⟩
  case round =>
    obtain ⟨k, hk, rfl, q, rfl⟩ := hrel
    by_cases hlt : k < m
    · have a0 := HA.out k hlt
      have b0 := HB.out k hlt
      have he := HQ.out k hlt
      generalize bok n t R xs k = r1 at *
      generalize cok n t R xs k = r2 at *
      subst he
      go_wp2
      go_quiet (fail)
      go_wp2
      go_roundw
      case rel => exact ⟨k + 1, by omega, by go_num, _, rfl⟩
      case measure => simp [intOf]; omega
    · go_wp2
      go_ret
      exact ⟨rfl, below_drewN hB3 _⟩
theorem gcra_any (n t R : Int) (x : Option Addr) (cap : Nat) (xs : List It) (w : World) (hL : Laid w) (hI : ItemsAt w x xs) (hm : xs.length ≤ maxLen) :
    Calls Tryd.prog 3 #[.agg #[.int .i64 n, .int .i64 t, .int .i64 R], .slice x xs.length cap] w fun e w' => e = .returned (.bool true) ∧ Below w.heap.size w w' := by
  by_cases h : okB n t R ∧ okL xs
  · exact gcra_yes n t R x cap xs w h.1 h.2 hL hI
  · exact gcra_err n t R x cap xs w h hL hI hm
end Go.Proofs.YtbghhnafpflmdabDoor
