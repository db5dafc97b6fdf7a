/-
  millracelaw.wrong tells the error and the place that the document tells of a bucket and of packets; nothing that was there before is otherwise. Conditions: millraceref.Fine holds what the program's text lays; the packets lie in memory.
-/
import Derived.Test.YtnppmigncjakeaaGreatDoorLwB
namespace Go.Proofs.YtnppmigncjakeaaGreatDoor
open Go.RowKit Go.Extern.Stop Go.Stop Go.Extern

set_option maxHeartbeats 1000000 in
theorem wrong_nob (n t R : Int) (l : Value) (w : World) (h : ¬ okB n t R) :
    Calls Tryz.prog 8 #[.agg #[.int .i64 n, .int .i64 t, .int .i64 R], l] w fun e w' => e = .returned (.agg #[.int .i64 2, .int .i64 (-1)]) ∧ Below w.heap.size w w' := by
  have H : Hid (¬ okB n t R) := h
  clear h
  go_enter Tryz.func8, Tryz.ntmps8
  go_wp2_with fail
  refine (lof_any n t R _).mono ?_
  rintro e w1 ⟨rfl, hb1⟩
  go_wp2_with fail
  refine (rbcheck_no n t R _ H.out).mono ?_
  rintro e w2 ⟨rfl, hb2⟩
  go_wp2_with fail
  refine (bareOf _ _).mono ?_
  rintro e w3 ⟨rfl, hb3⟩
  have hb := (hb1.trans (hb2.mono hb1.size)).trans (hb3.mono (hb1.trans (hb2.mono hb1.size)).size)
  have c0 : w3.cell? ⟨w.heap.size + 1, 0, none⟩ = some (.int .i64 0) := by rw [hb.cell (by simp)]; simp [go_sem]
  have c1 : w3.cell? ⟨w.heap.size + 1, 1, none⟩ = some (.int .i64 0) := by rw [hb.cell (by simp)]; simp [go_sem]
  have z0 : w3.frozen? ⟨w.heap.size + 1, 0, none⟩ = false := by rw [hb.frozen (by simp)]; simp [go_sem]
  have z1 : w3.frozen? ⟨w.heap.size + 1, 1, none⟩ = false := by rw [hb.frozen (by simp)]; simp [go_sem]
  go_wp2
  refine bodyPost_ret (v := .agg #[.int .i64 2, .int .i64 (-1)]) (by simp [results, Tryz.results8, go_sem, c0, c1]) rfl ⟨rfl, ?_⟩
  refine Below.setCell (Below.setCell ?_ (by simp) _) (by simp) _
  exact (((Below.refl _ _).alloc (Nat.le_refl _) _).alloc (by simp) _).trans (hb.mono (by simp; omega))

set_option maxHeartbeats 1000000 in
theorem wrong_list (n t R : Int) (x : Option Addr) (cap : Nat) (xs : List It) (w : World) (h : okB n t R) (hF : FineLaid w) (hI : ItemsAt w x xs) (hm : xs.length ≤ maxLen) :
    Calls Tryz.prog 8 #[.agg #[.int .i64 n, .int .i64 t, .int .i64 R], .slice x xs.length cap] w fun e w' => e = .returned (.agg #[.int .i64 (listE xs).1, .int .i64 (listE xs).2]) ∧ Below w.heap.size w w' := by
  have H : Hid (okB n t R) := h
  have HM : Hid (xs.length ≤ maxLen) := hm
  have hA0 : Below w.heap.size w ((w.alloc (.cells #[.int .i64 n, .int .i64 t, .int .i64 R] 25)).alloc (.cells #[.int .i64 0, .int .i64 0] 30)) := ((Below.refl _ _).alloc (Nat.le_refl _) _).alloc (by simp) _
  have HF : Hid (FineLaid ((w.alloc (.cells #[.int .i64 n, .int .i64 t, .int .i64 R] 25)).alloc (.cells #[.int .i64 0, .int .i64 0] 30))) := hF.below hA0
  have HI : Hid (ItemsAt ((w.alloc (.cells #[.int .i64 n, .int .i64 t, .int .i64 R] 25)).alloc (.cells #[.int .i64 0, .int .i64 0] 30)) x xs) := hI.below hA0
  obtain ⟨E, hE⟩ : ∃ E, (listE xs).1 = E := ⟨_, rfl⟩
  obtain ⟨P, hP⟩ : ∃ P, (listE xs).2 = P := ⟨_, rfl⟩
  have HE : Hid ((listE xs).1 = E ∧ (listE xs).2 = P) := ⟨hE, hP⟩
  rw [hE, hP]
  clear h hF hI hm hE hP
  go_enter Tryz.func8, Tryz.ntmps8
  go_wp2_with fail
  refine (lof_any n t R _).mono ?_
  rintro e w1 ⟨rfl, hb1⟩
  go_wp2_with fail
  refine (rbcheck_yes n t R _ H.out).mono ?_
  rintro e w2 ⟨rfl, hb2⟩
  have hb12 := hb1.trans (hb2.mono hb1.size)
  go_wp2_with fail
  refine (rlist_any x cap xs _ (HF.out.below hb12) (HI.out.below hb12) HM.out).mono ?_
  rw [HE.out.1, HE.out.2]
  rintro e w3 ⟨rfl, hb3⟩
  have hb := hb12.trans (hb3.mono hb12.size)
  have c0 : w3.cell? ⟨w.heap.size + 1, 0, none⟩ = some (.int .i64 0) := by rw [hb.cell (by simp)]; simp [go_sem]
  have c1 : w3.cell? ⟨w.heap.size + 1, 1, none⟩ = some (.int .i64 0) := by rw [hb.cell (by simp)]; simp [go_sem]
  have z0 : w3.frozen? ⟨w.heap.size + 1, 0, none⟩ = false := by rw [hb.frozen (by simp)]; simp [go_sem]
  have z1 : w3.frozen? ⟨w.heap.size + 1, 1, none⟩ = false := by rw [hb.frozen (by simp)]; simp [go_sem]
  go_wp2
  refine bodyPost_ret (v := .agg #[.int .i64 E, .int .i64 P]) (by simp [results, Tryz.results8, go_sem, c0, c1]) rfl ⟨rfl, ?_⟩
  refine Below.setCell (Below.setCell ?_ (by simp) _) (by simp) _
  exact hA0.trans (hb.mono (by simp; omega))
end Go.Proofs.YtnppmigncjakeaaGreatDoor
