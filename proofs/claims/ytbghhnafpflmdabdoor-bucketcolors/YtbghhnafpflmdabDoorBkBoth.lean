/-
  bucket.openBoth: the errors; else two full buckets; nothing that was there before is otherwise. Conditions: errors.errorType holds its handle; the packets lie in memory.
-/
import Derived.Test.YtbghhnafpflmdabDoorBk3
namespace Go.Proofs.YtbghhnafpflmdabDoor
open Go.RowKit Go.Extern.Stop Go.Stop Go.Extern

theorem both_nob (n t R n2 t2 R2 : Int) (l : Value) (w : World) (h : ¬ okB n t R) :
    Calls Tryd.prog 23 #[.agg #[.int .i64 n, .int .i64 t, .int .i64 R], .agg #[.int .i64 n2, .int .i64 t2, .int .i64 R2], l] w fun e w' => e = .returned (.tuple #[.pointer none, .pointer none, .iface 57 (.int .i64 2)]) ∧ Below w.heap.size w w' := by
  have H : Hid (¬ okB n t R) := h
  clear h
  go_enter Tryd.func23, Tryd.ntmps23
  go_wp2_with (go_at_call 21; refine (new_no _ _ _ _ H.out).mono ?_; rintro e w1 ⟨rfl, hb1⟩)
  go_ret3
  have hB0 : Below w.heap.size w (w.alloc (.cells #[.int .i64 n, .int .i64 t, .int .i64 R] 25)) := (Below.refl _ _).alloc (Nat.le_refl _) _
  exact ⟨rfl, (hB0.alloc (by simp) _).trans (hb1.mono (by simp; omega))⟩
theorem both_nob2 (n t R n2 t2 R2 : Int) (l : Value) (w : World) (h : okB n t R) (h2 : ¬ okB n2 t2 R2) :
    Calls Tryd.prog 23 #[.agg #[.int .i64 n, .int .i64 t, .int .i64 R], .agg #[.int .i64 n2, .int .i64 t2, .int .i64 R2], l] w fun e w' => e = .returned (.tuple #[.pointer none, .pointer none, .iface 57 (.int .i64 2)]) ∧ Below w.heap.size w w' := by
  have H : Hid (okB n t R) := h
  have H2 : Hid (¬ okB n2 t2 R2) := h2
  clear h h2
  have hB0 : Below w.heap.size w (w.alloc (.cells #[.int .i64 n, .int .i64 t, .int .i64 R] 25)) := (Below.refl _ _).alloc (Nat.le_refl _) _
  go_enter Tryd.func23, Tryd.ntmps23
  go_wp2_with fail
  refine (new_yes _ _ _ _ H.out).mono ?_
  rintro e w1 ⟨s, rfl, hs, hst, hb1⟩
  have hB1 : Below w.heap.size w w1 := (hB0.alloc (by simp) _).trans (hb1.mono (by simp; omega))
  have c0 : w1.cell? ⟨w.heap.size + 1, 0, none⟩ = some (.int .i64 n2) := by rw [hb1.cell (by simp)]; simp
  have c1 : w1.cell? ⟨w.heap.size + 1, 1, none⟩ = some (.int .i64 t2) := by rw [hb1.cell (by simp)]; simp
  have c2 : w1.cell? ⟨w.heap.size + 1, 2, none⟩ = some (.int .i64 R2) := by rw [hb1.cell (by simp)]; simp
  clear hst
  go_wp2_with (go_at_call 15; refine (open_nob _ _ _ _ _ H2.out).mono ?_; rintro e w2 ⟨rfl, hb2⟩)
  go_ret3
  exact ⟨rfl, hB1.trans (hb2.mono hB1.size)⟩
theorem both_nol (n t R n2 t2 R2 : Int) (x : Option Addr) (cap : Nat) (xs : List It) (w : World) (h : okB n t R) (h2 : okB n2 t2 R2) (hl : ¬ okL xs) (hL : Laid w) (hI : ItemsAt w x xs) (hm : xs.length ≤ maxLen) :
    Calls Tryd.prog 23 #[.agg #[.int .i64 n, .int .i64 t, .int .i64 R], .agg #[.int .i64 n2, .int .i64 t2, .int .i64 R2], .slice x xs.length cap] w fun e w' => ∃ t' u', e = .returned (.tuple #[.pointer none, .pointer none, .iface t' u']) ∧ ErrIs w' (.iface t' u') (listE xs).1 (listE xs).2 ∧ Below w.heap.size w w' := by
  have H : Hid (okB n t R) := h
  have H2 : Hid (okB n2 t2 R2) := h2
  have HN : Hid (¬ okL xs) := hl
  have HM : Hid (xs.length ≤ maxLen) := hm
  have HL : Hid (Laid w) := hL
  have HI : Hid (ItemsAt w x xs) := hI
  clear h h2 hl hm hL hI
  have hB0 : Below w.heap.size w (w.alloc (.cells #[.int .i64 n, .int .i64 t, .int .i64 R] 25)) := (Below.refl _ _).alloc (Nat.le_refl _) _
  go_enter Tryd.func23, Tryd.ntmps23
  go_wp2_with fail
  refine (new_yes _ _ _ _ H.out).mono ?_
  rintro e w1 ⟨s, rfl, hs, hst, hb1⟩
  have hB1 : Below w.heap.size w w1 := (hB0.alloc (by simp) _).trans (hb1.mono (by simp; omega))
  have c0 : w1.cell? ⟨w.heap.size + 1, 0, none⟩ = some (.int .i64 n2) := by rw [hb1.cell (by simp)]; simp
  have c1 : w1.cell? ⟨w.heap.size + 1, 1, none⟩ = some (.int .i64 t2) := by rw [hb1.cell (by simp)]; simp
  have c2 : w1.cell? ⟨w.heap.size + 1, 2, none⟩ = some (.int .i64 R2) := by rw [hb1.cell (by simp)]; simp
  clear hst
  go_wp2_with (go_at_call 15; refine (open_nol _ _ _ _ _ _ _ H2.out HN.out (HL.out.below hB1) (HI.out.below hB1) HM.out).mono ?_; rintro e w2 ⟨v, rfl, he, hb2⟩; obtain ⟨t', u', rfl⟩ := he.iface HN.out; have HE : Hid (ErrIs w2 (.iface t' u') (listE xs).1 (listE xs).2) := he; clear he)
  go_ret3
  exact ⟨_, _, rfl, HE.out, hB1.trans (hb2.mono hB1.size)⟩
theorem both_yes (n t R n2 t2 R2 : Int) (x : Option Addr) (cap : Nat) (xs : List It) (w : World) (h : okB n t R) (h2 : okB n2 t2 R2) (hl : okL xs) (hL : Laid w) (hI : ItemsAt w x xs) (hm : xs.length ≤ maxLen) :
    Calls Tryd.prog 23 #[.agg #[.int .i64 n, .int .i64 t, .int .i64 R], .agg #[.int .i64 n2, .int .i64 t2, .int .i64 R2], .slice x xs.length cap] w fun e w' => ∃ s s2, e = .returned (.tuple #[.pointer (some ⟨s, 0, none⟩), .pointer (some ⟨s2, 0, none⟩), .nilIface]) ∧ w.heap.size ≤ s ∧ w.heap.size ≤ s2 ∧ ¬ s = s2 ∧ StAt w' s n t R (R * t) 0 ∧ StAt w' s2 n2 t2 R2 (R2 * t2) 0 ∧ Below w.heap.size w w' := by
  have H : Hid (okB n t R) := h
  have H2 : Hid (okB n2 t2 R2) := h2
  have HN : Hid (okL xs) := hl
  have HM : Hid (xs.length ≤ maxLen) := hm
  have HL : Hid (Laid w) := hL
  have HI : Hid (ItemsAt w x xs) := hI
  clear h h2 hl hm hL hI
  have hB0 : Below w.heap.size w (w.alloc (.cells #[.int .i64 n, .int .i64 t, .int .i64 R] 25)) := (Below.refl _ _).alloc (Nat.le_refl _) _
  go_enter Tryd.func23, Tryd.ntmps23
  go_wp2_with fail
  refine (new_yes _ _ _ _ H.out).mono ?_
  rintro e w1 ⟨s, rfl, hs, hst, hb1⟩
  have hB1 : Below w.heap.size w w1 := (hB0.alloc (by simp) _).trans (hb1.mono (by simp; omega))
  have c0 : w1.cell? ⟨w.heap.size + 1, 0, none⟩ = some (.int .i64 n2) := by rw [hb1.cell (by simp)]; simp
  have c1 : w1.cell? ⟨w.heap.size + 1, 1, none⟩ = some (.int .i64 t2) := by rw [hb1.cell (by simp)]; simp
  have c2 : w1.cell? ⟨w.heap.size + 1, 2, none⟩ = some (.int .i64 R2) := by rw [hb1.cell (by simp)]; simp
  have HST : Hid (StAt w1 s n t R (R * t) 0) := hst
  clear hst
  go_wp2_with (go_at_call 15; refine (open_yes _ _ _ _ _ _ _ H2.out HN.out (HL.out.below hB1) (HI.out.below hB1) HM.out).mono ?_; rintro e w2 ⟨s2, rfl, hs2, hst2, hb2⟩; have HS2 : Hid (StAt w2 s2 n2 t2 R2 (R2 * t2) 0) := hst2; clear hst2)
  go_ret3
  have := HST.out.lt
  have := hB1.size
  exact ⟨s, s2, rfl, by simp at hs; omega, by omega, by omega, HST.out.kept (S := fun _ => False) (Oth.of_below hb2) id, HS2.out, hB1.trans (hb2.mono hB1.size)⟩
end Go.Proofs.YtbghhnafpflmdabDoor
