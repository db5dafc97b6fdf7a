/-
  early: root and law, and what pull does. Conditions: numbers within bounds; the queue lies in memory.
  early: what pull does. Conditions: the queue lies in memory, few packets; times within bounds.
  early: what begin and goOn do. Conditions: the queue lies in memory, few packets; times within bounds.
-/
import Derived.Test.YtfakjedolecdcaaGreatDoorU25
namespace Go.Proofs.YtfakjedolecdcaaGreatDoor
open Go.RowKit Go.Extern.Stop Go.Stop Go.Extern

set_option maxHeartbeats 1000000 in
theorem root_any (n : Nat) (w : World) (h1 : 1 ≤ n) (h2 : n ≤ 4000000000000000000) :
    Calls Tryz.prog 159 #[.int .i64 n] w fun e w' => e = .returned (.int .i64 (rtN n)) ∧ w' = w := by
  go_enter Tryz.func159, Tryz.ntmps159
  go_wp2
  go_loopw [3] (fun g wr => ∃ k : Nat, rtN n ≤ k ∧ k ≤ n ∧ g = .int .i64 k ∧ wr = w) (fun g _ => (intOf g).toNat)
  case atStart => exact ⟨n, rtN_le n, Nat.le_refl _, rfl, rfl⟩
  case round =>
    obtain ⟨k, hk1, hk2, rfl, rfl⟩ := hrel
    have hk : 1 ≤ k := Nat.le_trans (rtN_pos h1) hk1
    have hz : ((k : Int) == 0) = false := by simp; omega
    obtain ⟨q, hq⟩ : ∃ q, n / k = q := ⟨_, rfl⟩
    have hd : q ≤ n := by rw [← hq]; exact Nat.div_le_self n k
    have e1 : (n : Int) / (k : Int) = (q : Int) := by rw [← hq]; exact (Int.natCast_ediv n k).symm
    have HG : Hid (rtN n ≤ (k + q) / 2) := by have := newton_ge hk (rtN_spec n).1; rw [hq] at this; exact this
    have HE : Hid (k ≤ (k + q) / 2 → k = rtN n) := by intro h; rw [← hq] at h; exact newton_end hk h hk1
    clear hq
    by_cases hlt : (k + q) / 2 < k
    · go_wp2
      go_roundw
      case rel => exact ⟨(k + q) / 2, HG.out, by omega, by go_num, by first | rfl | trivial⟩
      case measure => simp [intOf]; omega
    · go_wp2
      go_ret
      exact ⟨by rw [← HE.out (by omega)]; rfl, rfl⟩
/-- A Delay in block b: its Fifo's room P and R, its Target T and Span S. -/
def dmore (T S : Int) (s : DlS) : List Value := [.int .i64 T, .int .i64 S, .bool s.late, .int .i64 s.dl, .bool s.throws, .int .i64 s.count, .int .i64 s.next]
def DAt (w : World) (b : Nat) (P R T S : Int) (v : Value) (s : DlS) : Prop := LAt w b 154 (frest P R false (dmore T S s)) v s.L
theorem DAt.cells {w : World} {b : Nat} {P R T S : Int} {v : Value} {s : DlS} (h : DAt w b P R T S v s) : (w.cell? ⟨b, 5, none⟩ = some (.int .i64 T) ∧ w.cell? ⟨b, 6, none⟩ = some (.int .i64 S) ∧ w.cell? ⟨b, 7, none⟩ = some (.bool s.late) ∧ w.cell? ⟨b, 8, none⟩ = some (.int .i64 s.dl) ∧ w.cell? ⟨b, 9, none⟩ = some (.bool s.throws) ∧ w.cell? ⟨b, 10, none⟩ = some (.int .i64 s.count) ∧ w.cell? ⟨b, 11, none⟩ = some (.int .i64 s.next)) ∧
    w.frozen? ⟨b, 7, none⟩ = false ∧ w.frozen? ⟨b, 8, none⟩ = false ∧ w.frozen? ⟨b, 9, none⟩ = false ∧ w.frozen? ⟨b, 10, none⟩ = false ∧ w.frozen? ⟨b, 11, none⟩ = false :=
  ⟨⟨(LAt.cell h rfl).1, (LAt.cell h rfl).1, (LAt.cell h rfl).1, (LAt.cell h rfl).1, (LAt.cell h rfl).1, (LAt.cell h rfl).1, (LAt.cell h rfl).1⟩, (LAt.cell h (i := 7) rfl).2, (LAt.cell h (i := 8) rfl).2, (LAt.cell h (i := 9) rfl).2, (LAt.cell h (i := 10) rfl).2, (LAt.cell h (i := 11) rfl).2⟩
theorem root_pos (n : Int) (h : 1 ≤ n) : 1 ≤ rtN (1000000 * n).toNat := rtN_pos (by omega)
set_option maxHeartbeats 1000000 in
theorem law_any {b : Nat} {P R T S : Int} {v : Value} {s : DlS} (t : Int) (w : World) (h : DAt w b P R T S v s) (hS : 0 ≤ S) (hS1 : S ≤ 1000000) (hc : 1 ≤ s.count) (hc1 : s.count ≤ 1000000) (ht : 0 ≤ t) (ht1 : t ≤ 1000000000000000) :
    Calls Tryz.prog 158 #[.pointer (some ⟨b, 0, none⟩), .int .i64 t] w fun e w' => e = .returned (.int .i64 (lawD S s.count t)) ∧ ∃ q, w' = w.drewN q := by
  have hb := LAt.lt h
  obtain ⟨⟨c5, c6, c7, c8, c9, c10, c11⟩, f7, f8, f9, f10, f11⟩ := h.cells
  clear h
  obtain ⟨n, hn⟩ : ∃ n : Nat, (1000000 * s.count).toNat = n := ⟨_, rfl⟩
  have hn1 : IntKind.i64.wrap (1000000 * s.count) = (n : Int) := by rw [IntKind.wrap_i64]; omega
  have HL : Hid (lawD S s.count t = t + (S * 1000) / (rtN n : Int)) := by show _ = _; rw [lawD, hn]
  have hnb : 1 ≤ n ∧ n ≤ 4000000000000000000 := by omega
  obtain ⟨r, hr⟩ : ∃ r, rtN n = r := ⟨_, rfl⟩
  have hrp : 1 ≤ r := by rw [← hr]; exact rtN_pos hnb.1
  have HQ := fun W => root_any n W hnb.1 hnb.2
  rw [hr] at HQ
  have hz : ((r : Int) == 0) = false := by simp; omega
  obtain ⟨q, hq⟩ : ∃ q : Int, (S * 1000) / (r : Int) = q := ⟨_, rfl⟩
  have hq0 : 0 ≤ q ∧ q ≤ 1000000000 := by
    rw [← hq]
    exact ⟨Int.ediv_nonneg (by omega) (by omega), Int.le_trans (Int.ediv_le_self _ (by omega)) (by omega)⟩
  rw [HL.out, hr, hq]
  clear HL hn hr hnb
  go_enter Tryz.func158, Tryz.ntmps158
  go_wp2
  go_quiet (first | (go_at_call 159; exact Calls.quiet_of_same (HQ _)))
  go_wp2
  go_ret
  exact ⟨rfl, _, rfl⟩
end Go.Proofs.YtfakjedolecdcaaGreatDoor
namespace Go.Proofs.YtfakjedolecdcaaGreatDoor
open Go.RowKit Go.Extern.Stop Go.Stop Go.Extern

/-- A Delay's cells as a Fifo's call leaves them. -/
theorem dcells {w : World} {b : Nat} {P R T S : Int} {v : Value} {s : DlS} {L : List Hd} (h : LAt w b 154 (frest P R false (dmore T S s)) v L) : (w.cell? ⟨b, 5, none⟩ = some (.int .i64 T) ∧ w.cell? ⟨b, 6, none⟩ = some (.int .i64 S) ∧ w.cell? ⟨b, 7, none⟩ = some (.bool s.late) ∧ w.cell? ⟨b, 8, none⟩ = some (.int .i64 s.dl) ∧ w.cell? ⟨b, 9, none⟩ = some (.bool s.throws) ∧ w.cell? ⟨b, 10, none⟩ = some (.int .i64 s.count) ∧ w.cell? ⟨b, 11, none⟩ = some (.int .i64 s.next)) ∧
    w.frozen? ⟨b, 7, none⟩ = false ∧ w.frozen? ⟨b, 8, none⟩ = false ∧ w.frozen? ⟨b, 9, none⟩ = false ∧ w.frozen? ⟨b, 10, none⟩ = false ∧ w.frozen? ⟨b, 11, none⟩ = false := DAt.cells (s := { s with L := L }) h
set_option maxHeartbeats 4000000 in
theorem pull_any {b : Nat} {P R T S : Int} {v : Value} {s : DlS} (now : Int) (w : World) (h : DAt w b P R T S v s) (hF : Fit s.L) (hS : 0 ≤ S) (hS1 : S ≤ 1000000) (hn0 : 0 ≤ now) (hn1 : now ≤ 20000000) (ha : ∀ x ∈ s.L, 0 ≤ x.a ∧ x.a ≤ 20000000) :
    Calls Tryz.prog 155 #[.pointer (some ⟨b, 0, none⟩), .int .i64 now] w fun e w' => e = .returned (.tuple #[(pullD T S s now).2.1.val, .bool (pullD T S s now).2.2.1, .bool (pullD T S s now).2.2.2]) ∧ ∃ v', DAt w' b P R T S v' (pullD T S s now).1 ∧ v'.ownBlock = v.ownBlock ∧ Ot (· = b) w w' := by
  have H : Hid (LAt w b 154 (frest P R false (dmore T S s)) v s.L) := h
  have hb := LAt.lt h
  have hV := Hd.val_eq
  clear h
  have HF : Hid (Fit s.L) := hF
  cases hL : s.L with
  | nil =>
    have hp : pullD T S s now = ({ s with late := false }, hd0, false, false) := by simp [pullD, hL]
    rw [hp]
    have HT : Hid (s.L.tail = s.L) := by show _ = _; rw [hL]; rfl
    have hO : hdOr s.L = hd0 := by rw [hL]; rfl
    have hE : s.L.isEmpty = true := by rw [hL]; rfl
    clear hp hL ha hF
    go_enter Tryz.func155, Tryz.ntmps155
    go_wp2_with (go_at_call 145; refine (next_any _ (H.out.below ((Below.refl _ _).alloc (Nat.le_refl _) _)) HF.out).mono ?_; rintro e w1 ⟨rfl, v1, hl1, hk1, ho1⟩; obtain ⟨hs1, hz⟩ := after_ot ho1 (by omega); obtain ⟨⟨z0, z1, z2, z3, z4, z5⟩, y0, y1, y2, y3, y4, y5⟩ := six hz; have hbs : b < w1.heap.size := Nat.lt_trans hb hs1; rw [HT.out] at hl1; obtain ⟨⟨c5, c6, c7, c8, c9, c10, c11⟩, f7, f8, f9, f10, f11⟩ := dcells hl1; have HL1 : Hid (LAt w1 b 154 (frest P R false (dmore T S s)) v1 s.L) := hl1; clear hl1; have HV1 : Hid (∀ k, v1.ownBlock = some k → k ≠ w.heap.size) := fun k hk e => by { have := H.out.row.lt (b := k) (by rw [← hk1, hk]); omega })
    go_quiet (first | (go_at_call 139; go_loud (exact Calls.quiet_of_same (len_any _ ((HL1.out.six (by omega) HV1.out _ _ _ _ _ _).drewN _)))))
    go_wp2
    (try simp only [Exit.inBlock, Exit.then])
    refine bodyPost_ret (v := .tuple #[hd0.val, .bool false, .bool false]) ?_ rfl ⟨rfl, v1, ?_, hk1, ?_⟩
    · exact ret_held2 rfl rfl (six_set (heap_other (by omega) (heap_drew (six_set hz _ _ _ _ _ _))) _ _ _ _ _ _) rfl rfl
    · exact LAt.six (((HL1.out.six (by omega) HV1.out _ _ _ _ _ _).drewN _).rest 5 (.bool false) rfl) (by omega) HV1.out _ _ _ _ _ _
    · have hO : Ot (· = b) w w1 := (Ot.of_below ((Below.refl _ _).alloc (Nat.le_refl _) _)).trans ho1
      repeat' (first | with_reducible exact hO | with_reducible refine Ot.setCell ?_ (by simp) _ | with_reducible refine Ot.drewN ?_ _)
  | cons x L' =>
    have hx := ha x (by rw [hL]; simp)
    have HT : Hid (s.L.tail = L') := by show _ = _; rw [hL]; rfl
    have hO : hdOr s.L = x := by rw [hL]; rfl
    have hE : s.L.isEmpty = false := by rw [hL]; rfl
    have hw : IntKind.i64.wrap (now - x.a) = now - x.a := by rw [IntKind.wrap_i64]; omega
    by_cases h1 : now - x.a < T
    · have hp : pullD T S s now = ({ s with L := L', late := false }, x, true, false) := by simp [pullD, hL, h1]
      rw [hp]
      clear hp hL ha hF
      go_enter Tryz.func155, Tryz.ntmps155
      go_wp2_with (go_at_call 145; refine (next_any _ (H.out.below ((Below.refl _ _).alloc (Nat.le_refl _) _)) HF.out).mono ?_; rintro e w1 ⟨rfl, v1, hl1, hk1, ho1⟩; obtain ⟨hs1, hz⟩ := after_ot ho1 (by omega); obtain ⟨⟨z0, z1, z2, z3, z4, z5⟩, y0, y1, y2, y3, y4, y5⟩ := six hz; have hbs : b < w1.heap.size := Nat.lt_trans hb hs1; rw [HT.out] at hl1; obtain ⟨⟨c5, c6, c7, c8, c9, c10, c11⟩, f7, f8, f9, f10, f11⟩ := dcells hl1; have HL1 : Hid (LAt w1 b 154 (frest P R false (dmore T S s)) v1 L') := hl1; clear hl1; have HV1 : Hid (∀ k, v1.ownBlock = some k → k ≠ w.heap.size) := fun k hk e => by { have := H.out.row.lt (b := k) (by rw [← hk1, hk]); omega })
      go_quiet (first | (go_at_call 139; go_loud (exact Calls.quiet_of_same (len_any _ ((HL1.out.six (by omega) HV1.out _ _ _ _ _ _).drewN _)))))
      go_wp2
      (try simp only [Exit.inBlock, Exit.then])
      refine bodyPost_ret (v := .tuple #[x.val, .bool true, .bool false]) ?_ rfl ⟨rfl, v1, ?_, hk1, ?_⟩
      · exact ret_held2 rfl rfl (six_set (heap_other (by omega) (heap_drew (six_set hz _ _ _ _ _ _))) _ _ _ _ _ _) rfl rfl
      · exact LAt.six (((HL1.out.six (by omega) HV1.out _ _ _ _ _ _).drewN _).rest 5 (.bool false) rfl) (by omega) HV1.out _ _ _ _ _ _
      · have hO : Ot (· = b) w w1 := (Ot.of_below ((Below.refl _ _).alloc (Nat.le_refl _) _)).trans ho1
        repeat' (first | with_reducible exact hO | with_reducible refine Ot.setCell ?_ (by simp) _ | with_reducible refine Ot.drewN ?_ _)
    have h1d : decide (now - x.a < T) = false := decide_eq_false h1
    by_cases h2 : L' = []
    · have hp : pullD T S s now = ({ s with L := L', late := false }, x, true, false) := by simp [pullD, hL, h2]
      rw [hp]
      have hlen : ((L'.length : Int) == 0) = true := by rw [h2]; rfl
      clear hp hL ha hF
      go_enter Tryz.func155, Tryz.ntmps155
      go_wp2_with (go_at_call 145; refine (next_any _ (H.out.below ((Below.refl _ _).alloc (Nat.le_refl _) _)) HF.out).mono ?_; rintro e w1 ⟨rfl, v1, hl1, hk1, ho1⟩; obtain ⟨hs1, hz⟩ := after_ot ho1 (by omega); obtain ⟨⟨z0, z1, z2, z3, z4, z5⟩, y0, y1, y2, y3, y4, y5⟩ := six hz; have hbs : b < w1.heap.size := Nat.lt_trans hb hs1; rw [HT.out] at hl1; obtain ⟨⟨c5, c6, c7, c8, c9, c10, c11⟩, f7, f8, f9, f10, f11⟩ := dcells hl1; have HL1 : Hid (LAt w1 b 154 (frest P R false (dmore T S s)) v1 L') := hl1; clear hl1; have HV1 : Hid (∀ k, v1.ownBlock = some k → k ≠ w.heap.size) := fun k hk e => by { have := H.out.row.lt (b := k) (by rw [← hk1, hk]); omega })
      go_quiet (first | (go_at_call 139; go_loud (exact Calls.quiet_of_same (len_any _ ((HL1.out.six (by omega) HV1.out _ _ _ _ _ _).drewN _)))))
      go_wp2
      (try simp only [Exit.inBlock, Exit.then])
      refine bodyPost_ret (v := .tuple #[x.val, .bool true, .bool false]) ?_ rfl ⟨rfl, v1, ?_, hk1, ?_⟩
      · exact ret_held2 rfl rfl (six_set (heap_other (by omega) (heap_drew (six_set hz _ _ _ _ _ _))) _ _ _ _ _ _) rfl rfl
      · exact LAt.six (((HL1.out.six (by omega) HV1.out _ _ _ _ _ _).drewN _).rest 5 (.bool false) rfl) (by omega) HV1.out _ _ _ _ _ _
      · have hO : Ot (· = b) w w1 := (Ot.of_below ((Below.refl _ _).alloc (Nat.le_refl _) _)).trans ho1
        repeat' (first | with_reducible exact hO | with_reducible refine Ot.setCell ?_ (by simp) _ | with_reducible refine Ot.drewN ?_ _)
    have hlen : ((L'.length : Int) == 0) = false := by
      cases L' with
      | nil => exact absurd rfl h2
      | cons y l => simp; omega
    cases hlate : s.late with
    | false =>
      have hp : pullD T S s now = ({ s with L := L', late := true, dl := now + S }, x, true, false) := by simp [pullD, hL, h1, h2, hlate]
      rw [hp]
      clear hp hL ha hF
      go_enter Tryz.func155, Tryz.ntmps155
      go_wp2_with (go_at_call 145; refine (next_any _ (H.out.below ((Below.refl _ _).alloc (Nat.le_refl _) _)) HF.out).mono ?_; rintro e w1 ⟨rfl, v1, hl1, hk1, ho1⟩; obtain ⟨hs1, hz⟩ := after_ot ho1 (by omega); obtain ⟨⟨z0, z1, z2, z3, z4, z5⟩, y0, y1, y2, y3, y4, y5⟩ := six hz; have hbs : b < w1.heap.size := Nat.lt_trans hb hs1; rw [HT.out] at hl1; obtain ⟨⟨c5, c6, c7, c8, c9, c10, c11⟩, f7, f8, f9, f10, f11⟩ := dcells hl1; have HL1 : Hid (LAt w1 b 154 (frest P R false (dmore T S s)) v1 L') := hl1; clear hl1; have HV1 : Hid (∀ k, v1.ownBlock = some k → k ≠ w.heap.size) := fun k hk e => by { have := H.out.row.lt (b := k) (by rw [← hk1, hk]); omega })
      go_quiet (first | (go_at_call 139; go_loud (exact Calls.quiet_of_same (len_any _ ((HL1.out.six (by omega) HV1.out _ _ _ _ _ _).drewN _)))))
      go_wp2
      (try simp only [Exit.inBlock, Exit.then])
      refine bodyPost_ret (v := .tuple #[x.val, .bool true, .bool false]) ?_ rfl ⟨rfl, v1, ?_, hk1, ?_⟩
      · exact ret_held2 rfl rfl (six_set (heap_other (by omega) (heap_other (by omega) (heap_drew (six_set hz _ _ _ _ _ _)))) _ _ _ _ _ _) rfl rfl
      · exact LAt.six (((((HL1.out.six (by omega) HV1.out _ _ _ _ _ _).drewN _).rest 5 (.bool true) rfl).rest 6 (.int .i64 (now + S)) rfl)) (by omega) HV1.out _ _ _ _ _ _
      · have hO : Ot (· = b) w w1 := (Ot.of_below ((Below.refl _ _).alloc (Nat.le_refl _) _)).trans ho1
        repeat' (first | with_reducible exact hO | with_reducible refine Ot.setCell ?_ (by simp) _ | with_reducible refine Ot.drewN ?_ _)
    | true =>
      have hp : pullD T S s now = ({ s with L := L' }, x, true, decide (s.dl ≤ now)) := by simp [pullD, hL, h1, h2, hlate]
      rw [hp]
      clear hp hL ha hF
      go_enter Tryz.func155, Tryz.ntmps155
      go_wp2_with (go_at_call 145; refine (next_any _ (H.out.below ((Below.refl _ _).alloc (Nat.le_refl _) _)) HF.out).mono ?_; rintro e w1 ⟨rfl, v1, hl1, hk1, ho1⟩; obtain ⟨hs1, hz⟩ := after_ot ho1 (by omega); obtain ⟨⟨z0, z1, z2, z3, z4, z5⟩, y0, y1, y2, y3, y4, y5⟩ := six hz; have hbs : b < w1.heap.size := Nat.lt_trans hb hs1; rw [HT.out] at hl1; obtain ⟨⟨c5, c6, c7, c8, c9, c10, c11⟩, f7, f8, f9, f10, f11⟩ := dcells hl1; have HL1 : Hid (LAt w1 b 154 (frest P R false (dmore T S s)) v1 L') := hl1; clear hl1; have HV1 : Hid (∀ k, v1.ownBlock = some k → k ≠ w.heap.size) := fun k hk e => by { have := H.out.row.lt (b := k) (by rw [← hk1, hk]); omega })
      go_quiet (first | (go_at_call 139; go_loud (exact Calls.quiet_of_same (len_any _ ((HL1.out.six (by omega) HV1.out _ _ _ _ _ _).drewN _)))))
      go_wp2
      go_region
      all_goals go_wp2
      (try simp only [Exit.inBlock, Exit.then])
      refine bodyPost_ret (v := .tuple #[x.val, .bool true, .bool (decide (s.dl ≤ now))]) ?_ rfl ⟨rfl, v1, ?_, hk1, ?_⟩
      · exact ret_held2 rfl rfl (six_set ((heap_drew (six_set hz _ _ _ _ _ _))) _ _ _ _ _ _) rfl rfl
      · exact LAt.six ((HL1.out.six (by omega) HV1.out _ _ _ _ _ _).drewN _) (by omega) HV1.out _ _ _ _ _ _
      · have hO : Ot (· = b) w w1 := (Ot.of_below ((Below.refl _ _).alloc (Nat.le_refl _) _)).trans ho1
        repeat' (first | with_reducible exact hO | with_reducible refine Ot.setCell ?_ (by simp) _ | with_reducible refine Ot.drewN ?_ _)
end Go.Proofs.YtfakjedolecdcaaGreatDoor
namespace Go.Proofs.YtfakjedolecdcaaGreatDoor
open Go.RowKit Go.Extern.Stop Go.Stop Go.Extern

theorem lawD_le {S n t : Int} (hS : 0 ≤ S) (hS1 : S ≤ 1000000) (ht : 0 ≤ t) : 0 ≤ lawD S n t ∧ lawD S n t ≤ t + 1000000000 := by
  unfold lawD
  have h1 : 0 ≤ (S * 1000) / (rtN (1000000 * n).toNat : Int) := Int.ediv_nonneg (by omega) (by omega)
  have h2 : (S * 1000) / (rtN (1000000 * n).toNat : Int) ≤ S * 1000 := Int.ediv_le_self _ (by omega)
  omega
set_option maxHeartbeats 2000000 in
theorem begin_any {b : Nat} {P R T S : Int} {v : Value} {s : DlS} (now : Int) (w : World) (h : DAt w b P R T S v s) (hS : 0 ≤ S) (hS1 : S ≤ 1000000) (hn0 : 0 ≤ now) (hn1 : now ≤ 20000000) (hc0 : 0 ≤ s.count) (hc1 : s.count ≤ 1000000) (hx0 : 0 ≤ s.next) (hx1 : s.next ≤ 10000000000) :
    Calls Tryz.prog 157 #[.pointer (some ⟨b, 0, none⟩), .int .i64 now] w fun e w' => e = .returned (.tuple #[]) ∧ DAt w' b P R T S v (beginD S s now) ∧ Ot (· = b) w w' := by
  have H : Hid (LAt w b 154 (frest P R false (dmore T S s)) v s.L) := h
  have hb := LAt.lt h
  obtain ⟨⟨c5, c6, c7, c8, c9, c10, c11⟩, f7, f8, f9, f10, f11⟩ := h.cells
  have hw1 : IntKind.i64.wrap (now - s.next) = now - s.next := by rw [IntKind.wrap_i64]; omega
  have hw2 : IntKind.i64.wrap (16 * S) = 16 * S := by rw [IntKind.wrap_i64]; omega
  clear h
  by_cases h1 : 2 < s.count
  · by_cases h2 : now - s.next < 16 * S
    · have hB : beginD S s now = { s with throws := true, count := s.count - 2, next := lawD S (s.count - 2) now } := by simp [beginD, h1, h2]
      rw [hB]
      have h2d : decide (now - s.next < 16 * S) = true := decide_eq_true h2
      clear hB h2
      go_enter Tryz.func157, Tryz.ntmps157
      go_wp2
      go_quiet (fail)
      go_wp2_with (go_at_call 158; refine (law_any (s := { s with throws := true, count := s.count - 2 }) now _ (((H.out.rest 7 (.bool true) rfl).drewN _).rest 8 (.int .i64 (s.count - 2)) rfl) hS hS1 (by show 1 ≤ s.count - 2; omega) (by show s.count - 2 ≤ _; omega) hn0 (by omega)).mono ?_; rintro e w2 ⟨rfl, q, hw2⟩; subst hw2)
      go_end0
      refine ⟨rfl, ((((H.out.rest 7 (.bool true) rfl).drewN _).rest 8 (.int .i64 (s.count - 2)) rfl).drewN _).rest 9 _ rfl, ?_⟩
      repeat' (first | with_reducible exact Ot.refl _ _ | with_reducible refine Ot.setCell ?_ (by simp) _ | with_reducible refine Ot.drewN ?_ _)
    · have hB : beginD S s now = { s with throws := true, count := 1, next := lawD S 1 now } := by simp [beginD, h2]
      rw [hB]
      have h2d : decide (now - s.next < 16 * S) = false := decide_eq_false h2
      clear hB h2
      go_enter Tryz.func157, Tryz.ntmps157
      go_wp2
      go_quiet (fail)
      go_wp2_with (go_at_call 158; refine (law_any (s := { s with throws := true, count := 1 }) now _ (((H.out.rest 7 (.bool true) rfl).drewN _).rest 8 (.int .i64 1) rfl) hS hS1 (by show (1 : Int) ≤ 1; omega) (by show (1 : Int) ≤ _; omega) hn0 (by omega)).mono ?_; rintro e w2 ⟨rfl, q, hw2⟩; subst hw2)
      go_end0
      refine ⟨rfl, ((((H.out.rest 7 (.bool true) rfl).drewN _).rest 8 (.int .i64 1) rfl).drewN _).rest 9 _ rfl, ?_⟩
      repeat' (first | with_reducible exact Ot.refl _ _ | with_reducible refine Ot.setCell ?_ (by simp) _ | with_reducible refine Ot.drewN ?_ _)
  · have hB : beginD S s now = { s with throws := true, count := 1, next := lawD S 1 now } := by simp [beginD, h1]
    rw [hB]
    have h1d : decide (2 < s.count) = false := decide_eq_false h1
    clear hB
    go_enter Tryz.func157, Tryz.ntmps157
    go_wp2
    go_quiet (fail)
    go_wp2_with (go_at_call 158; refine (law_any (s := { s with throws := true, count := 1 }) now _ (((H.out.rest 7 (.bool true) rfl).drewN _).rest 8 (.int .i64 1) rfl) hS hS1 (by show (1 : Int) ≤ 1; omega) (by show (1 : Int) ≤ _; omega) hn0 (by omega)).mono ?_; rintro e w2 ⟨rfl, q, hw2⟩; subst hw2)
    go_end0
    refine ⟨rfl, ((((H.out.rest 7 (.bool true) rfl).drewN _).rest 8 (.int .i64 1) rfl).drewN _).rest 9 _ rfl, ?_⟩
    repeat' (first | with_reducible exact Ot.refl _ _ | with_reducible refine Ot.setCell ?_ (by simp) _ | with_reducible refine Ot.drewN ?_ _)
theorem goD_stop {T S now : Int} {s : DlS} {x : Hd} (h : now < s.next) : goD T S now s.L s x = (s, [], x, true) := by
  cases hL : s.L with
  | nil => simp [goD, h]
  | cons y L => simp [goD, h]
theorem goD_next {T S now : Int} {s : DlS} {x : Hd} (h : ¬ now < s.next) {s3 : DlS} {y : Hd} {ok bad : Bool} (hp : pullD T S { s with count := s.count + 1 } now = (s3, y, ok, bad)) :
    goD T S now s.L s x = if bad then
      ((goD T S now s3.L { s3 with throws := true, next := lawD S (s.count + 1) s.next } y).1, x :: (goD T S now s3.L { s3 with throws := true, next := lawD S (s.count + 1) s.next } y).2.1, (goD T S now s3.L { s3 with throws := true, next := lawD S (s.count + 1) s.next } y).2.2.1, (goD T S now s3.L { s3 with throws := true, next := lawD S (s.count + 1) s.next } y).2.2.2)
      else ({ s3 with throws := false }, [x], y, ok) := by
  have e1 : ∀ M, ({ s with L := M } : DlS).next = s.next := fun _ => rfl
  cases hL : s.L with
  | nil =>
    simp only [pullD, hL, Prod.mk.injEq] at hp
    obtain ⟨rfl, rfl, rfl, rfl⟩ := hp
    simp [goD, h, hL]
  | cons z L =>
    have hL3 : s3.L = L ∧ y = z ∧ ok = true := by
      simp only [pullD, hL] at hp
      split at hp
      · simp only [Prod.mk.injEq] at hp; obtain ⟨rfl, rfl, rfl, rfl⟩ := hp; exact ⟨rfl, rfl, rfl⟩
      · split at hp
        · simp only [Prod.mk.injEq] at hp; obtain ⟨rfl, rfl, rfl, rfl⟩ := hp; exact ⟨rfl, rfl, rfl⟩
        · simp only [Prod.mk.injEq] at hp; obtain ⟨rfl, rfl, rfl, rfl⟩ := hp; exact ⟨rfl, rfl, rfl⟩
    obtain ⟨h1, rfl, rfl⟩ := hL3
    rw [goD, if_neg h, hp]
    cases bad <;> simp [h1]
/-- A pull leaves what goes on as it was, and no more waits. -/
theorem pullD_same {T S now : Int} {s s3 : DlS} {y : Hd} {ok bad : Bool} (hp : pullD T S s now = (s3, y, ok, bad)) : s3.throws = s.throws ∧ s3.count = s.count ∧ s3.next = s.next ∧ s3.L = s.L.tail ∧ y = hdOr s.L ∧ ok = !s.L.isEmpty ∧ (bad = true → ok = true ∧ s3.L ≠ [] ∧ T ≤ now - y.a) := by
  cases hL : s.L with
  | nil =>
    simp only [pullD, hL, Prod.mk.injEq] at hp
    obtain ⟨rfl, rfl, rfl, rfl⟩ := hp
    exact ⟨rfl, rfl, rfl, rfl, rfl, rfl, by simp⟩
  | cons z L =>
    simp only [pullD, hL] at hp
    split at hp
    · simp only [Prod.mk.injEq] at hp; obtain ⟨rfl, rfl, rfl, rfl⟩ := hp; exact ⟨rfl, rfl, rfl, rfl, rfl, rfl, by simp⟩
    · rename_i hn
      split at hp
      · simp only [Prod.mk.injEq] at hp; obtain ⟨rfl, rfl, rfl, rfl⟩ := hp; exact ⟨rfl, rfl, rfl, rfl, rfl, rfl, by simp⟩
      · simp only [Prod.mk.injEq] at hp; obtain ⟨rfl, rfl, rfl, rfl⟩ := hp; exact ⟨rfl, rfl, rfl, rfl, rfl, rfl, fun _ => ⟨rfl, fun e => hn (Or.inr e), by have : ¬ now - z.a < T := fun e => hn (Or.inl e); omega⟩⟩
end Go.Proofs.YtfakjedolecdcaaGreatDoor
