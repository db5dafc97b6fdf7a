/-
  early: root and law, and what pull does. Conditions: numbers within bounds; the queue lies in memory.
-/
import Derived.Test.YtejomfmbhifeaaaDoorDlM
namespace Go.Proofs.YtejomfmbhifeaaaDoor
open Go.RowKit Go.Extern.Stop Go.Stop Go.Extern

set_option maxHeartbeats 1000000 in
theorem root_any (n : Nat) (w : World) (h1 : 1 ≤ n) (h2 : n ≤ 4000000000000000000) :
    Calls Tryd.prog 94 #[.int .i64 n] w fun e w' => e = .returned (.int .i64 (rtN n)) ∧ w' = w := by
  go_enter Tryd.func94, Tryd.ntmps94
  go_wp2
  go_loopw [3] (fun g wr => ∃ k : Nat, rtN n ≤ k ∧ k ≤ n ∧ g = .int .i64 k ∧ wr = w) (fun g _ => (intOf g).toNat)
  case atStart => exact ⟨n, rtN_le n, Nat.le_refl _, rfl, rfl⟩
  case round =>
    obtain ⟨k, hk1, hk2, rfl, rfl⟩ := hrel
    have hk : 1 ≤ k := Nat.le_trans (rtN_pos h1) hk1
    have hz : ((k : Int) == 0) = false := by simp; omega
    obtain ⟨q, hq⟩ : ∃ q, n / k = q := ⟨_, rfl⟩
    have hd : q ≤ n := by rw [← hq]; exact Nat.div_le_self n k
    have e1 : (n : Int) / (k : Int) = (q : Int) := by rw [← hq]; exact (Int.natCast_ediv n k).symm
    have HG : Hid (rtN n ≤ (k + q) / 2) := by have := newton_ge hk (rtN_spec n).1; rw [hq] at this; exact this
    have HE : Hid (k ≤ (k + q) / 2 → k = rtN n) := by intro h; rw [← hq] at h; exact newton_end hk h hk1
    clear hq
    by_cases hlt : (k + q) / 2 < k
    · go_wp2
      go_roundw
      case rel => exact ⟨(k + q) / 2, HG.out, by omega, by go_num, by first | rfl | trivial⟩
      case measure => simp [intOf]; omega
    · go_wp2
      go_ret
      exact ⟨by rw [← HE.out (by omega)]; rfl, rfl⟩
/-- A Delay in block b: its Fifo's room P and R, its Target T and Span S. -/
def dmore (T S : Int) (s : DlS) : List Value := [.int .i64 T, .int .i64 S, .bool s.late, .int .i64 s.dl, .bool s.throws, .int .i64 s.count, .int .i64 s.next]
def DAt (w : World) (b : Nat) (P R T S : Int) (v : Value) (s : DlS) : Prop := LAt w b 55 (frest P R false (dmore T S s)) v s.L
theorem DAt.cells {w : World} {b : Nat} {P R T S : Int} {v : Value} {s : DlS} (h : DAt w b P R T S v s) : (w.cell? ⟨b, 5, none⟩ = some (.int .i64 T) ∧ w.cell? ⟨b, 6, none⟩ = some (.int .i64 S) ∧ w.cell? ⟨b, 7, none⟩ = some (.bool s.late) ∧ w.cell? ⟨b, 8, none⟩ = some (.int .i64 s.dl) ∧ w.cell? ⟨b, 9, none⟩ = some (.bool s.throws) ∧ w.cell? ⟨b, 10, none⟩ = some (.int .i64 s.count) ∧ w.cell? ⟨b, 11, none⟩ = some (.int .i64 s.next)) ∧
    w.frozen? ⟨b, 7, none⟩ = false ∧ w.frozen? ⟨b, 8, none⟩ = false ∧ w.frozen? ⟨b, 9, none⟩ = false ∧ w.frozen? ⟨b, 10, none⟩ = false ∧ w.frozen? ⟨b, 11, none⟩ = false :=
  ⟨⟨(LAt.cell h rfl).1, (LAt.cell h rfl).1, (LAt.cell h rfl).1, (LAt.cell h rfl).1, (LAt.cell h rfl).1, (LAt.cell h rfl).1, (LAt.cell h rfl).1⟩, (LAt.cell h (i := 7) rfl).2, (LAt.cell h (i := 8) rfl).2, (LAt.cell h (i := 9) rfl).2, (LAt.cell h (i := 10) rfl).2, (LAt.cell h (i := 11) rfl).2⟩
theorem root_pos (n : Int) (h : 1 ≤ n) : 1 ≤ rtN (1000000 * n).toNat := rtN_pos (by omega)
set_option maxHeartbeats 1000000 in
theorem law_any {b : Nat} {P R T S : Int} {v : Value} {s : DlS} (t : Int) (w : World) (h : DAt w b P R T S v s) (hS : 0 ≤ S) (hS1 : S ≤ 1000000) (hc : 1 ≤ s.count) (hc1 : s.count ≤ 1000000) (ht : 0 ≤ t) (ht1 : t ≤ 1000000000000000) :
    Calls Tryd.prog 93 #[.pointer (some ⟨b, 0, none⟩), .int .i64 t] w fun e w' => e = .returned (.int .i64 (lawD S s.count t)) ∧ ∃ q, w' = w.drewN q := by
  have hb := LAt.lt h
  obtain ⟨⟨c5, c6, c7, c8, c9, c10, c11⟩, f7, f8, f9, f10, f11⟩ := h.cells
  clear h
  obtain ⟨n, hn⟩ : ∃ n : Nat, (1000000 * s.count).toNat = n := ⟨_, rfl⟩
  have hn1 : IntKind.i64.wrap (1000000 * s.count) = (n : Int) := by rw [IntKind.wrap_i64]; omega
  have HL : Hid (lawD S s.count t = t + (S * 1000) / (rtN n : Int)) := by show _ = _; rw [lawD, hn]
  have hnb : 1 ≤ n ∧ n ≤ 4000000000000000000 := by omega
  obtain ⟨r, hr⟩ : ∃ r, rtN n = r := ⟨_, rfl⟩
  have hrp : 1 ≤ r := by rw [← hr]; exact rtN_pos hnb.1
  have HQ := fun W => root_any n W hnb.1 hnb.2
  rw [hr] at HQ
  have hz : ((r : Int) == 0) = false := by simp; omega
  obtain ⟨q, hq⟩ : ∃ q : Int, (S * 1000) / (r : Int) = q := ⟨_, rfl⟩
  have hq0 : 0 ≤ q ∧ q ≤ 1000000000 := by
    rw [← hq]
    exact ⟨Int.ediv_nonneg (by omega) (by omega), Int.le_trans (Int.ediv_le_self _ (by omega)) (by omega)⟩
  rw [HL.out, hr, hq]
  clear HL hn hr hnb
  go_enter Tryd.func93, Tryd.ntmps93
  go_wp2
  go_quiet (first | (go_at_call 94; exact Calls.quiet_of_same (HQ _)))
  go_wp2
  go_ret
  exact ⟨rfl, _, rfl⟩
end Go.Proofs.YtejomfmbhifeaaaDoor
