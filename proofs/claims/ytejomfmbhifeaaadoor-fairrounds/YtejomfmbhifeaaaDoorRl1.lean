/-
  millraceref.Delayed: its cells, and its law. Conditions: the queue lies in memory; numbers within bounds.
-/
import Derived.Test.YtejomfmbhifeaaaDoorDe7
import Derived.Test.YtejomfmbhifeaaaDoorRm
namespace Go.Proofs.YtejomfmbhifeaaaDoor
open Go.RowKit Go.Extern.Stop Go.Stop Go.Extern

/-- The cells behind the reference's Fifo: Target, Span, A, D, N, X. -/
def qmore (T S : Int) (av : Value) (s : DlS) : List Value := [.int .i64 T, .int .i64 S, av, .bool s.throws, .int .i64 s.count, .int .i64 s.next]
theorem RAt.cell {w : World} {b : Nat} {T : TypeId} {P R : Int} {hd : Bool} {more : List Value} {v : Value} {L : List Hd} (h : RAt w b T P R hd more v L) {i : Nat} {u : Value} (hi : (.int .i64 P :: .int .i64 R :: .bool hd :: v :: more)[i]? = some u) : w.cell? ⟨b, i, none⟩ = some u ∧ w.frozen? ⟨b, i, none⟩ = false := by
  have := h.blk
  constructor
  · simp only [World.cell?, this]; simpa using hi
  · simp [World.frozen?, this]
def QAt (w : World) (b : Nat) (P R T S : Int) (v av : Value) (s : DlS) : Prop := RAt w b 58 P R false (qmore T S av s) v s.L
theorem QAt.cells {w : World} {b : Nat} {P R T S : Int} {v av : Value} {s : DlS} (h : QAt w b P R T S v av s) : (w.cell? ⟨b, 3, none⟩ = some v ∧ w.cell? ⟨b, 4, none⟩ = some (.int .i64 T) ∧ w.cell? ⟨b, 5, none⟩ = some (.int .i64 S) ∧ w.cell? ⟨b, 6, none⟩ = some av ∧ w.cell? ⟨b, 7, none⟩ = some (.bool s.throws) ∧ w.cell? ⟨b, 8, none⟩ = some (.int .i64 s.count) ∧ w.cell? ⟨b, 9, none⟩ = some (.int .i64 s.next)) ∧
    w.frozen? ⟨b, 6, none⟩ = false ∧ w.frozen? ⟨b, 7, none⟩ = false ∧ w.frozen? ⟨b, 8, none⟩ = false ∧ w.frozen? ⟨b, 9, none⟩ = false :=
  ⟨⟨(RAt.cell h rfl).1, (RAt.cell h rfl).1, (RAt.cell h rfl).1, (RAt.cell h rfl).1, (RAt.cell h rfl).1, (RAt.cell h rfl).1, (RAt.cell h rfl).1⟩, (RAt.cell h (i := 6) rfl).2, (RAt.cell h (i := 7) rfl).2, (RAt.cell h (i := 8) rfl).2, (RAt.cell h (i := 9) rfl).2⟩
theorem rt_step {n k : Nat} : (k + 1) * (k + 1) ≤ n ↔ k < rtN n := by
  obtain ⟨h1, h2⟩ := rtN_spec n
  constructor
  · intro h
    rcases Nat.lt_or_ge k (rtN n) with h3 | h3
    · exact h3
    · have := sq_le (show rtN n + 1 ≤ k + 1 by omega); omega
  · intro h
    have := sq_le (show k + 1 ≤ rtN n by omega); omega
set_option maxHeartbeats 1000000 in
theorem rlaw_any {b : Nat} {P R T S : Int} {v av : Value} {s : DlS} (t : Int) (w : World) (h : QAt w b P R T S v av s) (hS : 0 ≤ S) (hS1 : S ≤ 1000000) (hc : 1 ≤ s.count) (hc1 : s.count ≤ 1000000) (ht : 0 ≤ t) (ht1 : t ≤ 1000000000000000) :
    Calls Tryd.prog 96 #[.pointer (some ⟨b, 0, none⟩), .int .i64 t] w fun e w' => e = .returned (.int .i64 (lawD S s.count t)) ∧ w' = w := by
  have hb := RAt.lt h
  obtain ⟨⟨c3, c4, c5, c6, c7, c8, c9⟩, f6, f7, f8, f9⟩ := h.cells
  clear h
  obtain ⟨n, hn⟩ : ∃ n : Nat, (1000000 * s.count).toNat = n := ⟨_, rfl⟩
  have hn1 : IntKind.i64.wrap (1000000 * s.count) = (n : Int) := by rw [IntKind.wrap_i64]; omega
  have HL : Hid (lawD S s.count t = t + (S * 1000) / (rtN n : Int)) := by show _ = _; rw [lawD, hn]
  have hnb : 1 ≤ n ∧ n ≤ 1000000000000 := by omega
  have hrn := rtN_le n
  have hrp : 1 ≤ rtN n := rtN_pos hnb.1
  have hz : (((rtN n : Nat) : Int) == 0) = false := by simp; omega
  obtain ⟨q, hq⟩ : ∃ q : Int, (S * 1000) / (rtN n : Int) = q := ⟨_, rfl⟩
  have hq0 : 0 ≤ q ∧ q ≤ 1000000000 := by
    rw [← hq]
    exact ⟨Int.ediv_nonneg (by omega) (by omega), Int.le_trans (Int.ediv_le_self _ (by omega)) (by omega)⟩
  rw [HL.out, hq]
  clear HL hn
  go_enter Tryd.func96, Tryd.ntmps96
  go_wp2
  go_loopw [5] (fun r wr => ∃ k : Nat, k ≤ rtN n ∧ r = .int .i64 k ∧ wr = w) (fun r _ => rtN n - (intOf r).toNat)
  case atStart => exact ⟨0, Nat.zero_le _, rfl, rfl⟩
  case round =>
    obtain ⟨k, hk, rfl, rfl⟩ := hrel
    have hst := rt_step (n := n) (k := k)
    have hrs := (rtN_spec n).1
    have hks : k * k ≤ n := Nat.le_trans (sq_le hk) hrs
    have hsq := sq_succ k
    obtain ⟨sq, hsq'⟩ : ∃ sq, (k + 1) * (k + 1) = sq := ⟨_, rfl⟩
    have e1 : IntKind.i64.wrap ((k : Int) + 1) = (k : Int) + 1 := by rw [IntKind.wrap_i64]; omega
    have e2 : IntKind.i64.wrap (((k : Int) + 1) * ((k : Int) + 1)) = (sq : Int) := by
      have : ((k : Int) + 1) * ((k : Int) + 1) = (((k + 1) * (k + 1) : Nat) : Int) := by simp
      rw [this, hsq', IntKind.wrap_i64]
      omega
    rw [hsq'] at hst hsq
    by_cases hlt : k < rtN n
    · have hle : sq ≤ n := hst.2 hlt
      clear hst hsq hsq' hks hrs hq
      go_wp2
      go_roundw
      case rel => exact ⟨k + 1, by omega, by go_num, by first | rfl | trivial⟩
      case measure => simp [intOf]; omega
    · obtain rfl : k = rtN n := by omega
      have hle : ¬ sq ≤ n := fun h => hlt (hst.1 h)
      clear hst hsq hsq' hks hrs
      go_wp2
      go_ret
      exact ⟨rfl, rfl⟩
end Go.Proofs.YtejomfmbhifeaaaDoor
