/-
  millracelaw.sameLists: true of two rows of rows that hold the same. Conditions: both lie in memory.
-/
import Derived.Test.YtnaooocmggnojaaDoorSdb
import Derived.Test.YtnaooocmggnojaaDoorLwErr
namespace Go.Proofs.YtnaooocmggnojaaDoor
open Go.RowKit Go.Extern.Stop Go.Stop Go.Extern

/-- Rows, one behind the other. -/
def Rows2 (w : World) (pb po m : Nat) (px : Nat → Option Addr) (pk K : Nat → Nat) (P : Nat → Nat → Int) : Prop := ∀ i, i < m → w.cell? ⟨pb, po + i, none⟩ = some (.slice (px i) (K i) (pk i)) ∧ Row w (px i) (K i) (P i)
theorem Rows2.drewN {w : World} {pb po m : Nat} {px : Nat → Option Addr} {pk K : Nat → Nat} {P : Nat → Nat → Int} (h : Rows2 w pb po m px pk K P) (q : Nat) : Rows2 (w.drewN q) pb po m px pk K P := h
theorem slists_nil (w : World) : Calls Tryd.prog 14 #[.slice none 0 0, .slice none 0 0] w fun e w' => e = .returned (.bool true) ∧ ∃ q, w' = w.drewN q := by
  go_enter Tryd.func14, Tryd.ntmps14
  go_wp2
  go_loopw [5] (fun i wr => i = .int .i64 0 ∧ wr = w) (fun _ _ => 0)
  case atStart => exact ⟨rfl, rfl⟩
  case round =>
    obtain ⟨rfl, rfl⟩ := hrel
    go_wp2
    go_ret
    exact ⟨rfl, 0, rfl⟩
set_option maxHeartbeats 2000000 in
theorem slists_any (pb po pc tb tf tc m : Nat) (px tx : Nat → Option Addr) (pk tk K : Nat → Nat) (P : Nat → Nat → Int) (w : World) (hm : m ≤ 1000) (hK : ∀ i, i < m → K i ≤ 1000) (hp : Rows2 w pb po m px pk K P) (ht : Rows2 w tb tf m tx tk K P) :
    Calls Tryd.prog 14 #[.slice (some ⟨pb, po, none⟩) m pc, .slice (some ⟨tb, tf, none⟩) m tc] w fun e w' => e = .returned (.bool true) ∧ ∃ q, w' = w.drewN q := by
  have HP : Hid (Rows2 w pb po m px pk K P) := hp
  have HT : Hid (Rows2 w tb tf m tx tk K P) := ht
  have HK : Hid (∀ i, i < m → K i ≤ 1000) := hK
  clear hp ht hK
  go_enter Tryd.func14, Tryd.ntmps14
  go_wp2
  go_loopw [5] (fun i wr => ∃ k : Nat, k ≤ m ∧ i = .int .i64 k ∧ ∃ q, wr = w.drewN q) (fun i _ => m - (intOf i).toNat)
  case atStart => exact ⟨0, Nat.zero_le _, rfl, 0, rfl⟩
  case round =>
    obtain ⟨k, hk, rfl, hq⟩ := hrel
    have HQ : Hid (∃ q, wr = w.drewN q) := hq
    by_cases hlt : k < m
    · obtain ⟨c0, r0⟩ : wr.cell? ⟨pb, po + k, none⟩ = some (.slice (px k) (K k) (pk k)) ∧ Row wr (px k) (K k) (P k) := by
        obtain ⟨q, rfl⟩ := hq
        exact HP.out k hlt
      obtain ⟨c1, r1⟩ : wr.cell? ⟨tb, tf + k, none⟩ = some (.slice (tx k) (K k) (tk k)) ∧ Row wr (tx k) (K k) (P k) := by
        obtain ⟨q, rfl⟩ := hq
        exact HT.out k hlt
      have hkk := HK.out k hlt
      clear hq
      have HS : Hid (∀ n, Calls Tryd.prog 13 #[.slice (px k) (K k) (pk k), .slice (tx k) (K k) (tk k)] (wr.drewN n) fun e w' => e = .returned (.bool true) ∧ ∃ q', w' = (wr.drewN n).drewN q') := fun n => lsame_any (px k) (tx k) (pk k) (tk k) (K k) (P k) (wr.drewN n) (by unfold maxLen; omega) (r0.drewN n) (r1.drewN n)
      have hpl := lt_of_cell c0
      have htl := lt_of_cell c1
      simp only at hpl htl
      clear r0 r1
      generalize px k = xa at *
      generalize tx k = ya at *
      generalize pk k = ca at *
      generalize tk k = da at *
      generalize K k = ka at *
      go_wp2
      go_quiet ((go_at_call 13; go_loud (exact Calls.quiet_of (HS.out _))))
      go_wp2
      go_roundw
      case rel =>
        obtain ⟨q, e⟩ := HQ.out
        exact ⟨k + 1, by omega, by go_num, _, by rw [e]; exact World.drewN_drewN _ _ _⟩
      case measure => simp [intOf]; omega
    · clear hq
      go_wp2
      go_ret
      exact ⟨rfl, HQ.out⟩
end Go.Proofs.YtnaooocmggnojaaDoor
