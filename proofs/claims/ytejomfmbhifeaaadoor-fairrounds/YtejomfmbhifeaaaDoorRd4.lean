/-
  early.New: an empty Red in memory of its own, where room and setup may be and the tape is not too long; else the error. Conditions: the tape lies in memory.
-/
import Derived.Test.YtejomfmbhifeaaaDoorRd3
import Derived.Test.YtejomfmbhifeaaaDoorIr
namespace Go.Proofs.YtejomfmbhifeaaaDoor
open Go.RowKit Go.Extern.Stop Go.Stop Go.Extern

def tapeL (m : Nat) (f : Nat → Int) : List Int := (List.range m).map f
theorem tapeL_get {m : Nat} {f : Nat → Int} {j : Nat} (h : j < m) : (tapeL m f)[j]? = some (f j) := by
  unfold tapeL
  rw [List.getElem?_map, List.getElem?_range h]
  rfl
theorem tapeL_len (m : Nat) (f : Nat → Int) : (tapeL m f).length = m := by simp [tapeL]
theorem nilSomeI (a : Addr) (n c : Nat) (w : World) : (binOp .eql 24 (.slice (some a) n c) (.slice none 0 0)).run Tryd.prog w = .ok (.bool false) w := by kernel_rfl
theorem nilNoneI (w : World) : (binOp .eql 24 (.slice none 0 0) (.slice none 0 0)).run Tryd.prog w = .ok (.bool true) w := by kernel_rfl
theorem seg_emptyI {w : World} {b : Nat} (h : w.heap[b]? = some (.cells #[] 3 (0, 0))) : Seg w 3 1 (.slice (some ⟨b, 0, none⟩) 0 0) 0 [] := ⟨rfl, Or.inr ⟨b, 0, 0, #[], rfl, h, Nat.le_refl _, Nat.zero_le _, by simp, fun j u hj => by simp at hj⟩⟩
set_option maxHeartbeats 1000000 in
theorem cloneI {px : Option Addr} {m pcap : Nat} {f : Nat → Int} (w : World) (h : IRow w px m f) (hn : px = none → m = 0 ∧ pcap = 0) (hm : m ≤ 1000000) :
    Calls Tryd.prog 28 #[.slice px m pcap] w fun e w' => ∃ tv, e = .returned tv ∧ Ins w' tv (tapeL m f) ∧ (∀ k, tv.ownBlock = some k → w.heap.size ≤ k) ∧ Below w.heap.size w w' := by
  have hnS := nilSomeI
  have hnN := nilNoneI
  obtain ⟨i0, hi, hz0, hz1, hz2⟩ := info_parts infoInt1
  cases px with
  | none =>
    obtain ⟨rfl, rfl⟩ := hn rfl
    clear h hn
    go_enter Tryd.func28, Tryd.ntmps28
    go_wp2
    go_ret
    exact ⟨_, rfl, Ins.nil _, fun k hk => by simp [Value.ownBlock] at hk, Below.refl _ _⟩
  | some a =>
    by_cases hm0 : m = 0
    · subst hm0
      clear h hn
      go_enter Tryd.func28, Tryd.ntmps28
      go_wp2
      go_ret
      exact ⟨.slice (some ⟨w.heap.size, 0, none⟩) 0 0, rfl, seg_emptyI (new_block_ rfl), fun k hk => by simp [Value.ownBlock] at hk; omega, below_alloc_ (Below.refl _ _) _⟩
    · obtain ⟨pb, poff, hpa, hpb, hpc⟩ : ∃ b off, some a = some ⟨b, off, none⟩ ∧ b < w.heap.size ∧ ∀ i, i < m → w.cell? ⟨b, off + i, none⟩ = some (.int .i64 (f i)) := by
        rcases h with h | h
        · omega
        · exact h
      obtain rfl := Option.some.inj hpa
      have HC : Hid (∀ i, i < m → w.cell? ⟨pb, poff + i, none⟩ = some (.int .i64 (f i))) := hpc
      clear h hn hpc hpa
      go_enter Tryd.func28, Tryd.ntmps28
      go_wp2_with (at_builtin; refine wpList_append_seg _ rfl (.tmp 5) (.tmp 6) 24 rfl 3 i0 _ 1 8 Tryd.underlying24 hi hz0 hz1 hz2 rfl (by decide) (.slice (some ⟨w.heap.size, 0, none⟩) 0 0) 0 [] rfl (seg_emptyI (new_block_ rfl)) ⟨pb, poff, none⟩ m pcap ((tapeL m f).map (Value.int .i64)) rfl (by simp [tapeL]) (fun j u hj => by { rw [Addr.add_lit, World.cell?_alloc_lt _ _ _ (by exact hpb)]; rw [List.getElem?_map] at hj; obtain ⟨z, hz, rfl⟩ := Option.map_eq_some_iff.1 hj; have hjm : j < m := (by have := (List.getElem?_eq_some_iff.1 hz).1; rw [tapeL_len] at this; exact this); rw [tapeL_get hjm] at hz; rw [HC.out j hjm]; exact congrArg _ (congrArg _ (Option.some.inj hz)) }) (by simp [Value.oneCell']) (by omega) (by unfold maxLen; omega) (by omega) _ rfl ?_; intro g goff gcap w1 hs1 hg1 ha1 hl1)
      go_ret
      refine ⟨.slice (some ⟨g, goff, none⟩) m gcap, by simp, ?_, fun k hk => ?_, below_grown_ (below_alloc_ (Below.refl _ _) _) hg1 (fun k hk => by simp [Value.ownBlock] at hk; omega)⟩
      · unfold Ins
        rw [tapeL_len]
        simpa using hs1
      · simp only [Value.ownBlock, Option.some.injEq] at hk
        subst hk
        rcases ha1 with h | h
        · simp [Value.ownBlock] at h; omega
        · simp at h; omega
end Go.Proofs.YtejomfmbhifeaaaDoor
