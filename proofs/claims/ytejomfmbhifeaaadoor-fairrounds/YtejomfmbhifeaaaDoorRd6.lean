/-
  early.New: an empty Red in memory of its own, where room and setup may be and the tape is not too long; else the error. Conditions: the tape lies in memory.
-/
import Derived.Test.YtejomfmbhifeaaaDoorRd5
namespace Go.Proofs.YtejomfmbhifeaaaDoor
open Go.RowKit Go.Extern.Stop Go.Stop Go.Extern

theorem fivec {w : World} {b : Nat} {t : TypeId} {a0 a1 a2 a3 a4 : Value} (h : w.heap[b]? = some (.cells #[a0, a1, a2, a3, a4] t (0, 0))) : w.cell? ⟨b, 0, none⟩ = some a0 ∧ w.cell? ⟨b, 1, none⟩ = some a1 ∧ w.cell? ⟨b, 2, none⟩ = some a2 ∧ w.cell? ⟨b, 3, none⟩ = some a3 ∧ w.cell? ⟨b, 4, none⟩ = some a4 := by
  refine ⟨?_, ?_, ?_, ?_, ?_⟩
  all_goals simp [World.cell?, h]
set_option maxRecDepth 20000 in
set_option maxHeartbeats 2000000 in
theorem newRed_yes (q : RSet) (P R : Int) {px : Option Addr} {m pcap : Nat} {f : Nat → Int} (w : World) (h : IRow w px m f) (hn : px = none → m = 0 ∧ pcap = 0) (hm : m ≤ 1000) (hq : q.Ok) (hP : 0 ≤ P) (hP1 : P ≤ 1000000) (hR : 0 ≤ R) (hR1 : R ≤ 1000000) :
    Calls Tryd.prog 8 #[q.val, .int .i64 P, .int .i64 R, .slice px m pcap] w fun e w' => ∃ b tv, e = .returned (.tuple #[.pointer (some ⟨b, 0, none⟩), .nilIface]) ∧ RedP w' b P R q (.slice none 0 0) tv ⟨[], tapeL m f, 0, 0⟩ ∧ w.heap.size ≤ b ∧ (∀ k, tv.ownBlock = some k → w.heap.size ≤ k) ∧ Below w.heap.size w w' := by
  have HI : Hid (IRow w px m f) := h
  have HNN : Hid (px = none → m = 0 ∧ pcap = 0) := hn
  clear h hn
  rw [RSet.val_eq]
  have HRT : Hid (∀ W : World, Calls Tryd.prog 27 #[.agg #[.int .i64 q.lo, .int .i64 q.hi, .int .i64 q.often, .int .i64 q.sl, .bool q.mrk]] W fun e w' => e = .returned (.bool true) ∧ Below W.heap.size W w') := fun W => right_yes q W hq
  go_enter Tryd.func8, Tryd.ntmps8
  go_wp2_with (first | (go_at_call 26; refine (newFifo_yes P R false _ hP hP1 hR hR1).mono ?_; rintro e w1 ⟨rfl, hl1, hw1⟩; subst hw1) | (go_at_call 27; fail))
  have HB1 : Hid (Below w.heap.size w ((w.alloc (.cells #[.int .i64 q.lo, .int .i64 q.hi, .int .i64 q.often, .int .i64 q.sl, .bool q.mrk] 23)).alloc (.cells #[.slice none 0 0, .int .i64 0, .int .i64 P, .int .i64 R, .bool false] 53))) := below_alloc_ (below_alloc_ (Below.refl _ _) _) _
  refine (HRT.out _).mono ?_
  rintro e w2 ⟨rfl, hb2⟩
  have hF2 : w2.heap[w.heap.size + 1]? = some (.cells #[.slice none 0 0, .int .i64 0, .int .i64 P, .int .i64 R, .bool false] 53 (0, 0)) := by rw [hb2.block _ (by simp)]; exact new_block_ (by simp)
  have hS2 : w2.heap[w.heap.size]? = some (.cells #[.int .i64 q.lo, .int .i64 q.hi, .int .i64 q.often, .int .i64 q.sl, .bool q.mrk] 23 (0, 0)) := by rw [hb2.block _ (by simp; omega)]; exact (Below.heap_alloc _ _ _ (by simp)).trans (new_block w _)
  obtain ⟨a0, a1, a2, a3, a4⟩ := fivec hF2
  obtain ⟨b0, b1, b2, b3, b4⟩ := fivec hS2
  have hl2 := lt_of_block hF2
  have HB2 : Hid (Below w.heap.size w w2) := HB1.out.trans (hb2.mono HB1.out.size)
  have HCL : Hid (∀ W : World, Below w2.heap.size w2 W → Calls Tryd.prog 28 #[.slice px m pcap] W fun e w' => ∃ tv, e = .returned tv ∧ Ins w' tv (tapeL m f) ∧ (∀ k, tv.ownBlock = some k → W.heap.size ≤ k) ∧ Below W.heap.size W w') := by
    intro W hW
    have hwW : Below w.heap.size w W := HB2.out.trans (hW.mono HB2.out.size)
    refine cloneI W ?_ HNN.out (by omega)
    rcases HI.out with h | ⟨b, off, h1, h2, h3⟩
    · exact Or.inl h
    · exact Or.inr ⟨b, off, h1, Nat.lt_of_lt_of_le h2 hwW.size, fun i hi => by rw [World.cell?_of_block (w := w) (a := ⟨b, off + i, none⟩) (hwW.block b h2)]; exact h3 i hi⟩
  have HFS : Hid (∀ W : World, Below w2.heap.size w2 W → (W.cell? ⟨w.heap.size + 1, 0, none⟩ = some (.slice none 0 0) ∧ W.cell? ⟨w.heap.size + 1, 1, none⟩ = some (.int .i64 0) ∧ W.cell? ⟨w.heap.size + 1, 2, none⟩ = some (.int .i64 P) ∧ W.cell? ⟨w.heap.size + 1, 3, none⟩ = some (.int .i64 R) ∧ W.cell? ⟨w.heap.size + 1, 4, none⟩ = some (.bool false)) ∧ W.cell? ⟨w.heap.size, 0, none⟩ = some (.int .i64 q.lo) ∧ W.cell? ⟨w.heap.size, 1, none⟩ = some (.int .i64 q.hi) ∧ W.cell? ⟨w.heap.size, 2, none⟩ = some (.int .i64 q.often) ∧ W.cell? ⟨w.heap.size, 3, none⟩ = some (.int .i64 q.sl) ∧ W.cell? ⟨w.heap.size, 4, none⟩ = some (.bool q.mrk)) := by
    intro W hW
    exact ⟨fivec ((hW.block _ hl2).trans hF2), fivec ((hW.block _ (by omega)).trans hS2)⟩
  have HF2 : Hid (w2.heap[w.heap.size + 1]? = some (.cells #[.slice none 0 0, .int .i64 0, .int .i64 P, .int .i64 R, .bool false] 53 (0, 0))) := hF2
  clear hb2 hF2 hS2 hl1
  go_wp2
  go_region_with (go_at_call 28; refine (HCL.out _ (by repeat' (first | with_reducible exact Below.refl _ _ | with_reducible refine Below.drew ?_))).mono ?_; rintro e w3 ⟨tv, rfl, ht3, hn3, hb3⟩; obtain ⟨tx, tcap, htv, _⟩ := Seg.lies ht3; subst htv; have hb23 : Below w2.heap.size w2 w3 := (Below.drew (Below.refl _ _)).trans hb3; obtain ⟨⟨c0, c1, c2, c3, c4⟩, d0, d1, d2, d3, d4⟩ := HFS.out w3 hb23)
  all_goals
    go_wp2
    go_ret2
    have hw3 : Below w.heap.size w w3 := HB2.out.trans (hb23.mono HB2.out.size)
    refine ⟨w3.heap.size, _, rfl, ⟨⟨new_block_ rfl, Hs.nil _, by simp [Value.ownBlock]⟩, Seg.below ht3 (below_alloc_ (Below.refl _ _) _), fun e => ?_, fun k _ => by simp [Value.ownBlock]⟩, hw3.size, fun k hk => ?_, below_alloc_ hw3 _⟩
    · have := Seg.lt ht3 e; omega
    · have := hn3 k hk
      have h2 := HB2.out.size
      simp at this
      omega
end Go.Proofs.YtejomfmbhifeaaaDoor
