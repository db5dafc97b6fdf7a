/-
  millracelaw.FairRounds: it returns true at every room and quanta and for all steps; nothing that was there before is otherwise. Conditions: quanta and steps lie in memory; errors.errorType holds its handle.
-/
import Derived.Test.YtejomfmbhifeaaaDoorYg
namespace Go.Proofs.YtejomfmbhifeaaaDoor
open Go.RowKit Go.Extern.Stop Go.Stop Go.Extern

theorem ptrRo (b : Nat) (w : World) : (binOp .eql 61 (.pointer (some ⟨b, 0, none⟩)) (.pointer none)).run Tryd.prog w = .ok (.bool false) w := by kernel_rfl
theorem ptrRoN (w : World) : (binOp .eql 61 (.pointer none) (.pointer none)).run Tryd.prog w = .ok (.bool true) w := by kernel_rfl
theorem heap_al2 {w : World} {o : Obj} {k : Nat} {x : Option Obj} (hk : k < w.heap.size) (h : w.heap[k]? = x) : (w.alloc o).heap[k]? = x := (Below.heap_alloc _ _ _ hk).trans h
theorem irow_below2 {w w' : World} {px : Option Addr} {m : Nat} {f : Nat → Int} (h : IRow w px m f) (hb : Below w.heap.size w w') : IRow w' px m f := by
  rcases h with h | ⟨b, off, h1, h2, h3⟩
  · exact Or.inl h
  · exact Or.inr ⟨b, off, h1, Nat.lt_of_lt_of_le h2 hb.size, fun i hi => by rw [World.cell?_of_block (w := w) (a := ⟨b, off + i, none⟩) (hb.block b h2)]; exact h3 i hi⟩
def c0R (w2 : World) (R : Int) (px : Option Addr) (m pcap : Nat) (f : Nat → Int) : RrC := ⟨w2.heap.size + 1 + 1, w2.heap.size + 1, R, px, m, pcap, f⟩
def wPl (w2 : World) (b : Nat) (R : Int) (px : Option Addr) (m pcap : Nat) : World := (((w2.alloc (.cells #[.pointer (some ⟨b, 0, none⟩)] 61)).alloc (.map #[] 0)).alloc (.cells #[.int .i64 R, .slice px m pcap, .slice none 0 0, .slice none 0 0, .bool false, .map (some (w2.heap.size + 1))] 68)).alloc (.cells #[.pointer (some ⟨w2.heap.size + 1 + 1, 0, none⟩)] 65)
theorem roundsPlay {R : Int} {px : Option Addr} {m pcap : Nat} {f : Nat → Int} {C : Nat → Value} {x : Option Addr} {cap : Nat} {xs : List Stp} {w w2 : World} (hm0 : 1 ≤ m) (hm : m ≤ 16) (hQ : ∀ i, i < 16 → 1 ≤ qF f m 16 i ∧ qF f m 16 i ≤ 1000000) (hr : RnP w2 w.heap.size R (qF f m 16) C (fun _ => .slice none 0 0) (.slice none 0 0) rn0) (hI : IRow w px m f) (hb2 : Below w.heap.size w w2) (hl : Lies w x (flt Stp.cs xs)) (hn : xs.length ≤ 1000) :
    Calls Tryd.prog 10 #[.iface 61 (.pointer (some ⟨w.heap.size, 0, none⟩)), .iface 65 (.pointer (some ⟨w2.heap.size + 1 + 1, 0, none⟩)), .slice x xs.length cap, .func (.func 19) #[] #[.pointer (some ⟨w2.heap.size, 0, none⟩), .pointer (some ⟨w2.heap.size + 1 + 1 + 1, 0, none⟩)]] (wPl w2 w.heap.size R px m pcap) fun e w' => e = .returned (.bool true) ∧ Below w.heap.size w w' := by
  obtain ⟨W, hW⟩ : ∃ W, wPl w2 w.heap.size R px m pcap = W := ⟨_, rfl⟩
  have hs2 := hb2.size
  have hB : Below w2.heap.size w2 W := by rw [← hW]; exact below_alloc_ (below_alloc_ (below_alloc_ (below_alloc_ (Below.refl _ _) _) _) _) _
  have hWw : Below w.heap.size w W := hb2.trans (hB.mono hs2)
  have hsW : W.heap.size = w2.heap.size + 4 := by rw [← hW]; simp [wPl]
  have d0 : W.heap[w2.heap.size]? = some (.cells #[.pointer (some ⟨w.heap.size, 0, none⟩)] 61 (0, 0)) := by rw [← hW]; exact heap_al2 (by simp; omega) (heap_al2 (by simp; omega) (heap_al2 (by simp) (new_block _ _)))
  have d1 : CrM W (w2.heap.size + 1) (fun _ => 0) := by
    rw [← hW]
    have h0 := CrM.made (w2.alloc (.cells #[.pointer (some ⟨w.heap.size, 0, none⟩)] 61))
    rw [show (w2.alloc (.cells #[.pointer (some ⟨w.heap.size, 0, none⟩)] 61)).heap.size = w2.heap.size + 1 by simp] at h0
    exact (h0.kept (Below.heap_alloc _ _ _ (by simp))).kept (Below.heap_alloc _ _ _ (by simp))
  have d2 : W.heap[w2.heap.size + 1 + 1]? = some (.cells #[.int .i64 R, .slice px m pcap, .slice none 0 0, .slice none 0 0, .bool false, .map (some (w2.heap.size + 1))] 68 (0, 0)) := by rw [← hW]; exact heap_al2 (by simp) (new_block_ (by simp))
  have d3 : W.heap[w2.heap.size + 1 + 1 + 1]? = some (.cells #[.pointer (some ⟨w2.heap.size + 1 + 1, 0, none⟩)] 65 (0, 0)) := by rw [← hW]; exact new_block_ (by simp)
  rw [hW]
  clear hW
  have hbl := hr.blk.lt
  have htb : ∀ k, TB px m k → k < w.heap.size := fun k hk => tb_lt hI hk
  have hQR : RrQ (c0R w2 R px m pcap f) (qF f m 16) := ⟨hm0, hm, fun g hg => by
    unfold qF
    rw [if_pos hg]
    show f (min g (m - 1)) = if g < m then f g else f (m - 1)
    by_cases h1 : g < m
    · rw [if_pos h1, Nat.min_eq_left (by omega)]
    · rw [if_neg h1, Nat.min_eq_right (by omega)]⟩
  have hG : ∀ k, RrG (c0R w2 R px m pcap f) (.slice none 0 0) (.slice none 0 0) k → k = w2.heap.size + 1 + 1 ∨ k = w2.heap.size + 1 := by
    rintro k (h | h | h | h)
    · exact Or.inl h
    · exact Or.inr h
    · simp [Value.ownBlock] at h
    · simp [Value.ownBlock] at h
  have hPR : RrP w W (c0R w2 R px m pcap f) (.slice none 0 0) (.slice none 0 0) rr0 := ⟨d2, Ps.nil _, Ins.nil _, d1, hI, fun k hk => hWw.block k (htb k hk), by simp [Value.ownBlock], by simp [Value.ownBlock], fun k hk => by simp [Value.ownBlock] at hk, by show w2.heap.size + 1 ≠ w2.heap.size + 1 + 1; omega, by simp [Value.ownBlock], by simp [Value.ownBlock], fun k hk e => by have := htb k hk; have := hG k e; omega⟩
  have hI0 : RnI (qF f m 16) rn0 := rn0_inv hQ
  refine (playedT_any 19 #[.pointer (some ⟨w2.heap.size, 0, none⟩), .pointer (some ⟨w2.heap.size + 1 + 1 + 1, 0, none⟩)] eRndQ (RoundsM w.heap.size R (qF f m 16)) (roundsM_fine _ _ _) (RRoundsM w (c0R w2 R px m pcap f) (qF f m 16)) (rroundsM_fine _ _ _ hQR) _ (rounds_agree w w.heap.size (c0R w2 R px m pcap f) (qF f m 16)) (RnF w.heap.size (fun _ => .slice none 0 0) (.slice none 0 0)) (fun k => RrG (c0R w2 R px m pcap f) (.slice none 0 0) (.slice none 0 0) k ∨ TB px m k) rn0 rr0 x cap xs W (hl.below hWw) hn ⟨C, _, _, hr.below hB, fun k => Iff.rfl⟩ ⟨hI0, by decide, fun g hg => ⟨by simp [rn0], by simp [rn0]⟩⟩ ⟨_, _, hPR, fun k => Iff.rfl⟩ ⟨rn0, RRel.zero, hI0, by decide, fun g hg => ⟨by simp [rn0], by simp [rn0]⟩⟩ ?_ RRel.zero ?_).mono ?_
  · intro k hk hk'
    have h1 : k = w.heap.size := by
      rcases hk with h | ⟨g, _, h⟩ | h
      · exact h
      · simp [Value.ownBlock] at h
      · simp [Value.ownBlock] at h
    rcases hk' with h | h
    · have := hG k h; omega
    · have := htb k h; omega
  · rintro W' F G (s : RnS) (r : RrS) t n hO ⟨C', vs', tv', h1, _⟩ ⟨v', tv'', h2, _⟩ hrel _ _ _
    have hno : ∀ k, k = w2.heap.size ∨ k = w2.heap.size + 1 + 1 + 1 → ¬ (RnF w.heap.size (fun _ => .slice none 0 0) (.slice none 0 0) k ∨ RrG (c0R w2 R px m pcap f) (.slice none 0 0) (.slice none 0 0) k ∨ TB px m k) := by
      rintro k hk ((h | ⟨g, _, h⟩ | h) | h | h)
      · omega
      · simp [Value.ownBlock] at h
      · simp [Value.ownBlock] at h
      · have := hG k h; omega
      · have := htb k h; omega
    have e0 := (hO.block w2.heap.size (by omega) (hno _ (Or.inl rfl))).trans d0
    have e3 := (hO.block (w2.heap.size + 1 + 1 + 1) (by omega) (hno _ (Or.inr rfl))).trans d3
    have hs : s = toS r := hrel.eq
    exact rndQ_any W' h1 h2 (by rw [hs]; rfl) (by simp [World.cell?, e0]) (by show W'.cell? _ = some (.pointer (some ⟨w2.heap.size + 1 + 1, 0, none⟩)); simp [World.cell?, e3])
  · rintro e w' ⟨rfl, hO, F, G, s, r, _, ⟨v', tv', h2, _⟩, _, _⟩
    refine ⟨rfl, hO.os.trans hWw.os, hO.tape.trans hWw.tape, hO.output.trans hWw.output, Nat.le_trans hWw.size hO.size, fun k hk => ?_⟩
    by_cases ht : TB px m k
    · exact h2.same k ht
    · refine (hO.block k (by omega) ?_).trans (hWw.block k hk)
      rintro ((h | ⟨g, _, h⟩ | h) | h | h)
      · omega
      · simp [Value.ownBlock] at h
      · simp [Value.ownBlock] at h
      · have := hG k h; omega
      · exact ht h
end Go.Proofs.YtejomfmbhifeaaaDoor
