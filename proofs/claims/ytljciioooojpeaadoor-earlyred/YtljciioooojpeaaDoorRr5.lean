/-
  millracelaw.EarlyRed: it returns true at every setup, room and tape and for all steps; nothing that was there before is otherwise. Conditions: tape and steps lie in memory; errors.errorType holds its handle.
-/
import Derived.Test.YtljciioooojpeaaDoorRr3
import Derived.Test.YtljciioooojpeaaDoorRr4
import Derived.Test.YtljciioooojpeaaDoorPt
namespace Go.Proofs.YtljciioooojpeaaDoor
open Go.RowKit Go.Extern.Stop Go.Stop Go.Extern

theorem ptrRd (b : Nat) (w : World) : (binOp .eql 51 (.pointer (some ⟨b, 0, none⟩)) (.pointer none)).run Tryd.prog w = .ok (.bool false) w := by kernel_rfl
theorem ptrRdN (w : World) : (binOp .eql 51 (.pointer none) (.pointer none)).run Tryd.prog w = .ok (.bool true) w := by kernel_rfl
theorem irow_below {w w' : World} {px : Option Addr} {m : Nat} {f : Nat → Int} (h : IRow w px m f) (hb : Below w.heap.size w w') : IRow w' px m f := by
  rcases h with h | ⟨b, off, h1, h2, h3⟩
  · exact Or.inl h
  · exact Or.inr ⟨b, off, h1, Nat.lt_of_lt_of_le h2 hb.size, fun i hi => by rw [World.cell?_of_block (w := w) (a := ⟨b, off + i, none⟩) (hb.block b h2)]; exact h3 i hi⟩
theorem heap_al' {w : World} {o : Obj} {k : Nat} {x : Option Obj} (hk : k < w.heap.size) (h : w.heap[k]? = x) : (w.alloc o).heap[k]? = x := (Below.heap_alloc _ _ _ hk).trans h
theorem redPlay {q : RSet} {P R : Int} {px : Option Addr} {m pcap : Nat} {f : Nat → Int} {tv : Value} {b : Nat} {x : Option Addr} {cap : Nat} {xs : List Stp} {w w1 w2 : World} (hq : q.Ok) (hP : 0 ≤ P) (hR : 0 ≤ R) (hR1 : R ≤ 1000000) (hr : RedP w2 b P R q (.slice none 0 0) tv ⟨[], tapeL m f, 0, 0⟩) (hbn : w1.heap.size ≤ b) (hw1 : w.heap.size ≤ w1.heap.size) (htn : ∀ k, tv.ownBlock = some k → w1.heap.size ≤ k) (hI : IRow w px m f) (hb2 : Below w.heap.size w w2) (hl : Lies w x (flt Stp.cs xs)) (hm : xs.length ≤ 1000) :
    Calls Tryd.prog 10 #[.iface 51 (.pointer (some ⟨b, 0, none⟩)), .iface 54 (.pointer (some ⟨w2.heap.size + 1, 0, none⟩)), .slice x xs.length cap, .func (.func 13) #[] #[.pointer (some ⟨w2.heap.size, 0, none⟩), .pointer (some ⟨w2.heap.size + 1 + 1, 0, none⟩)]]
      (((w2.alloc (.cells #[.pointer (some ⟨b, 0, none⟩)] 51)).alloc (.cells #[.int .i64 P, .int .i64 R, .bool false, .slice none 0 0, .int .i64 q.lo, .int .i64 q.hi, .int .i64 q.often, .int .i64 q.sl, .bool q.mrk, .slice px m pcap, .int .i64 0, .int .i64 0, .int .i64 0] 56)).alloc (.cells #[.pointer (some ⟨w2.heap.size + 1, 0, none⟩)] 54))
      fun e w' => e = .returned (.bool true) ∧ Below w.heap.size w w' := by
  obtain ⟨W, hW⟩ : ∃ W, ((w2.alloc (.cells #[.pointer (some ⟨b, 0, none⟩)] 51)).alloc (.cells #[.int .i64 P, .int .i64 R, .bool false, .slice none 0 0, .int .i64 q.lo, .int .i64 q.hi, .int .i64 q.often, .int .i64 q.sl, .bool q.mrk, .slice px m pcap, .int .i64 0, .int .i64 0, .int .i64 0] 56)).alloc (.cells #[.pointer (some ⟨w2.heap.size + 1, 0, none⟩)] 54) = W := ⟨_, rfl⟩
  have hs2 := hb2.size
  have hB : Below w2.heap.size w2 W := by rw [← hW]; exact below_alloc_ (below_alloc_ (below_alloc_ (Below.refl _ _) _) _) _
  have hWw : Below w.heap.size w W := hb2.trans (hB.mono hs2)
  have hsW : W.heap.size = w2.heap.size + 3 := by rw [← hW]; simp
  have c0 : W.heap[w2.heap.size]? = some (.cells #[.pointer (some ⟨b, 0, none⟩)] 51 (0, 0)) := by rw [← hW]; exact heap_al' (by simp; omega) (heap_al' (by simp) (new_block _ _))
  have c1 : W.heap[w2.heap.size + 1]? = some (.cells #[.int .i64 P, .int .i64 R, .bool false, .slice none 0 0, .int .i64 q.lo, .int .i64 q.hi, .int .i64 q.often, .int .i64 q.sl, .bool q.mrk, .slice px m pcap, .int .i64 0, .int .i64 0, .int .i64 0] 56 (0, 0)) := by rw [← hW]; exact heap_al' (by simp) (new_block_ (by simp))
  have c2 : W.heap[w2.heap.size + 1 + 1]? = some (.cells #[.pointer (some ⟨w2.heap.size + 1, 0, none⟩)] 54 (0, 0)) := by rw [← hW]; exact new_block_ (by simp)
  rw [hW]
  clear hW
  have hbl := LAt.lt hr.pos
  have htl : ∀ k, tv.ownBlock = some k → k < w2.heap.size := fun k hk => Seg.lt hr.tape hk
  have htb : ∀ k, TB px m k → k < w.heap.size := fun k hk => tb_lt hI hk
  refine (playedT_any 13 #[.pointer (some ⟨w2.heap.size, 0, none⟩), .pointer (some ⟨w2.heap.size + 1 + 1, 0, none⟩)] eRedQ (RedM b P R q) (redM_fine b P R q hq hP hR hR1) (RRedM w (w2.heap.size + 1) P R q px m pcap f) (rredM_fine _ _ _ _ _ _ _ _ _ hq hP hR hR1) _ (red_agree _ _ _ _ _ _ _ _ _ _) (fun k => k = b ∨ (Value.slice none 0 0).ownBlock = some k ∨ tv.ownBlock = some k) (fun k => k = w2.heap.size + 1 ∨ (Value.slice none 0 0).ownBlock = some k ∨ TB px m k) ⟨[], tapeL m f, 0, 0⟩ (⟨[], tapeL m f, 0, 0⟩, 0) x cap xs W (hl.below hWw) hm ⟨_, tv, hr.below hB, fun k => Iff.rfl⟩ ⟨Nat.le_refl _, by simp, ⟨Int.le_refl _, Int.le_refl _⟩, Int.le_refl _, Int.le_refl _⟩ ⟨.slice none 0 0, 0, ⟨⟨c1, Ps.nil _, by simp [Value.ownBlock]⟩, rfl, hI, fun k hk => hWw.block k (htb k hk), fun hk => by have := htb _ hk; omega, fun k hk e => by simp [Value.ownBlock] at e, by omega⟩, Nat.le_refl _, fun k => Iff.rfl⟩ ⟨⟨Nat.le_refl _, by simp, ⟨Int.le_refl _, Int.le_refl _⟩, Int.le_refl _, Int.le_refl _⟩, Nat.le_refl _⟩ ?_ rfl ?_).mono ?_
  · rintro k (h | h | h) (h' | h' | h')
    · omega
    · simp [Value.ownBlock] at h'
    · have := htb k h'; omega
    · simp [Value.ownBlock] at h
    · simp [Value.ownBlock] at h
    · simp [Value.ownBlock] at h
    · have := htl k h; omega
    · simp [Value.ownBlock] at h'
    · have := htb k h'; have := htn k h; omega
  · rintro W' F G s r t n hO ⟨v, tv', h1, _⟩ ⟨v', used, h2, _, _⟩ hrel hI1 _ hn
    have hno : ∀ k, k = w2.heap.size ∨ k = w2.heap.size + 1 + 1 → ¬ ((k = b ∨ (Value.slice none 0 0).ownBlock = some k ∨ tv.ownBlock = some k) ∨ (k = w2.heap.size + 1 ∨ (Value.slice none 0 0).ownBlock = some k ∨ TB px m k)) := by
      rintro k hk ((h | h | h) | (h | h | h))
      · omega
      · simp [Value.ownBlock] at h
      · have := htl k h; omega
      · omega
      · simp [Value.ownBlock] at h
      · have := htb k h; omega
    have d0 := (hO.block w2.heap.size (by omega) (hno _ (Or.inl rfl))).trans c0
    have d2 := (hO.block (w2.heap.size + 1 + 1) (by omega) (hno _ (Or.inr rfl))).trans c2
    have hs : s = r.1 := hrel
    subst hs
    obtain ⟨i1, i2, i3, i4, i5⟩ := hI1
    exact redQ_any W' h1 h2 hq i4 (by omega) (by simp [World.cell?, d0]) (by simp [World.cell?, d2])
  · rintro e w' ⟨rfl, hO, F, G, s, r, _, ⟨v', used, h2, _, _⟩, _, _⟩
    refine ⟨rfl, hO.os.trans hWw.os, hO.tape.trans hWw.tape, hO.output.trans hWw.output, Nat.le_trans hWw.size hO.size, fun k hk => ?_⟩
    by_cases ht : TB px m k
    · exact h2.same k ht
    · refine (hO.block k (by omega) ?_).trans (hWw.block k hk)
      rintro ((h | h | h) | (h | h | h))
      · omega
      · simp [Value.ownBlock] at h
      · have := htn k h; omega
      · omega
      · simp [Value.ownBlock] at h
      · exact ht h
set_option maxRecDepth 20000 in
set_option maxHeartbeats 4000000 in
theorem redLaw_any (q : RSet) (P R : Int) (px : Option Addr) (m pcap : Nat) (f : Nat → Int) (x : Option Addr) (cap : Nat) (xs : List Stp) (w : World) (hI : IRow w px m f) (hpn : px = none → m = 0 ∧ pcap = 0) (hpm : m ≤ maxLen) (hl : Lies w x (flt Stp.cs xs)) (hm : xs.length ≤ maxLen) (hL : Laid w) :
    Calls Tryd.prog 4 #[q.val, .int .i64 P, .int .i64 R, .slice px m pcap, .slice x xs.length cap] w fun e w' => e = .returned (.bool true) ∧ Below w.heap.size w w' := by
  have HL : Hid (Lies w x (flt Stp.cs xs)) := hl
  have HLD : Hid (Laid w) := hL
  have HIR : Hid (IRow w px m f) := hI
  have HPN : Hid (px = none → m = 0 ∧ pcap = 0) := hpn
  clear hl hL hI hpn
  unfold maxLen at hm hpm
  obtain ⟨N, hq⟩ : ∃ N, xs.length = N := ⟨_, rfl⟩
  have HN : Hid (xs.length = N) := hq
  rw [hq] at hm ⊢
  clear hq
  have hp1 := ptrRd
  have hp2 := ptrRdN
  have hqv := RSet.val_eq q
  rw [hqv]
  by_cases hlen : 120 < N
  · go_enter Tryd.func4, Tryd.ntmps4
    go_wp2
    go_ret
    exact ⟨rfl, below_alloc_ (Below.refl _ _) _⟩
  by_cases hlen2 : 1100 < m
  · go_enter Tryd.func4, Tryd.ntmps4
    go_wp2
    go_ret
    exact ⟨rfl, below_alloc_ (Below.refl _ _) _⟩
  clear hqv hm hpm
  obtain ⟨E, hE, hCK, hNWs⟩ : ∃ E : Int, (E = 0 ↔ (0 ≤ P ∧ P ≤ 1000000 ∧ 0 ≤ R ∧ R ≤ 1000000) ∧ q.Ok ∧ m ≤ 1000) ∧ (∀ W : World, Calls Tryd.prog 11 #[.agg #[.int .i64 q.lo, .int .i64 q.hi, .int .i64 q.often, .int .i64 q.sl, .bool q.mrk], .int .i64 P, .int .i64 R, .slice px m pcap] W fun e w' => e = .returned (.int .i64 E) ∧ Below W.heap.size W w') ∧ (E ≠ 0 → ∀ W : World, Calls Tryd.prog 12 #[.agg #[.int .i64 q.lo, .int .i64 q.hi, .int .i64 q.often, .int .i64 q.sl, .bool q.mrk], .int .i64 P, .int .i64 R, .slice px m pcap] W fun e w' => e = .returned (.tuple #[.pointer none, .iface 23 (.int .i64 E)]) ∧ Below W.heap.size W w') := by
    by_cases hP : 0 ≤ P ∧ P ≤ 1000000 ∧ 0 ≤ R ∧ R ≤ 1000000
    · by_cases hok : q.Ok
      · by_cases hmm : m ≤ 1000
        · exact ⟨0, by simp [hP, hok, hmm], fun W => redCheck_yes q P R px m pcap W hP hok hmm, fun h => absurd rfl h⟩
        · exact ⟨4, ⟨fun h => by simp at h, fun h => absurd h.2.2 hmm⟩, fun W => redCheck_tape q P R px m pcap W hP hok (by omega) (by omega), fun _ W => newRed_tape q P R W (by omega) (by omega) hok hP.1 hP.2.1 hP.2.2.1 hP.2.2.2⟩
      · exact ⟨2, ⟨fun h => by simp at h, fun h => absurd h.2.1 hok⟩, fun W => redCheck_setup q P R px m pcap W hP hok, fun _ W => newRed_setup q P R W hok hP.1 hP.2.1 hP.2.2.1 hP.2.2.2⟩
    · exact ⟨2, ⟨fun h => by simp at h, fun h => absurd h.1 hP⟩, fun W => redCheck_room q P R px m pcap W hP, fun _ W => newRed_room q P R W hP⟩
  have HCK : Hid (∀ W : World, Calls Tryd.prog 11 #[.agg #[.int .i64 q.lo, .int .i64 q.hi, .int .i64 q.often, .int .i64 q.sl, .bool q.mrk], .int .i64 P, .int .i64 R, .slice px m pcap] W fun e w' => e = .returned (.int .i64 E) ∧ Below W.heap.size W w') := hCK
  clear hCK
  by_cases hE0 : E = 0
  · obtain ⟨⟨hP, hP1, hR, hR1⟩, hok, hmm⟩ := hE.1 hE0
    subst hE0
    have HOK : Hid q.Ok := hok
    have HNW : Hid (∀ W : World, Below w.heap.size w W → Calls Tryd.prog 12 #[.agg #[.int .i64 q.lo, .int .i64 q.hi, .int .i64 q.often, .int .i64 q.sl, .bool q.mrk], .int .i64 P, .int .i64 R, .slice px m pcap] W fun e w' => ∃ b tv, e = .returned (.tuple #[.pointer (some ⟨b, 0, none⟩), .nilIface]) ∧ RedP w' b P R q (.slice none 0 0) tv ⟨[], tapeL m f, 0, 0⟩ ∧ W.heap.size ≤ b ∧ (∀ k, tv.ownBlock = some k → W.heap.size ≤ k) ∧ Below W.heap.size W w') := fun W hW => newRed_yes q P R W (irow_below HIR.out hW) HPN.out hmm hok hP hP1 hR hR1
    clear hok hE hNWs
    go_enter Tryd.func4, Tryd.ntmps4
    go_wp2_with (go_at_call 11; fail)
    refine (HCK.out _).mono ?_
    rintro e w1 ⟨rfl, hb1⟩
    have hs1 : w.heap.size + 2 ≤ w1.heap.size := by have := hb1.size; simp at this; omega
    have HB1 : Hid (Below w.heap.size w w1) := (below_alloc_ (below_alloc_ (Below.refl w.heap.size w) _) _).trans (hb1.mono (by simp; omega))
    have HS0 : Hid (w1.heap[w.heap.size]? = some (.cells #[.int .i64 q.lo, .int .i64 q.hi, .int .i64 q.often, .int .i64 q.sl, .bool q.mrk] 48 (0, 0))) := (hb1.block _ (by simp; omega)).trans (heap_al' (by simp) (new_block w _))
    have HS1 : Hid (w1.heap[w.heap.size + 1]? = some (.cells #[.int .i64 q.lo, .int .i64 q.hi, .int .i64 q.often, .int .i64 q.sl, .bool q.mrk] 49 (0, 0))) := (hb1.block _ (by simp)).trans (new_block_ (by simp))
    obtain ⟨a0, a1, a2, a3, a4⟩ := fivec HS0.out
    clear hb1
    go_wp2_with (go_at_call 12; fail)
    refine (HNW.out _ HB1.out).mono ?_
    rintro e w2 ⟨b, tv, rfl, hr2, hbn, htn, hb2⟩
    have hs2 := hb2.size
    have hbl := LAt.lt hr2.pos
    have HR2 : Hid (RedP w2 b P R q (.slice none 0 0) tv ⟨[], tapeL m f, 0, 0⟩) := hr2
    have HB2 : Hid (Below w.heap.size w w2) := HB1.out.trans (hb2.mono (by omega))
    obtain ⟨e0, e1, e2, e3, e4⟩ := fivec ((hb2.block _ (by omega)).trans HS1.out)
    have HTN : Hid (∀ k, tv.ownBlock = some k → w1.heap.size ≤ k) := htn
    have HBN : Hid (w1.heap.size ≤ b) := hbn
    have hk1 : w.heap.size + 1 < w2.heap.size := by omega
    have hk2 : ¬ w.heap.size + 1 = w2.heap.size := by omega
    have hk3 : ¬ w2.heap.size = w.heap.size + 1 := by omega
    clear hr2 hb2 htn
    go_wp2_with (go_at_call 10; fail)
    have HPL := redPlay (px := px) (m := m) (pcap := pcap) (f := f) (tv := tv) (b := b) (x := x) (cap := cap) (xs := xs) (w := w) (w2 := w2) (w1 := w1) HOK.out hP hR hR1 HR2.out HBN.out (by omega) HTN.out HIR.out HB2.out HL.out (by rw [HN.out]; omega)
    rw [HN.out] at HPL
    refine HPL.mono ?_
    rintro e w3 ⟨rfl, hfin⟩
    have HF : Hid (Below w.heap.size w w3) := hfin
    clear hfin
    go_wp2
    go_ret
    exact ⟨rfl, HF.out⟩
  · have HNO : Hid (∀ W : World, Calls Tryd.prog 12 #[.agg #[.int .i64 q.lo, .int .i64 q.hi, .int .i64 q.often, .int .i64 q.sl, .bool q.mrk], .int .i64 P, .int .i64 R, .slice px m pcap] W fun e w' => e = .returned (.tuple #[.pointer none, .iface 23 (.int .i64 E)]) ∧ Below W.heap.size W w') := hNWs hE0
    have HB : Hid (∀ W : World, Laid W → Calls Tryd.prog 9 #[.iface 23 (.int .i64 E), .int .i64 E] W fun e w' => e = .returned (.bool true) ∧ Below W.heap.size W w') := fun W hW => bare_no E W hW hE0
    have hE1 : (E == 0) = false := by simpa using hE0
    have hE2 : (E != 0) = true := by simpa using hE0
    clear hE hNWs
    go_enter Tryd.func4, Tryd.ntmps4
    go_wp2_with (go_at_call 11; fail)
    refine (HCK.out _).mono ?_
    rintro e w1 ⟨rfl, hb1⟩
    have hs1 : w.heap.size + 2 ≤ w1.heap.size := by have := hb1.size; simp at this; omega
    have HB1 : Hid (Below w.heap.size w w1) := (below_alloc_ (below_alloc_ (Below.refl w.heap.size w) _) _).trans (hb1.mono (by simp; omega))
    have HS0 : Hid (w1.heap[w.heap.size]? = some (.cells #[.int .i64 q.lo, .int .i64 q.hi, .int .i64 q.often, .int .i64 q.sl, .bool q.mrk] 48 (0, 0))) := (hb1.block _ (by simp; omega)).trans (heap_al' (by simp) (new_block w _))
    obtain ⟨a0, a1, a2, a3, a4⟩ := fivec HS0.out
    clear hb1
    go_wp2_with (go_at_call 12; fail)
    refine (HNO.out _).mono ?_
    rintro e w2 ⟨rfl, hb2⟩
    have HB2 : Hid (Below w.heap.size w w2) := HB1.out.trans (hb2.mono (by omega))
    clear hb2
    go_wp2_with (go_at_call 9; fail)
    refine (HB.out _ (HLD.out.below (below_alloc_ HB2.out _))).mono ?_
    rintro e w3 ⟨rfl, hb3⟩
    have hz : w3.cell? ⟨w2.heap.size, 0, none⟩ = some (.pointer none) := by
      have h1 := (hb3.block w2.heap.size (by simp)).trans (new_block w2 _)
      simp [World.cell?, h1]
    have hzl := World.block_lt_of_cell? _ _ hz
    have HB3 : Hid (Below w.heap.size w w3) := (below_alloc_ HB2.out _).trans (hb3.mono (by have := HB2.out.size; simp; omega))
    clear hb3
    go_wp2
    go_ret
    exact ⟨rfl, HB3.out⟩
end Go.Proofs.YtljciioooojpeaaDoor
