/-
  millraceref.RoundsCheck, fair.Rounds' Credit beyond its flows, and the last question of FairRounds. Conditions: both lie in memory.
  millracelaw.FairRounds: it returns true at every room and quanta and for all steps; nothing that was there before is otherwise. Conditions: quanta and steps lie in memory; errors.errorType holds its handle.
  millracelaw.FairRounds: it returns true at every room and quanta and for all steps; nothing that was there before is otherwise. Conditions: quanta and steps lie in memory; errors.errorType holds its handle.
-/
import Derived.Test.YtefflbibacmboaaDoorYf
import Derived.Test.YtefflbibacmboaaDoorQg
import Derived.Test.YtefflbibacmboaaDoorPt
namespace Go.Proofs.YtefflbibacmboaaDoor
open Go.RowKit Go.Extern.Stop Go.Stop Go.Extern

theorem roundsCheck_len {px : Option Addr} {m pcap : Nat} (R : Int) (w : World) (h : m < 1 ∨ 16 < m) (hm : m ≤ 1000) : Calls Tryd.prog 16 #[.int .i64 R, .slice px m pcap] w fun e w' => e = .returned (.int .i64 4) ∧ w' = w := by
  have HY1 := within_no (m : Int) 1 16 w (by omega)
  clear h
  go_enter Tryd.func16, Tryd.ntmps16
  go_wp2_with fail
  refine HY1.mono ?_
  rintro e w1 ⟨rfl, hw1⟩
  subst hw1
  go_wp2
  go_ret
  exact ⟨rfl, rfl⟩
theorem qOk_iff (x : Int) : qOk x = true ↔ 1 ≤ x ∧ x ≤ 1000000 := by unfold qOk; simp
set_option maxHeartbeats 1000000 in
theorem roundsCheck_any {px : Option Addr} {m pcap : Nat} {f : Nat → Int} (R : Int) (w : World) (hI : IRow w px m f) (hm0 : 1 ≤ m) (hm : m ≤ 16) : Calls Tryd.prog 16 #[.int .i64 R, .slice px m pcap] w fun e w' => e = .returned (.int .i64 (if 0 ≤ R ∧ R ≤ 1000000 ∧ allQ f m = true then 0 else 2)) ∧ w' = w := by
  have HY1 := within_yes (m : Int) 1 16 w (by omega) (by omega)
  obtain ⟨E, hE⟩ : ∃ E : Int, (if 0 ≤ R ∧ R ≤ 1000000 ∧ allQ f m = true then (0 : Int) else 2) = E := ⟨_, rfl⟩
  rw [hE]
  by_cases hR : 0 ≤ R ∧ R ≤ 1000000
  · have HY2 := within_yes R 0 1000000 w hR.1 hR.2
    rcases hI with h0 | ⟨b, off, rfl, hb, hc⟩
    · omega
    obtain ⟨j0, hj1, hj2, hj3, hj4⟩ := allQ_first (f := f) m
    have HE : Hid (E = if j0 = m then 0 else 2) := by
      show _ = _
      rw [← hE, hj4]
      by_cases e : j0 = m
      · rw [if_pos e, if_pos ⟨hR.1, hR.2, by simp [e]⟩]
      · rw [if_neg e, if_neg (fun h => e (by simpa using h.2.2))]
    have HJ2 : Hid (∀ i, i < j0 → qOk (f i) = true) := hj2
    have HJ3 : Hid (j0 < m → qOk (f j0) = false) := hj3
    have HCC : Hid (∀ i, i < m → w.cell? ⟨b, off + i, none⟩ = some (.int .i64 (f i))) := hc
    clear hj2 hj3 hj4 hc hR hE
    go_enter Tryd.func16, Tryd.ntmps16
    go_wp2_with fail
    refine HY1.mono ?_
    rintro e w1 ⟨rfl, hw1⟩
    subst w1
    go_wp2_with fail
    refine HY2.mono ?_
    rintro e w2 ⟨rfl, hw2⟩
    subst w2
    go_wp2
    go_loopw [16] (fun iv wr => ∃ i : Nat, i ≤ j0 ∧ iv = .int .i64 i ∧ wr = w) (fun iv _ => m - (intOf iv).toNat)
    case atStart => exact ⟨0, Nat.zero_le _, rfl, rfl⟩
    case round =>
      obtain ⟨i, hi, rfl, rfl⟩ := hrel
      by_cases hlt : i < m
      · have hci := HCC.out i hlt
        by_cases hij : i < j0
        · have hq := (qOk_iff _).1 (HJ2.out i hij)
          have HY3 := within_yes (f i) 1 1000000 wr hq.1 hq.2
          go_wp2_with fail
          refine HY3.mono ?_
          rintro e w3 ⟨rfl, hw3⟩
          subst w3
          go_wp2
          go_roundw
          case rel => exact ⟨i + 1, by omega, by go_num, by first | trivial | rfl⟩
          case measure => simp [intOf]; omega
        · obtain rfl : i = j0 := by omega
          have hq : ¬ (1 ≤ f i ∧ f i ≤ 1000000) := fun h => by have := HJ3.out hlt; rw [(qOk_iff _).2 h] at this; cases this
          have HY3 := within_no (f i) 1 1000000 wr (by omega)
          go_wp2_with fail
          refine HY3.mono ?_
          rintro e w3 ⟨rfl, hw3⟩
          subst w3
          go_wp2
          go_ret
          exact ⟨by rw [HE.out, if_neg (by omega)]; rfl, rfl⟩
      · obtain rfl : i = m := by omega
        go_wp2
        go_ret
        exact ⟨by rw [HE.out, if_pos (by omega)]; rfl, rfl⟩
  · have HY2 := within_no R 0 1000000 w (by omega)
    have HE : Hid (E = 2) := by show _ = _; rw [← hE, if_neg (fun h => hR ⟨h.1, h.2.1⟩)]
    clear hR hI hE
    go_enter Tryd.func16, Tryd.ntmps16
    go_wp2_with fail
    refine HY1.mono ?_
    rintro e w1 ⟨rfl, hw1⟩
    subst w1
    go_wp2_with fail
    refine HY2.mono ?_
    rintro e w2 ⟨rfl, hw2⟩
    subst w2
    go_wp2
    go_ret
    exact ⟨by rw [HE.out]; rfl, rfl⟩
theorem rcred_out (b : Nat) (k : Int) (hk : k < 0 ∨ 16 ≤ k) (w : World) : Calls Tryd.prog 18 #[.pointer (some ⟨b, 0, none⟩), .int .i64 k] w fun e w' => e = .returned (.int .i64 0) ∧ w' = w := by
  rcases hk with hk | hk
  · go_enter Tryd.func18, Tryd.ntmps18
    go_wp2
    go_ret
    exact ⟨rfl, rfl⟩
  · go_enter Tryd.func18, Tryd.ntmps18
    go_wp2
    go_ret
    exact ⟨rfl, rfl⟩
theorem eRndQ (args : Array Value) (W : World) : (callFunc 19 args).run Tryd.prog W = .ok (.enter 19 args) W := enters_of Tryd.func19 (by kernel_rfl) rfl args W
set_option maxHeartbeats 2000000 in
theorem rndQ_any {w0 : World} {b : Nat} {room : Int} {q : Nat → Int} {C : Nat → Value} {vs : Nat → Value} {tv : Value} {s : RnS} {c : RrC} {v' tv' : Value} {r : RrS} {p1 p2 : Nat} (w : World) (h : RnP w b room q C vs tv s) (h' : RrP w0 w c v' tv' r) (he : s.cr = r.cr) (hc : w.cell? ⟨p1, 0, none⟩ = some (.pointer (some ⟨b, 0, none⟩))) (hc' : w.cell? ⟨p2, 0, none⟩ = some (.pointer (some ⟨c.b, 0, none⟩))) :
    Calls Tryd.prog 19 #[.pointer (some ⟨p1, 0, none⟩), .pointer (some ⟨p2, 0, none⟩)] w fun e w' => e = .returned (.bool true) ∧ Below w.heap.size w w' := by
  have H : Hid (RnP w b room q C vs tv s) := h
  have H' : Hid (RrP w0 w c v' tv' r) := h'
  have hcl := World.block_lt_of_cell? _ _ hc
  have hcl' := World.block_lt_of_cell? _ _ hc'
  obtain ⟨⟨a0, a1, a2, a3, a4, a5⟩, g2, g3, g4⟩ := sixr h'.blk
  have hb := h'.lt
  have HE : Hid (s.cr = r.cr) := he
  clear h h' he
  go_enter Tryd.func19, Tryd.ntmps19
  go_wp2
  go_loopw [3] (fun iv wr => ∃ f n : Nat, f ≤ 16 ∧ iv = .int .i64 f ∧ wr = w.drewN n) (fun iv _ => 16 - (intOf iv).toNat)
  case atStart => exact ⟨0, 0, by decide, rfl, rfl⟩
  case round =>
    obtain ⟨f, n, hf, rfl, hwr⟩ := hrel
    have HWR : Hid (wr = w.drewN n) := hwr
    have HA : Hid (RnP wr b room q C vs tv s) := by show RnP _ _ _ _ _ _ _ _; rw [hwr]; exact H.out.kept (fun _ _ => rfl)
    have HB : Hid (RrP w0 wr c v' tv' r) := by show RrP _ _ _ _ _ _; rw [hwr]; exact H'.out.drewN n
    have hc2 : wr.cell? ⟨p1, 0, none⟩ = some (.pointer (some ⟨b, 0, none⟩)) := by rw [hwr]; exact hc
    have hc2' : wr.cell? ⟨p2, 0, none⟩ = some (.pointer (some ⟨c.b, 0, none⟩)) := by rw [hwr]; exact hc'
    have hs2 : wr.heap.size = w.heap.size := by rw [hwr]; rfl
    have hq1 : p1 < wr.heap.size := by omega
    have hq2 : p2 < wr.heap.size := by omega
    clear hwr hc hc' hs2 hcl hcl' a0 a1 a2 a3 a4 a5 g2 g3 g4 hb
    obtain ⟨⟨a0, a1, a2, a3, a4, a5⟩, g2, g3, g4⟩ := sixr HB.out.blk
    have hb := HB.out.lt
    by_cases h16 : f < 16
    · have HC1 : Hid (∀ n, Calls Tryd.prog 18 #[.pointer (some ⟨b, 0, none⟩), .int .i64 f] (wr.drewN n) fun e w' => e = .returned (.int .i64 (r.cr f)) ∧ w' = wr.drewN n) := fun n => by
        have := rcred_any f h16 (wr.drewN n) (HA.out.kept (fun _ _ => rfl))
        rw [HE.out] at this
        exact this
      have hlk : ∀ n, (Instr.lookup 66 (.map (some c.mb)) (.int .i64 (f : Int)) false).run Tryd.prog (wr.drewN n) = .ok (.int .i64 (r.cr f)) (wr.drewN n) := fun n => (HB.out.drewN n).cre.look h16
      obtain ⟨cf, hcf⟩ : ∃ cf, r.cr f = cf := ⟨_, rfl⟩
      rw [hcf] at HC1 hlk
      clear hcf
      go_wp2
      go_quiet ((go_at_call 18; exact Calls.quiet_of_same (HC1.out _)))
      go_wp2
      go_roundw
      case rel => exact ⟨f + 1, n + nq, by omega, by go_num, by rw [HWR.out, World.drewN_drewN]⟩
      case measure => simp [intOf]; omega
    · obtain rfl : f = 16 := by omega
      go_wp2
      go_ret
      exact ⟨rfl, by rw [HWR.out]; exact below_drewN_ (Below.refl _ _) _⟩
end Go.Proofs.YtefflbibacmboaaDoor
namespace Go.Proofs.YtefflbibacmboaaDoor
open Go.RowKit Go.Extern.Stop Go.Stop Go.Extern

theorem ptrRo (b : Nat) (w : World) : (binOp .eql 61 (.pointer (some ⟨b, 0, none⟩)) (.pointer none)).run Tryd.prog w = .ok (.bool false) w := by kernel_rfl
theorem ptrRoN (w : World) : (binOp .eql 61 (.pointer none) (.pointer none)).run Tryd.prog w = .ok (.bool true) w := by kernel_rfl
theorem heap_al2 {w : World} {o : Obj} {k : Nat} {x : Option Obj} (hk : k < w.heap.size) (h : w.heap[k]? = x) : (w.alloc o).heap[k]? = x := (Below.heap_alloc _ _ _ hk).trans h
theorem irow_below2 {w w' : World} {px : Option Addr} {m : Nat} {f : Nat → Int} (h : IRow w px m f) (hb : Below w.heap.size w w') : IRow w' px m f := by
  rcases h with h | ⟨b, off, h1, h2, h3⟩
  · exact Or.inl h
  · exact Or.inr ⟨b, off, h1, Nat.lt_of_lt_of_le h2 hb.size, fun i hi => by rw [World.cell?_of_block (w := w) (a := ⟨b, off + i, none⟩) (hb.block b h2)]; exact h3 i hi⟩
def c0R (w2 : World) (R : Int) (px : Option Addr) (m pcap : Nat) (f : Nat → Int) : RrC := ⟨w2.heap.size + 1 + 1, w2.heap.size + 1, R, px, m, pcap, f⟩
def wPl (w2 : World) (b : Nat) (R : Int) (px : Option Addr) (m pcap : Nat) : World := (((w2.alloc (.cells #[.pointer (some ⟨b, 0, none⟩)] 61)).alloc (.map #[] 0)).alloc (.cells #[.int .i64 R, .slice px m pcap, .slice none 0 0, .slice none 0 0, .bool false, .map (some (w2.heap.size + 1))] 68)).alloc (.cells #[.pointer (some ⟨w2.heap.size + 1 + 1, 0, none⟩)] 65)
theorem roundsPlay {R : Int} {px : Option Addr} {m pcap : Nat} {f : Nat → Int} {C : Nat → Value} {x : Option Addr} {cap : Nat} {xs : List Stp} {w w2 : World} (hm0 : 1 ≤ m) (hm : m ≤ 16) (hQ : ∀ i, i < 16 → 1 ≤ qF f m 16 i ∧ qF f m 16 i ≤ 1000000) (hr : RnP w2 w.heap.size R (qF f m 16) C (fun _ => .slice none 0 0) (.slice none 0 0) rn0) (hI : IRow w px m f) (hb2 : Below w.heap.size w w2) (hl : Lies w x (flt Stp.cs xs)) (hn : xs.length ≤ 1000) :
    Calls Tryd.prog 10 #[.iface 61 (.pointer (some ⟨w.heap.size, 0, none⟩)), .iface 65 (.pointer (some ⟨w2.heap.size + 1 + 1, 0, none⟩)), .slice x xs.length cap, .func (.func 19) #[] #[.pointer (some ⟨w2.heap.size, 0, none⟩), .pointer (some ⟨w2.heap.size + 1 + 1 + 1, 0, none⟩)]] (wPl w2 w.heap.size R px m pcap) fun e w' => e = .returned (.bool true) ∧ Below w.heap.size w w' := by
  obtain ⟨W, hW⟩ : ∃ W, wPl w2 w.heap.size R px m pcap = W := ⟨_, rfl⟩
  have hs2 := hb2.size
  have hB : Below w2.heap.size w2 W := by rw [← hW]; exact below_alloc_ (below_alloc_ (below_alloc_ (below_alloc_ (Below.refl _ _) _) _) _) _
  have hWw : Below w.heap.size w W := hb2.trans (hB.mono hs2)
  have hsW : W.heap.size = w2.heap.size + 4 := by rw [← hW]; simp [wPl]
  have d0 : W.heap[w2.heap.size]? = some (.cells #[.pointer (some ⟨w.heap.size, 0, none⟩)] 61 (0, 0)) := by rw [← hW]; exact heap_al2 (by simp; omega) (heap_al2 (by simp; omega) (heap_al2 (by simp) (new_block _ _)))
  have d1 : CrM W (w2.heap.size + 1) (fun _ => 0) := by
    rw [← hW]
    have h0 := CrM.made (w2.alloc (.cells #[.pointer (some ⟨w.heap.size, 0, none⟩)] 61))
    rw [show (w2.alloc (.cells #[.pointer (some ⟨w.heap.size, 0, none⟩)] 61)).heap.size = w2.heap.size + 1 by simp] at h0
    exact (h0.kept (Below.heap_alloc _ _ _ (by simp))).kept (Below.heap_alloc _ _ _ (by simp))
  have d2 : W.heap[w2.heap.size + 1 + 1]? = some (.cells #[.int .i64 R, .slice px m pcap, .slice none 0 0, .slice none 0 0, .bool false, .map (some (w2.heap.size + 1))] 68 (0, 0)) := by rw [← hW]; exact heap_al2 (by simp) (new_block_ (by simp))
  have d3 : W.heap[w2.heap.size + 1 + 1 + 1]? = some (.cells #[.pointer (some ⟨w2.heap.size + 1 + 1, 0, none⟩)] 65 (0, 0)) := by rw [← hW]; exact new_block_ (by simp)
  rw [hW]
  clear hW
  have hbl := hr.blk.lt
  have htb : ∀ k, TB px m k → k < w.heap.size := fun k hk => tb_lt hI hk
  have hQR : RrQ (c0R w2 R px m pcap f) (qF f m 16) := ⟨hm0, hm, fun g hg => by
    unfold qF
    rw [if_pos hg]
    show f (min g (m - 1)) = if g < m then f g else f (m - 1)
    by_cases h1 : g < m
    · rw [if_pos h1, Nat.min_eq_left (by omega)]
    · rw [if_neg h1, Nat.min_eq_right (by omega)]⟩
  have hG : ∀ k, RrG (c0R w2 R px m pcap f) (.slice none 0 0) (.slice none 0 0) k → k = w2.heap.size + 1 + 1 ∨ k = w2.heap.size + 1 := by
    rintro k (h | h | h | h)
    · exact Or.inl h
    · exact Or.inr h
    · simp [Value.ownBlock] at h
    · simp [Value.ownBlock] at h
  have hPR : RrP w W (c0R w2 R px m pcap f) (.slice none 0 0) (.slice none 0 0) rr0 := ⟨d2, Ps.nil _, Ins.nil _, d1, hI, fun k hk => hWw.block k (htb k hk), by simp [Value.ownBlock], by simp [Value.ownBlock], fun k hk => by simp [Value.ownBlock] at hk, by show w2.heap.size + 1 ≠ w2.heap.size + 1 + 1; omega, by simp [Value.ownBlock], by simp [Value.ownBlock], fun k hk e => by have := htb k hk; have := hG k e; omega⟩
  have hI0 : RnI (qF f m 16) rn0 := rn0_inv hQ
  refine (playedT_any 19 #[.pointer (some ⟨w2.heap.size, 0, none⟩), .pointer (some ⟨w2.heap.size + 1 + 1 + 1, 0, none⟩)] eRndQ (RoundsM w.heap.size R (qF f m 16)) (roundsM_fine _ _ _) (RRoundsM w (c0R w2 R px m pcap f) (qF f m 16)) (rroundsM_fine _ _ _ hQR) _ (rounds_agree w w.heap.size (c0R w2 R px m pcap f) (qF f m 16)) (RnF w.heap.size (fun _ => .slice none 0 0) (.slice none 0 0)) (fun k => RrG (c0R w2 R px m pcap f) (.slice none 0 0) (.slice none 0 0) k ∨ TB px m k) rn0 rr0 x cap xs W (hl.below hWw) hn ⟨C, _, _, hr.below hB, fun k => Iff.rfl⟩ ⟨hI0, by decide, fun g hg => ⟨by simp [rn0], by simp [rn0]⟩⟩ ⟨_, _, hPR, fun k => Iff.rfl⟩ ⟨rn0, RRel.zero, hI0, by decide, fun g hg => ⟨by simp [rn0], by simp [rn0]⟩⟩ ?_ RRel.zero ?_).mono ?_
  · intro k hk hk'
    have h1 : k = w.heap.size := by
      rcases hk with h | ⟨g, _, h⟩ | h
      · exact h
      · simp [Value.ownBlock] at h
      · simp [Value.ownBlock] at h
    rcases hk' with h | h
    · have := hG k h; omega
    · have := htb k h; omega
  · rintro W' F G (s : RnS) (r : RrS) t n hO ⟨C', vs', tv', h1, _⟩ ⟨v', tv'', h2, _⟩ hrel _ _ _
    have hno : ∀ k, k = w2.heap.size ∨ k = w2.heap.size + 1 + 1 + 1 → ¬ (RnF w.heap.size (fun _ => .slice none 0 0) (.slice none 0 0) k ∨ RrG (c0R w2 R px m pcap f) (.slice none 0 0) (.slice none 0 0) k ∨ TB px m k) := by
      rintro k hk ((h | ⟨g, _, h⟩ | h) | h | h)
      · omega
      · simp [Value.ownBlock] at h
      · simp [Value.ownBlock] at h
      · have := hG k h; omega
      · have := htb k h; omega
    have e0 := (hO.block w2.heap.size (by omega) (hno _ (Or.inl rfl))).trans d0
    have e3 := (hO.block (w2.heap.size + 1 + 1 + 1) (by omega) (hno _ (Or.inr rfl))).trans d3
    have hs : s = toS r := hrel.eq
    exact rndQ_any W' h1 h2 (by rw [hs]; rfl) (by simp [World.cell?, e0]) (by show W'.cell? _ = some (.pointer (some ⟨w2.heap.size + 1 + 1, 0, none⟩)); simp [World.cell?, e3])
  · rintro e w' ⟨rfl, hO, F, G, s, r, _, ⟨v', tv', h2, _⟩, _, _⟩
    refine ⟨rfl, hO.os.trans hWw.os, hO.tape.trans hWw.tape, hO.output.trans hWw.output, Nat.le_trans hWw.size hO.size, fun k hk => ?_⟩
    by_cases ht : TB px m k
    · exact h2.same k ht
    · refine (hO.block k (by omega) ?_).trans (hWw.block k hk)
      rintro ((h | ⟨g, _, h⟩ | h) | h | h)
      · omega
      · simp [Value.ownBlock] at h
      · simp [Value.ownBlock] at h
      · have := hG k h; omega
      · exact ht h
end Go.Proofs.YtefflbibacmboaaDoor
namespace Go.Proofs.YtefflbibacmboaaDoor
open Go.RowKit Go.Extern.Stop Go.Stop Go.Extern

set_option maxRecDepth 20000 in
set_option maxHeartbeats 4000000 in
theorem roundsLaw_any (R : Int) (y : Option Addr) (m ycap : Nat) (f : Nat → Int) (x : Option Addr) (cap : Nat) (xs : List Stp) (w : World) (hr : IRow w y m f) (hmm : m ≤ maxLen) (hl : Lies w x (flt Stp.cs xs)) (hm : xs.length ≤ maxLen) (hL : Laid w) :
    Calls Tryd.prog 5 #[.int .i64 R, .slice y m ycap, .slice x xs.length cap] w fun e w' => e = .returned (.bool true) ∧ Below w.heap.size w w' := by
  have HL : Hid (Lies w x (flt Stp.cs xs)) := hl
  have HR : Hid (IRow w y m f) := hr
  have HLD : Hid (Laid w) := hL
  clear hl hr hL
  unfold maxLen at hm hmm
  obtain ⟨q, hq⟩ : ∃ q, xs.length = q := ⟨_, rfl⟩
  have HN : Hid (xs.length = q) := hq
  rw [hq] at hm ⊢
  clear hq
  have hp1 := ptrRo
  have hp2 := ptrRoN
  by_cases hlen : 120 < q
  · go_enter Tryd.func5, Tryd.ntmps5
    go_wp2
    go_ret
    exact ⟨rfl, Below.refl _ _⟩
  by_cases hml : 40 < m
  · go_enter Tryd.func5, Tryd.ntmps5
    go_wp2
    go_ret
    exact ⟨rfl, Below.refl _ _⟩
  clear hm hmm
  go_enter Tryd.func5, Tryd.ntmps5
  go_wp2
  go_loopw [7] (fun i wr => ∃ k : Nat, k ≤ m ∧ i = .int .i64 k ∧ wr = w) (fun i _ => m - (intOf i).toNat)
  case atStart => exact ⟨0, Nat.zero_le _, rfl, rfl⟩
  case round =>
    obtain ⟨k, hk, rfl, rfl⟩ := hrel
    by_cases hlt : k < m
    · rcases HR.out with h0 | ⟨b, off, rfl, hb, hc⟩
      · omega
      have hck := hc k hlt
      clear hc
      by_cases h1 : 1 ≤ f k
      · have o0 : decide (1 ≤ f k) = true := decide_eq_true h1
        by_cases h20 : f k < 20
        · have o1 : decide (f k < 20) = true := decide_eq_true h20
          go_wp2
          go_ret
          exact ⟨rfl, Below.refl _ _⟩
        · have o1 : decide (f k < 20) = false := decide_eq_false h20
          go_wp2
          go_roundw
          case rel => exact ⟨k + 1, by omega, by go_num, by first | trivial | rfl⟩
          case measure => simp [intOf]; omega
      · have o0 : decide (1 ≤ f k) = false := decide_eq_false h1
        go_wp2
        go_roundw
        case rel => exact ⟨k + 1, by omega, by go_num, by first | trivial | rfl⟩
        case measure => simp [intOf]; omega
    · obtain rfl : k = m := by omega
      clear hk hlt
      by_cases hbad : (k < 1 ∨ 16 < k) ∨ ¬ (0 ≤ R ∧ R ≤ 1000000 ∧ allQ f k = true)
      · obtain ⟨ec, hec, HCK, HNW⟩ : ∃ ec : Int, ec ≠ 0 ∧ (Calls Tryd.prog 16 #[.int .i64 R, .slice y k ycap] wr fun e w' => e = .returned (.int .i64 ec) ∧ w' = wr) ∧ Calls Tryd.prog 17 #[.int .i64 R, .slice y k ycap] wr fun e w' => e = .returned (.tuple #[.pointer none, .iface 27 (.int .i64 ec)]) ∧ w' = wr := by
          by_cases h1 : k < 1 ∨ 16 < k
          · exact ⟨4, by decide, roundsCheck_len R wr h1 (by omega), newRn_len R wr h1 (by omega)⟩
          · have h2 : ¬ (0 ≤ R ∧ R ≤ 1000000 ∧ allQ f k = true) := hbad.resolve_left h1
            have h3 := roundsCheck_any (pcap := ycap) R wr HR.out (by omega) (by omega)
            rw [if_neg h2] at h3
            refine ⟨2, by decide, h3, newRn_range R wr HR.out (by omega) (by omega) ?_⟩
            cases hq : allQ f k with
            | false => exact Or.inr (Or.inr rfl)
            | true =>
              have : ¬ (0 ≤ R ∧ R ≤ 1000000) := fun h => h2 ⟨h.1, h.2, hq⟩
              omega
        have HB : Hid (∀ W : World, Laid W → Calls Tryd.prog 9 #[.iface 27 (.int .i64 ec), .int .i64 ec] W fun e w' => e = .returned (.bool true) ∧ Below W.heap.size W w') := fun W hW => bare_no ec W hW hec
        have o1 : (ec == 0) = false := by simpa using hec
        have o2 : (ec != 0) = true := by simpa using hec
        have hbr : wr.heap.size < (wr.alloc (.cells #[.pointer none] 61)).heap.size := by simp
        clear hbad hec
        go_wp2_with (go_at_call 16; fail)
        refine HCK.mono ?_
        rintro e w1 ⟨rfl, hw1⟩
        subst w1
        go_wp2_with (go_at_call 17; fail)
        refine HNW.mono ?_
        rintro e w2 ⟨rfl, hw2⟩
        subst w2
        go_wp2_with (go_at_call 9; fail)
        refine (HB.out _ (HLD.out.below (below_alloc_ (Below.refl _ _) _))).mono ?_
        rintro e w3 ⟨rfl, hb3⟩
        have HB3 : Hid (Below wr.heap.size wr w3) := (below_alloc_ (Below.refl _ _) _).trans (hb3.mono (by simp))
        have hblk3 : w3.heap[wr.heap.size]? = some (.cells #[.pointer none] 61 (0, 0)) := (hb3.block wr.heap.size (by simp)).trans (new_block wr _)
        have hc3 : w3.cell? ⟨wr.heap.size, 0, none⟩ = some (.pointer none) := by simp [World.cell?, hblk3]
        clear hblk3
        have hl3 : wr.heap.size < w3.heap.size := by have := hb3.size; simp at this; omega
        clear hb3 HCK HNW
        go_wp2
        go_ret
        exact ⟨rfl, HB3.out⟩
      · have hk1 : 1 ≤ k ∧ k ≤ 16 := by omega
        have hRQ : 0 ≤ R ∧ R ≤ 1000000 ∧ allQ f k = true := Classical.byContradiction (fun h => hbad (Or.inr h))
        clear hbad
        have HCK := roundsCheck_any (pcap := ycap) R wr HR.out hk1.1 hk1.2
        rw [if_pos hRQ] at HCK
        have HNW := newRn_yes (pcap := ycap) R wr HR.out hk1.1 hk1.2 hRQ.1 hRQ.2.1 hRQ.2.2
        have HQ : Hid (∀ i, i < 16 → 1 ≤ qF f k 16 i ∧ qF f k 16 i ≤ 1000000) := qF_ok hk1.1 hRQ.2.2
        have hmm := @run_makeMap Tryd.prog
        clear hRQ
        go_wp2_with (go_at_call 16; fail)
        refine HCK.mono ?_
        rintro e w1 ⟨rfl, hw1⟩
        subst w1
        go_wp2_with (go_at_call 17; fail)
        refine HNW.mono ?_
        rintro e w2 ⟨rfl, C2, hP2, hb2⟩
        have HPL := roundsPlay (pcap := ycap) (cap := cap) hk1.1 hk1.2 HQ.out hP2 HR.out hb2 HL.out (by rw [HN.out]; omega)
        rw [HN.out] at HPL
        unfold wPl at HPL
        have hb2s : wr.heap.size < w2.heap.size := hP2.blk.lt
        have HCO : Hid (∀ (W : World) (j : Int), (j < 0 ∨ 16 ≤ j) → Calls Tryd.prog 18 #[.pointer (some ⟨wr.heap.size, 0, none⟩), .int .i64 j] W fun e w' => e = .returned (.int .i64 0) ∧ w' = W) := fun W j hj => rcred_out wr.heap.size j hj W
        clear hP2 hb2 HCK HNW
        go_wp2_with (go_at_call 18; fail)
        refine (HCO.out _ (-1) (by omega)).mono ?_
        rintro e w4 ⟨rfl, hw4⟩
        subst hw4
        go_wp2_with (go_at_call 18; fail)
        refine (HCO.out _ 16 (by omega)).mono ?_
        rintro e w4 ⟨rfl, hw4⟩
        subst hw4
        go_wp2_with (go_at_call 10; fail)
        refine HPL.mono ?_
        rintro e w5 ⟨rfl, hb5⟩
        have HB5 : Hid (Below wr.heap.size wr w5) := hb5
        clear hb5 HPL
        go_wp2
        go_ret
        exact ⟨rfl, HB5.out⟩
end Go.Proofs.YtefflbibacmboaaDoor
