/-
  millraceref.RoundsCheck, fair.Rounds' Credit beyond its flows, and the last question of FairRounds. Conditions: both lie in memory.
-/
import Derived.Test.YtejomfmbhifeaaaDoorYf
import Derived.Test.YtejomfmbhifeaaaDoorQg
import Derived.Test.YtejomfmbhifeaaaDoorPt
namespace Go.Proofs.YtejomfmbhifeaaaDoor
open Go.RowKit Go.Extern.Stop Go.Stop Go.Extern

theorem roundsCheck_len {px : Option Addr} {m pcap : Nat} (R : Int) (w : World) (h : m < 1 ∨ 16 < m) (hm : m ≤ 1000) : Calls Tryd.prog 16 #[.int .i64 R, .slice px m pcap] w fun e w' => e = .returned (.int .i64 4) ∧ w' = w := by
  have HY1 := within_no (m : Int) 1 16 w (by omega)
  clear h
  go_enter Tryd.func16, Tryd.ntmps16
  go_wp2_with fail
  refine HY1.mono ?_
  rintro e w1 ⟨rfl, hw1⟩
  subst hw1
  go_wp2
  go_ret
  exact ⟨rfl, rfl⟩
theorem qOk_iff (x : Int) : qOk x = true ↔ 1 ≤ x ∧ x ≤ 1000000 := by unfold qOk; simp
set_option maxHeartbeats 1000000 in
theorem roundsCheck_any {px : Option Addr} {m pcap : Nat} {f : Nat → Int} (R : Int) (w : World) (hI : IRow w px m f) (hm0 : 1 ≤ m) (hm : m ≤ 16) : Calls Tryd.prog 16 #[.int .i64 R, .slice px m pcap] w fun e w' => e = .returned (.int .i64 (if 0 ≤ R ∧ R ≤ 1000000 ∧ allQ f m = true then 0 else 2)) ∧ w' = w := by
  have HY1 := within_yes (m : Int) 1 16 w (by omega) (by omega)
  obtain ⟨E, hE⟩ : ∃ E : Int, (if 0 ≤ R ∧ R ≤ 1000000 ∧ allQ f m = true then (0 : Int) else 2) = E := ⟨_, rfl⟩
  rw [hE]
  by_cases hR : 0 ≤ R ∧ R ≤ 1000000
  · have HY2 := within_yes R 0 1000000 w hR.1 hR.2
    rcases hI with h0 | ⟨b, off, rfl, hb, hc⟩
    · omega
    obtain ⟨j0, hj1, hj2, hj3, hj4⟩ := allQ_first (f := f) m
    have HE : Hid (E = if j0 = m then 0 else 2) := by
      show _ = _
      rw [← hE, hj4]
      by_cases e : j0 = m
      · rw [if_pos e, if_pos ⟨hR.1, hR.2, by simp [e]⟩]
      · rw [if_neg e, if_neg (fun h => e (by simpa using h.2.2))]
    have HJ2 : Hid (∀ i, i < j0 → qOk (f i) = true) := hj2
    have HJ3 : Hid (j0 < m → qOk (f j0) = false) := hj3
    have HCC : Hid (∀ i, i < m → w.cell? ⟨b, off + i, none⟩ = some (.int .i64 (f i))) := hc
    clear hj2 hj3 hj4 hc hR hE
    go_enter Tryd.func16, Tryd.ntmps16
    go_wp2_with fail
    refine HY1.mono ?_
    rintro e w1 ⟨rfl, hw1⟩
    subst w1
    go_wp2_with fail
    refine HY2.mono ?_
    rintro e w2 ⟨rfl, hw2⟩
    subst w2
    go_wp2
    go_loopw [16] (fun iv wr => ∃ i : Nat, i ≤ j0 ∧ iv = .int .i64 i ∧ wr = w) (fun iv _ => m - (intOf iv).toNat)
    case atStart => exact ⟨0, Nat.zero_le _, rfl, rfl⟩
    case round =>
      obtain ⟨i, hi, rfl, rfl⟩ := hrel
      by_cases hlt : i < m
      · have hci := HCC.out i hlt
        by_cases hij : i < j0
        · have hq := (qOk_iff _).1 (HJ2.out i hij)
          have HY3 := within_yes (f i) 1 1000000 wr hq.1 hq.2
          go_wp2_with fail
          refine HY3.mono ?_
          rintro e w3 ⟨rfl, hw3⟩
          subst w3
          go_wp2
          go_roundw
          case rel => exact ⟨i + 1, by omega, by go_num, by first | trivial | rfl⟩
          case measure => simp [intOf]; omega
        · obtain rfl : i = j0 := by omega
          have hq : ¬ (1 ≤ f i ∧ f i ≤ 1000000) := fun h => by have := HJ3.out hlt; rw [(qOk_iff _).2 h] at this; cases this
          have HY3 := within_no (f i) 1 1000000 wr (by omega)
          go_wp2_with fail
          refine HY3.mono ?_
          rintro e w3 ⟨rfl, hw3⟩
          subst w3
          go_wp2
          go_ret
          exact ⟨by rw [HE.out, if_neg (by omega)]; rfl, rfl⟩
      · obtain rfl : i = m := by omega
        go_wp2
        go_ret
        exact ⟨by rw [HE.out, if_pos (by omega)]; rfl, rfl⟩
  · have HY2 := within_no R 0 1000000 w (by omega)
    have HE : Hid (E = 2) := by show _ = _; rw [← hE, if_neg (fun h => hR ⟨h.1, h.2.1⟩)]
    clear hR hI hE
    go_enter Tryd.func16, Tryd.ntmps16
    go_wp2_with fail
    refine HY1.mono ?_
    rintro e w1 ⟨rfl, hw1⟩
    subst w1
    go_wp2_with fail
    refine HY2.mono ?_
    rintro e w2 ⟨rfl, hw2⟩
    subst w2
    go_wp2
    go_ret
    exact ⟨by rw [HE.out]; rfl, rfl⟩
theorem rcred_out (b : Nat) (k : Int) (hk : k < 0 ∨ 16 ≤ k) (w : World) : Calls Tryd.prog 18 #[.pointer (some ⟨b, 0, none⟩), .int .i64 k] w fun e w' => e = .returned (.int .i64 0) ∧ w' = w := by
  rcases hk with hk | hk
  · go_enter Tryd.func18, Tryd.ntmps18
    go_wp2
    go_ret
    exact ⟨rfl, rfl⟩
  · go_enter Tryd.func18, Tryd.ntmps18
    go_wp2
    go_ret
    exact ⟨rfl, rfl⟩
theorem eRndQ (args : Array Value) (W : World) : (callFunc 19 args).run Tryd.prog W = .ok (.enter 19 args) W := enters_of Tryd.func19 (by kernel_rfl) rfl args W
set_option maxHeartbeats 2000000 in
theorem rndQ_any {w0 : World} {b : Nat} {room : Int} {q : Nat → Int} {C : Nat → Value} {vs : Nat → Value} {tv : Value} {s : RnS} {c : RrC} {v' tv' : Value} {r : RrS} {p1 p2 : Nat} (w : World) (h : RnP w b room q C vs tv s) (h' : RrP w0 w c v' tv' r) (he : s.cr = r.cr) (hc : w.cell? ⟨p1, 0, none⟩ = some (.pointer (some ⟨b, 0, none⟩))) (hc' : w.cell? ⟨p2, 0, none⟩ = some (.pointer (some ⟨c.b, 0, none⟩))) :
    Calls Tryd.prog 19 #[.pointer (some ⟨p1, 0, none⟩), .pointer (some ⟨p2, 0, none⟩)] w fun e w' => e = .returned (.bool true) ∧ Below w.heap.size w w' := by
  have H : Hid (RnP w b room q C vs tv s) := h
  have H' : Hid (RrP w0 w c v' tv' r) := h'
  have hcl := World.block_lt_of_cell? _ _ hc
  have hcl' := World.block_lt_of_cell? _ _ hc'
  obtain ⟨⟨a0, a1, a2, a3, a4, a5⟩, g2, g3, g4⟩ := sixr h'.blk
  have hb := h'.lt
  have HE : Hid (s.cr = r.cr) := he
  clear h h' he
  go_enter Tryd.func19, Tryd.ntmps19
  go_wp2
  go_loopw [3] (fun iv wr => ∃ f n : Nat, f ≤ 16 ∧ iv = .int .i64 f ∧ wr = w.drewN n) (fun iv _ => 16 - (intOf iv).toNat)
  case atStart => exact ⟨0, 0, by decide, rfl, rfl⟩
  case round =>
    obtain ⟨f, n, hf, rfl, hwr⟩ := hrel
    have HWR : Hid (wr = w.drewN n) := hwr
    have HA : Hid (RnP wr b room q C vs tv s) := by show RnP _ _ _ _ _ _ _ _; rw [hwr]; exact H.out.kept (fun _ _ => rfl)
    have HB : Hid (RrP w0 wr c v' tv' r) := by show RrP _ _ _ _ _ _; rw [hwr]; exact H'.out.drewN n
    have hc2 : wr.cell? ⟨p1, 0, none⟩ = some (.pointer (some ⟨b, 0, none⟩)) := by rw [hwr]; exact hc
    have hc2' : wr.cell? ⟨p2, 0, none⟩ = some (.pointer (some ⟨c.b, 0, none⟩)) := by rw [hwr]; exact hc'
    have hs2 : wr.heap.size = w.heap.size := by rw [hwr]; rfl
    have hq1 : p1 < wr.heap.size := by omega
    have hq2 : p2 < wr.heap.size := by omega
    clear hwr hc hc' hs2 hcl hcl' a0 a1 a2 a3 a4 a5 g2 g3 g4 hb
    obtain ⟨⟨a0, a1, a2, a3, a4, a5⟩, g2, g3, g4⟩ := sixr HB.out.blk
    have hb := HB.out.lt
    by_cases h16 : f < 16
    · have HC1 : Hid (∀ n, Calls Tryd.prog 18 #[.pointer (some ⟨b, 0, none⟩), .int .i64 f] (wr.drewN n) fun e w' => e = .returned (.int .i64 (r.cr f)) ∧ w' = wr.drewN n) := fun n => by
        have := rcred_any f h16 (wr.drewN n) (HA.out.kept (fun _ _ => rfl))
        rw [HE.out] at this
        exact this
      have hlk : ∀ n, (Instr.lookup 66 (.map (some c.mb)) (.int .i64 (f : Int)) false).run Tryd.prog (wr.drewN n) = .ok (.int .i64 (r.cr f)) (wr.drewN n) := fun n => (HB.out.drewN n).cre.look h16
      obtain ⟨cf, hcf⟩ : ∃ cf, r.cr f = cf := ⟨_, rfl⟩
      rw [hcf] at HC1 hlk
      clear hcf
      go_wp2
      go_quiet ((go_at_call 18; exact Calls.quiet_of_same (HC1.out _)))
      go_wp2
      go_roundw
      case rel => exact ⟨f + 1, n + nq, by omega, by go_num, by rw [HWR.out, World.drewN_drewN]⟩
      case measure => simp [intOf]; omega
    · obtain rfl : f = 16 := by omega
      go_wp2
      go_ret
      exact ⟨rfl, by rw [HWR.out]; exact below_drewN_ (Below.refl _ _) _⟩
end Go.Proofs.YtejomfmbhifeaaaDoor
