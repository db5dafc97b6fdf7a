/-
  package plant: Bands that a text tells, or an error, whatever stands there. Conditions: as for queues in parentheses.
  package plant: a Fifo that a text tells, or an error, whatever stands there. Conditions: as for numbers; errors.errorType is laid.
  The root of a number, rounded down, and Newton's steps to it; controlled delay as a function of what waits. Conditions: none.
  early: root and law, and what pull does. Conditions: numbers within bounds; the queue lies in memory.
-/
import Derived.Test.YtfakjedolecdcaaGreatDoorU30
import Derived.Test.YtfakjedolecdcaaGreatDoorU15
import Derived.Test.YtfakjedolecdcaaGreatDoorU4
namespace Go.Proofs.YtfakjedolecdcaaGreatDoor
open Go.RowKit Go.Extern.Stop Go.Stop Go.Extern
variable {E : Prop}

/-- What is so of bands of such queues. -/
theorem GqR.qk {w w1 w2 : World} {b : Nat} {qs : List AQ} {N B g goff gcap : Nat} {vv : Value} (h : GqR E w b qs vv w1) (hN : qs.length = N) (hN1 : 1 ≤ N) (hN8 : N ≤ 8) (hk : aqK qs ≤ 20) (hb : Below w1.heap.size w1 w2) (hblk : w2.heap[B]? = some (.cells #[.slice (some ⟨g, goff, none⟩) N gcap] 176 (0, 0))) (hrow : QRowAt w2 g goff N (fun i => ((aqQ qs i).ty, (aqQ qs i).rv))) (hg : w1.heap.size ≤ g) (hgB : g < B) : Qk E (aqK qs + 1) w w2 (.returned (.tuple #[.iface 137 (.pointer (some ⟨B, 0, none⟩)), .nilIface])) := by
  subst hN
  have hok : ∀ i, i < qs.length → (qs.getD i noAQ).Ok E := fun i hi => h.ok _ (getD_mem hi)
  have hws := h.ot.size
  have hS := bands_small (Q := aqQ qs) (N := qs.length) (k := fun i => (qs.getD i noAQ).k) (fun i hi => (hok i hi).fine) (fun i hi => (hok i hi).tame) hk hN1 hN8
  refine Or.inr ⟨BandsM (aqQ qs) qs.length B g goff gcap, contL (Q := aqQ qs) (fun i => (qs.getD i noAQ).cont) qs.length, (fun i => (qs.getD i noAQ).s0), foot qs.length B g (fun i => (qs.getD i noAQ).F), rfl, bandsM_fine hS, bands_late _ (fun i hi => (hok i hi).late) hN1, (bands_tame (k := fun i => (qs.getD i noAQ).k) (fun i hi => (hok i hi).tame)).le (Nat.le_succ _), fun i hi => (hok i hi).inv, ?_, ⟨_, h.bat rfl hb hblk hrow hg hgB, fun _ => Iff.rfl⟩, ?_⟩
  · show (List.range qs.length).flatMap _ = []
    rw [List.flatMap_eq_nil_iff]
    intro i hi
    exact (hok i (List.mem_range.1 hi)).emp
  · rintro k (rfl | rfl | ⟨i, hi, hk⟩)
    · omega
    · omega
    · exact (h.new _ (getD_mem hi) k hk).1
set_option maxRecDepth 20000 in
set_option maxHeartbeats 4000000 in
theorem bands_gen {b n : Nat} {px : Option Addr} {m pcap : Nat} {fn : Nat → Int} {ar : Int} {k : Nat} {v : Value} {L : List (List UInt8 × Nat)} (f : List UInt8 × Nat) (w : World) (hQ : QueueC E b n px m pcap fn ar) (h : RdAt w b 65 n [.slice px m pcap, .int .i64 ((k + 1 : Nat) : Int)] v L) (hE : EnvB b px m fn w) (hL : LsOk E L) (hk : k + 1 ≤ 20) :
    Calls Tryz.prog 37 #[.pointer (some ⟨b, 0, none⟩), .agg #[.string ⟨f.1.toArray⟩, .int .i64 f.2], .int .i64 ar] w fun e w' => QkB E w w' b n (.slice px m pcap) k v L e := by
  obtain ⟨tv, htv⟩ : ∃ tv, Value.slice px m pcap = tv := ⟨_, rfl⟩
  have hb := h.lt
  have HQS : Hid (∀ w1, Below w.heap.size w w1 → Calls Tryz.prog 53 #[.pointer (some ⟨b, 0, none⟩), .int .i64 ar] w1 fun e w' => ∃ vv ev, e = .returned (.tuple #[vv, ev]) ∧ QsB E w1 w' b n tv k v L vv ev) := by
    intro w1 h1
    rw [← htv]
    exact queues_gen w1 hQ (h.below h1) (hE.ot (Ot.of_below h1)) hL hk
  have HL : Hid (∀ w', Ot (fun k => k = b) w w' → Laid w') := fun w' h' => (hE w' h').2.1
  rw [htv]
  clear h hE hL hQ hk htv
  go_enter Tryz.func37, Tryz.ntmps37
  go_wp2_with fail
  refine (HQS.out _ (below_alloc_ (Below.refl _ _) _)).mono ?_
  rintro e w1 ⟨vv, ev, rfl, k1, L1, v1, hr1, hv1, hin1, ho1, hk1, hcase⟩
  have HR1 : Hid (RdAt w1 b 65 n [tv, .int .i64 (k1 : Int)] v1 L1) := hr1
  have HV1 : Hid (v1.ownBlock = v.ownBlock) := hv1
  have HI1 : Hid (∀ y ∈ L1, y ∈ L) := hin1
  have HO1 : Hid (Ot (fun k => k = b) w w1) := ((Ot.refl _ _).alloc _).trans ho1
  have hbx : w1.heap[w.heap.size]? = some (.cells #[.string ⟨f.1.toArray⟩, .int .i64 f.2] 60 (0, 0)) := (ho1.block w.heap.size (by simp) (by omega)).trans (new_block _ _)
  have HBX : Hid (w1.heap[w.heap.size]? = some (.cells #[.string ⟨f.1.toArray⟩, .int .i64 f.2] 60 (0, 0))) := hbx
  have hbl1 := lt_of_block hbx
  have HK1 : Hid (k + 1 ≤ k1 ∧ k + (k1 - k) = k1) := ⟨hk1, by omega⟩
  clear hr1 hv1 hin1 ho1 hk1
  rcases hcase with ⟨B, rfl, rfl⟩ | ⟨rfl, qs, hq1, hke, hk20, hN1⟩
  · clear hbx
    unfold errV
    go_wp2
    (try simp only [Exit.inBlock, Exit.then])
    go_ret2
    exact ⟨k1 - k, L1, v1, Or.inl ⟨B, rfl⟩, by have := HK1.out; omega, Or.inr ⟨B, rfl⟩, by rw [HK1.out.2]; exact HR1.out, HV1.out, HI1.out, HO1.out⟩
  · obtain ⟨N, hN⟩ : ∃ N, qs.length = N := ⟨_, rfl⟩
    rw [hN] at hN1
    have hrow := hq1.row
    rw [hN] at hrow
    obtain ⟨g1, go1, gc1, rfl, _, _, hgl1, _⟩ := hrow.some (by omega)
    have hge := aqK_ge (qs := qs) (fun q hq => (hq1.ok q hq).one)
    have HRW : Hid (QRowAt w1 g1 go1 N (fun i => ((aqQ qs i).ty, (aqQ qs i).rv))) := by rw [← hN]; exact hq1.rowAt
    have HQ1 : Hid (GqR E (w.alloc (.cells #[.string ⟨f.1.toArray⟩, .int .i64 f.2] 60)) b qs (.slice (some ⟨g1, go1, none⟩) N gc1) w1) := hq1
    have HN : Hid (qs.length = N) := hN
    have HKE : Hid (k1 = k + (aqK qs + 1) ∧ aqK qs ≤ 20 ∧ k1 ≤ 20) := ⟨by omega, by omega, hk20⟩
    have hN20 : N ≤ 20 := by omega
    clear hq1 hke hk20 hrow hge hN
    by_cases hN8 : N ≤ 8
    · clear hbx
      go_wp2_with fail
      refine (newBands_yes w1 HRW.out hN1 hN8 hgl1).mono ?_
      rintro e w2 ⟨B, g, goff, gcap, rfl, hblk, hrow2, hg2, hgB, hb2⟩
      have HQK : Hid (Qk E (aqK qs + 1) w w2 (.returned (.tuple #[.iface 137 (.pointer (some ⟨B, 0, none⟩)), .nilIface]))) := (HQ1.out.qk HN.out hN1 hN8 HKE.out.2.1 hb2 hblk hrow2 hg2 hgB).mono (by simp)
      have HB2 : Hid (Below w1.heap.size w1 w2) := hb2
      have hbx2 : w2.heap[w.heap.size]? = some (.cells #[.string ⟨f.1.toArray⟩, .int .i64 f.2] 60 (0, 0)) := (hb2.block w.heap.size hbl1).trans HBX.out
      have b0 : w2.cell? ⟨w.heap.size, 0, none⟩ = some (.string ⟨f.1.toArray⟩) := by simp [World.cell?, hbx2]
      have b1 : w2.cell? ⟨w.heap.size, 1, none⟩ = some (.int .i64 f.2) := by simp [World.cell?, hbx2]
      have hbl2 := lt_of_block hbx2
      clear hblk hrow2 hb2 hbx2 hg2 hgB
      go_wp2_with (go_at_call 46; refine (made_yes f _ _).mono ?_; rintro e w3 ⟨rfl, hb3⟩)
      go_ret2
      exact ⟨aqK qs + 1, L1, v1, HQK.out.below hb3, by omega, Or.inl (by have := HKE.out; omega), by rw [← HKE.out.1]; exact (HR1.out.below HB2.out).below hb3, HV1.out, HI1.out, (HO1.out.trans (Ot.of_below HB2.out)).trans (Ot.of_below hb3)⟩
    · have b0 : w1.cell? ⟨w.heap.size, 0, none⟩ = some (.string ⟨f.1.toArray⟩) := by simp [World.cell?, hbx]
      have b1 : w1.cell? ⟨w.heap.size, 1, none⟩ = some (.int .i64 f.2) := by simp [World.cell?, hbx]
      clear hbx
      go_wp2_with (first | (go_at_call 54; refine (newBands_limit w1 (Or.inr (by omega)) (by omega)).mono ?_; rintro e w2 ⟨rfl, hw2⟩; subst hw2) | (go_at_call 46; refine (made_no f _ _ _ (HL.out _ HO1.out)).mono ?_; rintro e w3 ⟨B, rfl, hb3⟩))
      go_ret2
      exact ⟨aqK qs + 1, L1, v1, Or.inl ⟨B, rfl⟩, by omega, Or.inl (by have := HKE.out; omega), by rw [← HKE.out.1]; exact HR1.out.below hb3, HV1.out, HI1.out, HO1.out.trans (Ot.of_below hb3)⟩
end Go.Proofs.YtfakjedolecdcaaGreatDoor
namespace Go.Proofs.YtfakjedolecdcaaGreatDoor
open Go.RowKit Go.Extern.Stop Go.Stop Go.Extern
variable {E : Prop}

theorem fifo_tame (q : Nat) (P R : Int) (hd : Bool) : (FifoM q P R hd).Tame 1 :=
  (fifo_keeps q P R hd).tame (fun h _ hn => ⟨Nat.le_trans h.1 hn, h.2⟩) (fun h => ⟨h.1, fun x hx => by have := ok_len (h.2 x hx); omega⟩)
theorem fifo_qk {w0 w' : World} {q : Nat} {P R : Int} {hd : Bool} (h : LAt w' q 110 (frest P R hd []) (.slice none 0 0) []) (hq : w0.heap.size ≤ q) (hP : 0 ≤ P) (hR : 0 ≤ R) (hR1 : R ≤ 1000000) : Qk E 1 w0 w' (.returned (.tuple #[.iface 86 (.pointer (some ⟨q, 0, none⟩)), .nilIface])) :=
  Or.inr ⟨FifoM q P R hd, (fun L => List.map nl L), ([] : List Hd), (· = q), rfl, fifoM_fine q P R hd hP hR hR1, (fifo_keeps q P R hd).late, fifo_tame q P R hd, fifo_inv00 _ _ _ _, rfl, fifo_at0 _ _ _ _ h, fun k hk => by have : k = q := hk; omega⟩
set_option maxHeartbeats 2000000 in
theorem newFifo_gen (P R : Int) (hd : Bool) (w : World) :
    Calls Tryz.prog 27 #[.int .i64 P, .int .i64 R, .bool hd] w fun e w' => ∃ qv ev, e = .returned (.tuple #[.pointer qv, ev]) ∧ Hid (Below w.heap.size w w') ∧ ((ev = .nilIface ∧ ∃ q, qv = some ⟨q, 0, none⟩ ∧ Hid (Qk E 1 w w' (.returned (.tuple #[.iface 86 (.pointer (some ⟨q, 0, none⟩)), .nilIface])))) ∨ ∃ c, ev = .iface 57 (.int .i64 c)) := by
  by_cases h : 0 ≤ P ∧ P ≤ 1000000 ∧ 0 ≤ R ∧ R ≤ 1000000
  · refine (newFifo_yes P R hd w h.1 h.2.1 h.2.2.1 h.2.2.2).mono ?_
    rintro e w' ⟨rfl, hl, rfl⟩
    exact ⟨_, _, rfl, below_alloc_ (Below.refl _ _) _, Or.inl ⟨rfl, _, rfl, fifo_qk hl (Nat.le_refl _) h.1 h.2.2.1 h.2.2.2⟩⟩
  · refine (newFifo_no P R hd w h).mono ?_
    rintro e w' ⟨rfl, rfl⟩
    exact ⟨_, _, rfl, Below.refl _ _, Or.inr ⟨_, rfl⟩⟩
set_option maxRecDepth 20000 in
set_option maxHeartbeats 2000000 in
theorem fifo_gen {b : Nat} {n : Nat} {rest : List Value} {v : Value} {L : List (List UInt8 × Nat)} (f : List UInt8 × Nat) (w : World) (h : RdAt w b 65 n rest v L) (hB : ∀ w', Ot (fun k => k = b) w w' → Glob w' ∧ Laid w') (hn : ∀ x ∈ L, x.1.length ≤ 2000) :
    Calls Tryz.prog 31 #[.pointer (some ⟨b, 0, none⟩), .agg #[.string ⟨f.1.toArray⟩, .int .i64 f.2]] w fun e w' => QkR E 1 w w' b n rest v L e := by
  have HNS : Hid (∀ w1, Ot (fun k => k = b) w w1 → RdAt w1 b 65 n rest v L → Calls Tryz.prog 45 #[.pointer (some ⟨b, 0, none⟩), .int .i64 2] w1 fun e w' => ∃ u ev, e = .returned (.tuple #[u, ev]) ∧ (∃ L', RdL w1 w' b n rest v L L') ∧ ((ev = .nilIface ∧ ∃ (zs : List Int), zs.length = 2 ∧ Seg w' 3 1 u 2 (zs.map (Value.int .i64)) ∧ (∀ k, u.ownBlock = some k → w1.heap.size ≤ k)) ∨ (u = .slice none 0 0 ∧ ∃ B, ev = errV B))) := by
    intro w1 ho hr
    refine (numbers_gen (m := 2) w1 hr (fun w' h' => (hB w' (ho.trans h')).1) hn (by decide)).mono ?_
    rintro e w' ⟨hl, ⟨u, zs, rfl, h1, h2, h3⟩ | ⟨B, rfl⟩⟩
    · exact ⟨_, _, rfl, hl, Or.inl ⟨rfl, zs, h1, h2, h3⟩⟩
    · exact ⟨_, _, rfl, hl, Or.inr ⟨rfl, B, rfl⟩⟩
  have H : Hid (RdAt w b 65 n rest v L) := h
  have HL : Hid (∀ w', Ot (fun k => k = b) w w' → Laid w') := fun w' h' => (hB w' h').2
  have hb := h.lt
  clear h hB hn
  go_enter Tryz.func31, Tryz.ntmps31
  go_wp2_with fail
  refine (HNS.out _ ((Ot.refl _ _).alloc _) (H.out.below (below_alloc_ (Below.refl _ _) _))).mono ?_
  rintro e w1 ⟨u, ev, rfl, ⟨L', v', hr1, hv1, hin1, ho1⟩, hcase⟩
  have HR1 : Hid (RdAt w1 b 65 n rest v' L') := hr1
  have HV1 : Hid (v'.ownBlock = v.ownBlock) := hv1
  have HI1 : Hid (∀ y ∈ L', y ∈ L) := hin1
  have HO1 : Hid (Ot (fun k => k = b) w w1) := ((Ot.refl _ _).alloc _).trans ho1
  have hbx : w1.heap[w.heap.size]? = some (.cells #[.string ⟨f.1.toArray⟩, .int .i64 f.2] 60 (0, 0)) := (ho1.block w.heap.size (by simp) (by omega)).trans (new_block _ _)
  have HBX : Hid (w1.heap[w.heap.size]? = some (.cells #[.string ⟨f.1.toArray⟩, .int .i64 f.2] 60 (0, 0))) := hbx
  rcases hcase with ⟨rfl, zs, hz, hs1, hn1⟩ | ⟨rfl, B, rfl⟩
  · obtain ⟨P, R, rfl⟩ : ∃ P R, zs = [P, R] := by
      match zs, hz with
      | [P, R], _ => exact ⟨P, R, rfl⟩
    obtain ⟨g, off, cap, rfl, hg1, hg2, hg3, hgc⟩ := hs1.some (by decide)
    have c0 : w1.cell? ⟨g, off, none⟩ = some (.int .i64 P) := hgc 0 _ rfl
    have c1 : w1.cell? ⟨g, off + 1, none⟩ = some (.int .i64 R) := hgc 1 _ rfl
    have b0 : w1.cell? ⟨w.heap.size, 0, none⟩ = some (.string ⟨f.1.toArray⟩) := by simp [World.cell?, hbx]
    have b1 : w1.cell? ⟨w.heap.size, 1, none⟩ = some (.int .i64 f.2) := by simp [World.cell?, hbx]
    have hbl := lt_of_block hbx
    have HNF : Hid (∀ w2 hd, Calls Tryz.prog 27 #[.int .i64 P, .int .i64 R, .bool hd] w2 fun e w' => ∃ qv ev, e = .returned (.tuple #[.pointer qv, ev]) ∧ Hid (Below w2.heap.size w2 w') ∧ ((ev = .nilIface ∧ ∃ q, qv = some ⟨q, 0, none⟩ ∧ Hid (Qk E 1 w2 w' (.returned (.tuple #[.iface 86 (.pointer (some ⟨q, 0, none⟩)), .nilIface])))) ∨ ∃ c, ev = .iface 57 (.int .i64 c))) := fun w2 hd => newFifo_gen P R hd w2
    clear hs1 hgc hbx hr1 hv1 ho1 hn1 HNS hz hin1
    go_wp2_with fail
    go_cut [8, 7] (fun qv ev wx => Hid (Below w1.heap.size w1 wx) ∧ ((ev = .nilIface ∧ ∃ q, qv = .pointer (some ⟨q, 0, none⟩) ∧ Hid (Qk E 1 w1 wx (.returned (.tuple #[.iface 86 (.pointer (some ⟨q, 0, none⟩)), .nilIface])))) ∨ ∃ c qq, ev = .iface 57 (.int .i64 c) ∧ qv = .pointer qq))
    case first =>
      go_region_with (go_at_call 27; refine (HNF.out _ _).mono ?_; rintro e w2 ⟨qv, ev, rfl, hb2, hq2⟩)
      all_goals go_wp2_with fail
      all_goals go_meet
      all_goals refine ⟨⟨hb2.out.os, hb2.out.tape, hb2.out.output, hb2.out.size, hb2.out.block⟩, ?_⟩
      all_goals rcases hq2 with ⟨rfl, q, rfl, hq⟩ | ⟨c, rfl⟩
      all_goals first
        | exact Or.inl ⟨rfl, q, rfl, hq.out.mono (Nat.le_refl _)⟩
        | exact Or.inr ⟨c, qv, rfl, rfl⟩
    case rest =>
    obtain ⟨hbc, hq⟩ := hcut
    clear b0 b1 c0 c1
    generalize wc = w2 at *
    have hbx : w2.heap[w.heap.size]? = some (.cells #[.string ⟨f.1.toArray⟩, .int .i64 f.2] 60 (0, 0)) := (hbc.out.block _ hbl).trans HBX.out
    have b0 : w2.cell? ⟨w.heap.size, 0, none⟩ = some (.string ⟨f.1.toArray⟩) := by simp [World.cell?, hbx]
    have b1 : w2.cell? ⟨w.heap.size, 1, none⟩ = some (.int .i64 f.2) := by simp [World.cell?, hbx]
    have hbl2 := lt_of_block hbx
    have HO2 : Hid (Ot (fun k => k = b) w w2) := HO1.out.trans (Ot.of_below hbc.out)
    have HR2 : Hid (RdAt w2 b 65 n rest v' L') := HR1.out.below hbc.out
    clear hbx
    rcases hq with ⟨rfl, q, rfl, hq⟩ | ⟨c, qq, rfl, rfl⟩
    · go_wp2_with (go_at_call 46; refine (made_yes f _ _).mono ?_; rintro e w3 ⟨rfl, hb3⟩)
      go_ret2
      exact ⟨(hq.out.mono HO1.out.size).below hb3, L', v', HR2.out.below hb3, HV1.out, HI1.out, HO2.out.trans (Ot.of_below hb3)⟩
    · go_wp2_with (go_at_call 46; refine (made_no f _ c _ (HL.out _ HO2.out)).mono ?_; rintro e w3 ⟨B, rfl, hb3⟩)
      go_ret2
      exact ⟨Or.inl ⟨B, rfl⟩, L', v', HR2.out.below hb3, HV1.out, HI1.out, HO2.out.trans (Ot.of_below hb3)⟩
  · clear hbx hr1 hv1 ho1 HNS hin1
    unfold errV
    go_wp2
    (try simp only [Exit.inBlock, Exit.then])
    go_ret2
    exact ⟨Or.inl ⟨B, rfl⟩, L', v', HR1.out, HV1.out, HI1.out, HO1.out⟩
end Go.Proofs.YtfakjedolecdcaaGreatDoor
namespace Go.Proofs.YtfakjedolecdcaaGreatDoor
open Go.RowKit Go.Extern.Stop Go.Stop Go.Extern

def rtN : Nat → Nat
  | 0 => 0
  | n + 1 => if (rtN n + 1) * (rtN n + 1) ≤ n + 1 then rtN n + 1 else rtN n
theorem sq_succ (r : Nat) : (r + 1) * (r + 1) = r * r + 2 * r + 1 := by
  simp only [Nat.add_mul, Nat.mul_add]; omega
theorem rtN_spec (n : Nat) : rtN n * rtN n ≤ n ∧ n < (rtN n + 1) * (rtN n + 1) := by
  induction n with
  | zero => simp [rtN]
  | succ n ih =>
    obtain ⟨h1, h2⟩ := ih
    simp only [rtN]
    split
    · rename_i h
      refine ⟨h, ?_⟩
      have e1 := sq_succ (rtN n + 1)
      have e2 := sq_succ (rtN n)
      omega
    · rename_i h
      exact ⟨by omega, by omega⟩
theorem sq_le {a b : Nat} (h : a ≤ b) : a * a ≤ b * b := Nat.mul_le_mul h h
theorem rt_uniq {n r : Nat} (h1 : r * r ≤ n) (h2 : n < (r + 1) * (r + 1)) : r = rtN n := by
  obtain ⟨k1, k2⟩ := rtN_spec n
  rcases Nat.lt_trichotomy r (rtN n) with h | h | h
  · have := sq_le (show r + 1 ≤ rtN n from h); omega
  · exact h
  · have := sq_le (show rtN n + 1 ≤ r from h); omega
theorem rtN_le (n : Nat) : rtN n ≤ n := by
  obtain ⟨k1, _⟩ := rtN_spec n
  cases h : rtN n with
  | zero => omega
  | succ r => rw [h, sq_succ] at k1; omega
theorem rtN_pos {n : Nat} (h : 1 ≤ n) : 1 ≤ rtN n := by
  obtain ⟨_, k2⟩ := rtN_spec n
  cases h' : rtN n with
  | zero => rw [h'] at k2; omega
  | succ r => omega
theorem newton_ge {n g r : Nat} (hg : 1 ≤ g) (hr : r * r ≤ n) : r ≤ (g + n / g) / 2 := by
  by_cases h : 2 * r ≤ g
  · have : r ≤ (g + n / g) / 2 := by
      have := Nat.zero_le (n / g)
      omega
    exact this
  · have h1 : (2 * r - g) * g ≤ r * r := by
      rcases Nat.le_total g r with hgr | hgr
      · obtain ⟨d, rfl⟩ := Nat.exists_eq_add_of_le hgr
        have : 2 * (g + d) - g = g + 2 * d := by omega
        rw [this]
        simp only [Nat.add_mul, Nat.mul_add]
        have := Nat.mul_comm g d
        have : 2 * d * g = 2 * (d * g) := Nat.mul_assoc _ _ _
        omega
      · obtain ⟨d, rfl⟩ := Nat.exists_eq_add_of_le hgr
        obtain ⟨e, rfl⟩ : ∃ e, r = d + e := ⟨r - d, by omega⟩
        have : 2 * (d + e) - (d + e + d) = e := by omega
        rw [this]
        simp only [Nat.add_mul, Nat.mul_add]
        have := Nat.mul_comm e d
        omega
    have h2 : 2 * r - g ≤ n / g := (Nat.le_div_iff_mul_le (by omega)).2 (Nat.le_trans h1 hr)
    omega
theorem newton_end {n g : Nat} (hg : 1 ≤ g) (h : g ≤ (g + n / g) / 2) (hr : rtN n ≤ g) : g = rtN n := by
  have h1 : g ≤ n / g := by omega
  have h2 : g * g ≤ n := (Nat.le_div_iff_mul_le (by omega)).1 h1
  obtain ⟨_, k2⟩ := rtN_spec n
  rcases Nat.lt_or_ge (rtN n) g with h3 | h3
  · have := sq_le (show rtN n + 1 ≤ g from h3); omega
  · omega
/-- The law of a time. -/
def lawD (S n t : Int) : Int := t + (S * 1000) / (rtN (1000000 * n).toNat : Int)
/-- What a Delay keeps. -/
structure DlS where
  L : List Hd
  late : Bool
  dl : Int
  throws : Bool
  count : Int
  next : Int
/-- One is pulled: what is left, the one, whether there is one, whether it is bad. -/
def pullD (T S : Int) (s : DlS) (now : Int) : DlS × Hd × Bool × Bool :=
  match s.L with
  | [] => ({ s with late := false }, hd0, false, false)
  | x :: L => if now - x.a < T ∨ L = [] then ({ s with L := L, late := false }, x, true, false) else if s.late = false then ({ s with L := L, late := true, dl := now + S }, x, true, false) else ({ s with L := L }, x, true, decide (s.dl ≤ now))
/-- Bad ones are thrown away from x on, as long as it is time. -/
def goD (T S now : Int) : List Hd → DlS → Hd → DlS × List Hd × Hd × Bool
  | [], s, x => if now < s.next then (s, [], x, true) else ({ s with late := false, throws := false, count := s.count + 1 }, [x], hd0, false)
  | y :: L, s, x =>
    if now < s.next then (s, [], x, true)
    else if (pullD T S { s with count := s.count + 1 } now).2.2.2 then
      let r := goD T S now L { (pullD T S { s with count := s.count + 1 } now).1 with throws := true, next := lawD S (s.count + 1) s.next } y
      (r.1, x :: r.2.1, r.2.2.1, r.2.2.2)
    else ({ (pullD T S { s with count := s.count + 1 } now).1 with throws := false }, [x], y, true)
/-- It begins to throw away. -/
def beginD (S : Int) (s : DlS) (now : Int) : DlS :=
  let c := if 2 < s.count ∧ now - s.next < 16 * S then s.count - 2 else 1
  { s with throws := true, count := c, next := lawD S c now }
/-- One is taken. -/
def takeD (T S : Int) (s : DlS) (now : Int) : DlS × List Hd × Hd × Bool :=
  let p := pullD T S s now
  if p.2.2.2 = false then ({ p.1 with throws := false }, [], p.2.1, p.2.2.1)
  else if p.1.throws then goD T S now p.1.L p.1 p.2.1
  else
    let r := pullD T S p.1 now
    (beginD S r.1 now, [p.2.1], r.2.1, r.2.2.1)
end Go.Proofs.YtfakjedolecdcaaGreatDoor
namespace Go.Proofs.YtfakjedolecdcaaGreatDoor
open Go.RowKit Go.Extern.Stop Go.Stop Go.Extern

set_option maxHeartbeats 1000000 in
theorem root_any (n : Nat) (w : World) (h1 : 1 ≤ n) (h2 : n ≤ 4000000000000000000) :
    Calls Tryz.prog 159 #[.int .i64 n] w fun e w' => e = .returned (.int .i64 (rtN n)) ∧ w' = w := by
  go_enter Tryz.func159, Tryz.ntmps159
  go_wp2
  go_loopw [3] (fun g wr => ∃ k : Nat, rtN n ≤ k ∧ k ≤ n ∧ g = .int .i64 k ∧ wr = w) (fun g _ => (intOf g).toNat)
  case atStart => exact ⟨n, rtN_le n, Nat.le_refl _, rfl, rfl⟩
  case round =>
    obtain ⟨k, hk1, hk2, rfl, rfl⟩ := hrel
    have hk : 1 ≤ k := Nat.le_trans (rtN_pos h1) hk1
    have hz : ((k : Int) == 0) = false := by simp; omega
    obtain ⟨q, hq⟩ : ∃ q, n / k = q := ⟨_, rfl⟩
    have hd : q ≤ n := by rw [← hq]; exact Nat.div_le_self n k
    have e1 : (n : Int) / (k : Int) = (q : Int) := by rw [← hq]; exact (Int.natCast_ediv n k).symm
    have HG : Hid (rtN n ≤ (k + q) / 2) := by have := newton_ge hk (rtN_spec n).1; rw [hq] at this; exact this
    have HE : Hid (k ≤ (k + q) / 2 → k = rtN n) := by intro h; rw [← hq] at h; exact newton_end hk h hk1
    clear hq
    by_cases hlt : (k + q) / 2 < k
    · go_wp2
      go_roundw
      case rel => exact ⟨(k + q) / 2, HG.out, by omega, by go_num, by first | rfl | trivial⟩
      case measure => simp [intOf]; omega
    · go_wp2
      go_ret
      exact ⟨by rw [← HE.out (by omega)]; rfl, rfl⟩
/-- A Delay in block b: its Fifo's room P and R, its Target T and Span S. -/
def dmore (T S : Int) (s : DlS) : List Value := [.int .i64 T, .int .i64 S, .bool s.late, .int .i64 s.dl, .bool s.throws, .int .i64 s.count, .int .i64 s.next]
def DAt (w : World) (b : Nat) (P R T S : Int) (v : Value) (s : DlS) : Prop := LAt w b 154 (frest P R false (dmore T S s)) v s.L
theorem DAt.cells {w : World} {b : Nat} {P R T S : Int} {v : Value} {s : DlS} (h : DAt w b P R T S v s) : (w.cell? ⟨b, 5, none⟩ = some (.int .i64 T) ∧ w.cell? ⟨b, 6, none⟩ = some (.int .i64 S) ∧ w.cell? ⟨b, 7, none⟩ = some (.bool s.late) ∧ w.cell? ⟨b, 8, none⟩ = some (.int .i64 s.dl) ∧ w.cell? ⟨b, 9, none⟩ = some (.bool s.throws) ∧ w.cell? ⟨b, 10, none⟩ = some (.int .i64 s.count) ∧ w.cell? ⟨b, 11, none⟩ = some (.int .i64 s.next)) ∧
    w.frozen? ⟨b, 7, none⟩ = false ∧ w.frozen? ⟨b, 8, none⟩ = false ∧ w.frozen? ⟨b, 9, none⟩ = false ∧ w.frozen? ⟨b, 10, none⟩ = false ∧ w.frozen? ⟨b, 11, none⟩ = false :=
  ⟨⟨(LAt.cell h rfl).1, (LAt.cell h rfl).1, (LAt.cell h rfl).1, (LAt.cell h rfl).1, (LAt.cell h rfl).1, (LAt.cell h rfl).1, (LAt.cell h rfl).1⟩, (LAt.cell h (i := 7) rfl).2, (LAt.cell h (i := 8) rfl).2, (LAt.cell h (i := 9) rfl).2, (LAt.cell h (i := 10) rfl).2, (LAt.cell h (i := 11) rfl).2⟩
theorem root_pos (n : Int) (h : 1 ≤ n) : 1 ≤ rtN (1000000 * n).toNat := rtN_pos (by omega)
set_option maxHeartbeats 1000000 in
theorem law_any {b : Nat} {P R T S : Int} {v : Value} {s : DlS} (t : Int) (w : World) (h : DAt w b P R T S v s) (hS : 0 ≤ S) (hS1 : S ≤ 1000000) (hc : 1 ≤ s.count) (hc1 : s.count ≤ 1000000) (ht : 0 ≤ t) (ht1 : t ≤ 1000000000000000) :
    Calls Tryz.prog 158 #[.pointer (some ⟨b, 0, none⟩), .int .i64 t] w fun e w' => e = .returned (.int .i64 (lawD S s.count t)) ∧ ∃ q, w' = w.drewN q := by
  have hb := LAt.lt h
  obtain ⟨⟨c5, c6, c7, c8, c9, c10, c11⟩, f7, f8, f9, f10, f11⟩ := h.cells
  clear h
  obtain ⟨n, hn⟩ : ∃ n : Nat, (1000000 * s.count).toNat = n := ⟨_, rfl⟩
  have hn1 : IntKind.i64.wrap (1000000 * s.count) = (n : Int) := by rw [IntKind.wrap_i64]; omega
  have HL : Hid (lawD S s.count t = t + (S * 1000) / (rtN n : Int)) := by show _ = _; rw [lawD, hn]
  have hnb : 1 ≤ n ∧ n ≤ 4000000000000000000 := by omega
  obtain ⟨r, hr⟩ : ∃ r, rtN n = r := ⟨_, rfl⟩
  have hrp : 1 ≤ r := by rw [← hr]; exact rtN_pos hnb.1
  have HQ := fun W => root_any n W hnb.1 hnb.2
  rw [hr] at HQ
  have hz : ((r : Int) == 0) = false := by simp; omega
  obtain ⟨q, hq⟩ : ∃ q : Int, (S * 1000) / (r : Int) = q := ⟨_, rfl⟩
  have hq0 : 0 ≤ q ∧ q ≤ 1000000000 := by
    rw [← hq]
    exact ⟨Int.ediv_nonneg (by omega) (by omega), Int.le_trans (Int.ediv_le_self _ (by omega)) (by omega)⟩
  rw [HL.out, hr, hq]
  clear HL hn hr hnb
  go_enter Tryz.func158, Tryz.ntmps158
  go_wp2
  go_quiet (first | (go_at_call 159; exact Calls.quiet_of_same (HQ _)))
  go_wp2
  go_ret
  exact ⟨rfl, _, rfl⟩
end Go.Proofs.YtfakjedolecdcaaGreatDoor
