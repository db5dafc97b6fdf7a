/-
  package plant: a Red that a text tells, or an error, whatever stands there. Conditions: as for numbers; errors.errorType is laid; the tape lies in memory.
  package plant: a Shaper that a text tells, or an error, whatever stands there. Conditions: as for queues in parentheses.
  package plant: Bands that a text tells, or an error, whatever stands there. Conditions: as for queues in parentheses.
-/
import Derived.Test.YtfakjedolecdcaaGreatDoorU39
import Derived.Test.YtfakjedolecdcaaGreatDoorU21
import Derived.Test.YtfakjedolecdcaaGreatDoorU23
namespace Go.Proofs.YtfakjedolecdcaaGreatDoor
open Go.RowKit Go.Extern.Stop Go.Stop Go.Extern
variable {E : Prop}
theorem cellAt_lt {w : World} {a : Addr} {v : Value} (h : w.cell? a = some v) : a.block < w.heap.size := World.block_lt_of_cell? _ _ h
set_option maxRecDepth 20000 in
set_option maxHeartbeats 2000000 in
theorem red_gen {b : Nat} {n : Nat} {k0 : Int} {px : Option Addr} {m pcap : Nat} {fn : Nat → Int} {v : Value} {L : List (List UInt8 × Nat)} (f : List UInt8 × Nat) (w : World) (h : RdAt w b 65 n [.slice px m pcap, .int .i64 k0] v L) (hB : ∀ w', Ot (fun k => k = b) w w' → Glob w' ∧ Laid w') (hn : ∀ x ∈ L, x.1.length ≤ 2000) (hI : ∀ w', Ot (fun k => k = b) w w' → IRow w' px m fn) (hpn : px = none → m = 0 ∧ pcap = 0) (hm : m ≤ 1000) :
    Calls Tryz.prog 32 #[.pointer (some ⟨b, 0, none⟩), .agg #[.string ⟨f.1.toArray⟩, .int .i64 f.2]] w fun e w' => QkR E 1 w w' b n [.slice px m pcap, .int .i64 k0] v L e := by
  have HNS : Hid (∀ w1, Ot (fun k => k = b) w w1 → RdAt w1 b 65 n [.slice px m pcap, .int .i64 k0] v L → Calls Tryz.prog 45 #[.pointer (some ⟨b, 0, none⟩), .int .i64 6] w1 fun e w' => ∃ u ev, e = .returned (.tuple #[u, ev]) ∧ (∃ L', RdL w1 w' b n [.slice px m pcap, .int .i64 k0] v L L') ∧ ((ev = .nilIface ∧ ∃ (zs : List Int), zs.length = 6 ∧ Seg w' 3 1 u 6 (zs.map (Value.int .i64)) ∧ (∀ k, u.ownBlock = some k → w1.heap.size ≤ k)) ∨ (u = .slice none 0 0 ∧ ∃ B, ev = errV B))) := by
    intro w1 ho hr
    refine (numbers_gen (m := 6) w1 hr (fun w' h' => (hB w' (ho.trans h')).1) hn (by decide)).mono ?_
    rintro e w' ⟨hl, ⟨u, zs, rfl, h1, h2, h3⟩ | ⟨B, rfl⟩⟩
    · exact ⟨_, _, rfl, hl, Or.inl ⟨rfl, zs, h1, h2, h3⟩⟩
    · exact ⟨_, _, rfl, hl, Or.inr ⟨rfl, B, rfl⟩⟩
  have H : Hid (RdAt w b 65 n [.slice px m pcap, .int .i64 k0] v L) := h
  have HL : Hid (∀ w', Ot (fun k => k = b) w w' → Laid w') := fun w' h' => (hB w' h').2
  have hb := h.lt
  have HIR : Hid (∀ w', Ot (fun k => k = b) w w' → IRow w' px m fn) := hI
  have HPN : Hid (px = none → m = 0 ∧ pcap = 0) := hpn
  have HM : Hid (m ≤ 1000) := hm
  clear h hB hn hI hpn hm
  go_enter Tryz.func32, Tryz.ntmps32
  go_wp2_with fail
  refine (HNS.out _ ((Ot.refl _ _).alloc _) (H.out.below (below_alloc_ (Below.refl _ _) _))).mono ?_
  rintro e w1 ⟨u, ev, rfl, ⟨L', v', hr1, hv1, hin1, ho1⟩, hcase⟩
  have HR1 : Hid (RdAt w1 b 65 n [.slice px m pcap, .int .i64 k0] v' L') := hr1
  have HV1 : Hid (v'.ownBlock = v.ownBlock) := hv1
  have HI1 : Hid (∀ y ∈ L', y ∈ L) := hin1
  have HO1 : Hid (Ot (fun k => k = b) w w1) := ((Ot.refl _ _).alloc _).trans ho1
  have hbx : w1.heap[w.heap.size]? = some (.cells #[.string ⟨f.1.toArray⟩, .int .i64 f.2] 60 (0, 0)) := (ho1.block w.heap.size (by simp) (by omega)).trans (new_block _ _)
  have HBX : Hid (w1.heap[w.heap.size]? = some (.cells #[.string ⟨f.1.toArray⟩, .int .i64 f.2] 60 (0, 0))) := hbx
  rcases hcase with ⟨rfl, zs, hz, hs1, hn1⟩ | ⟨rfl, B, rfl⟩
  · obtain ⟨lo, hi, of, sl, P, R, rfl⟩ : ∃ lo hi of sl P R, zs = [lo, hi, of, sl, P, R] := by
      match zs, hz with
      | [lo, hi, of, sl, P, R], _ => exact ⟨lo, hi, of, sl, P, R, rfl⟩
    obtain ⟨g, off, cap, rfl, hg1, hg2, hg3, hgc⟩ := hs1.some (by decide)
    have c0 : w1.cell? ⟨g, off, none⟩ = some (.int .i64 lo) := hgc 0 _ rfl
    have c1 : w1.cell? ⟨g, off + 1, none⟩ = some (.int .i64 hi) := hgc 1 _ rfl
    have c2 : w1.cell? ⟨g, off + 2, none⟩ = some (.int .i64 of) := hgc 2 _ rfl
    have c3 : w1.cell? ⟨g, off + 3, none⟩ = some (.int .i64 sl) := hgc 3 _ rfl
    have c4 : w1.cell? ⟨g, off + 4, none⟩ = some (.int .i64 P) := hgc 4 _ rfl
    have c5 : w1.cell? ⟨g, off + 5, none⟩ = some (.int .i64 R) := hgc 5 _ rfl
    have b0 : w1.cell? ⟨w.heap.size, 0, none⟩ = some (.string ⟨f.1.toArray⟩) := by simp [World.cell?, hbx]
    have b1 : w1.cell? ⟨w.heap.size, 1, none⟩ = some (.int .i64 f.2) := by simp [World.cell?, hbx]
    have hbl := lt_of_block hbx
    obtain ⟨mk, hmk⟩ : ∃ mk : Bool, (f.1 == [109, 97, 114, 107]) = mk := ⟨_, rfl⟩
    have HNF : Hid (∀ w2, Ot (fun k => k = b) w w2 → Calls Tryz.prog 47 #[.agg #[.int .i64 lo, .int .i64 hi, .int .i64 of, .int .i64 sl, .bool mk], .int .i64 P, .int .i64 R, .slice px m pcap] w2 fun e w' => ∃ qv ev, e = .returned (.tuple #[.pointer qv, ev]) ∧ Hid (Below w2.heap.size w2 w') ∧ ((ev = .nilIface ∧ ∃ q, qv = some ⟨q, 0, none⟩ ∧ Hid (Qk E 1 w2 w' (.returned (.tuple #[.iface 116 (.pointer (some ⟨q, 0, none⟩)), .nilIface])))) ∨ ∃ c, ev = .iface 57 (.int .i64 c))) := fun w2 ho => newRed_gen ⟨lo, hi, of, sl, mk⟩ P R w2 (HIR.out w2 ho) HPN.out HM.out
    clear hs1 hgc hbx hr1 hv1 ho1 hn1 HNS hz hin1
    have HCW : Hid (∀ W, Below w1.heap.size w1 W → W.cell? ⟨g, off, none⟩ = some (.int .i64 lo) ∧ W.cell? ⟨g, off + 1, none⟩ = some (.int .i64 hi) ∧ W.cell? ⟨g, off + 2, none⟩ = some (.int .i64 of) ∧ W.cell? ⟨g, off + 3, none⟩ = some (.int .i64 sl) ∧ W.cell? ⟨w.heap.size, 0, none⟩ = some (.string ⟨f.1.toArray⟩)) := fun W hb => ⟨(hb.cell (p := ⟨g, off, none⟩) hg3).trans c0, (hb.cell (p := ⟨g, off + 1, none⟩) hg3).trans c1, (hb.cell (p := ⟨g, off + 2, none⟩) hg3).trans c2, (hb.cell (p := ⟨g, off + 3, none⟩) hg3).trans c3, (hb.cell (p := ⟨w.heap.size, 0, none⟩) hbl).trans b0⟩
    go_wp2_with fail
    go_cut [8] (fun sv wx => Hid (Below w1.heap.size w1 wx) ∧ ∃ S, sv = .pointer (some ⟨S, 0, none⟩) ∧ Hid (wx.heap[S]? = some (.cells #[.int .i64 lo, .int .i64 hi, .int .i64 of, .int .i64 sl, .bool mk] 115 (0, 0))))
    case first =>
      go_region_held3 (fun W => W.cell? ⟨g, off, none⟩ = some (.int .i64 lo) ∧ W.cell? ⟨g, off + 1, none⟩ = some (.int .i64 hi) ∧ W.cell? ⟨g, off + 2, none⟩ = some (.int .i64 of) ∧ W.cell? ⟨g, off + 3, none⟩ = some (.int .i64 sl) ∧ W.cell? ⟨w.heap.size, 0, none⟩ = some (.string ⟨f.1.toArray⟩))
        ((refine HCW.out _ ?_; (repeat (first | (with_reducible exact Below.refl _ _) | (with_reducible refine Below.drew ?_) | (refine Below.setCell ?_ (by exact Nat.le_refl _) _) | (with_reducible refine below_alloc_ ?_ _)))))
        (fail)
      all_goals go_wp2
      all_goals go_meet
      all_goals (try rw [hmk])
      all_goals exact ⟨(below_alloc_ (Below.refl _ _) _).drew, _, rfl, new_block _ _⟩
    case rest =>
    obtain ⟨hbs, S, rfl, hS⟩ := hcut
    generalize wc = ws at *
    have HBS : Hid (Below w1.heap.size w1 ws) := hbs.out
    have hsv := hS.out
    have s0 : ws.cell? ⟨S, 0, none⟩ = some (.int .i64 lo) := by simp [World.cell?, hsv]
    have s1 : ws.cell? ⟨S, 1, none⟩ = some (.int .i64 hi) := by simp [World.cell?, hsv]
    have s2 : ws.cell? ⟨S, 2, none⟩ = some (.int .i64 of) := by simp [World.cell?, hsv]
    have s3 : ws.cell? ⟨S, 3, none⟩ = some (.int .i64 sl) := by simp [World.cell?, hsv]
    have s4 : ws.cell? ⟨S, 4, none⟩ = some (.bool mk) := by simp [World.cell?, hsv]
    have hgl : g < w1.heap.size := hg3
    have d4 : ws.cell? ⟨g, off + 4, none⟩ = some (.int .i64 P) := (HBS.out.cell (p := ⟨g, off + 4, none⟩) hgl).trans c4
    have d5 : ws.cell? ⟨g, off + 5, none⟩ = some (.int .i64 R) := (HBS.out.cell (p := ⟨g, off + 5, none⟩) hgl).trans c5
    have hrb := (HR1.out.below HBS.out).blk
    have r3 : ws.cell? ⟨b, 3, none⟩ = some (.slice px m pcap) := by simp [World.cell?, hrb]
    have HCZ : Hid (∀ W, Below ws.heap.size ws W → W.cell? ⟨S, 0, none⟩ = some (.int .i64 lo) ∧ W.cell? ⟨S, 1, none⟩ = some (.int .i64 hi) ∧ W.cell? ⟨S, 2, none⟩ = some (.int .i64 of) ∧ W.cell? ⟨S, 3, none⟩ = some (.int .i64 sl) ∧ W.cell? ⟨S, 4, none⟩ = some (.bool mk) ∧ W.cell? ⟨g, off + 4, none⟩ = some (.int .i64 P) ∧ W.cell? ⟨g, off + 5, none⟩ = some (.int .i64 R) ∧ W.cell? ⟨b, 3, none⟩ = some (.slice px m pcap)) := fun W hb => ⟨(hb.cell (p := ⟨S, 0, none⟩) (cellAt_lt s0)).trans s0, (hb.cell (p := ⟨S, 1, none⟩) (cellAt_lt s1)).trans s1, (hb.cell (p := ⟨S, 2, none⟩) (cellAt_lt s2)).trans s2, (hb.cell (p := ⟨S, 3, none⟩) (cellAt_lt s3)).trans s3, (hb.cell (p := ⟨S, 4, none⟩) (cellAt_lt s4)).trans s4, (hb.cell (p := ⟨g, off + 4, none⟩) (cellAt_lt d4)).trans d4, (hb.cell (p := ⟨g, off + 5, none⟩) (cellAt_lt d5)).trans d5, (hb.cell (p := ⟨b, 3, none⟩) (cellAt_lt r3)).trans r3⟩
    have HOS : Hid (Ot (fun k => k = b) w ws) := HO1.out.trans (Ot.of_below HBS.out)
    clear hsv hrb b0 b1 c0 c1 c2 c3 c4 c5 hbs hS
    go_wp2_with fail
    go_cut [9, 7] (fun qv ev wx => Hid (Below w1.heap.size w1 wx) ∧ ((ev = .nilIface ∧ ∃ q, qv = .pointer (some ⟨q, 0, none⟩) ∧ Hid (Qk E 1 w1 wx (.returned (.tuple #[.iface 116 (.pointer (some ⟨q, 0, none⟩)), .nilIface])))) ∨ ∃ c qq, ev = .iface 57 (.int .i64 c) ∧ qv = .pointer qq))
    case first =>
      go_region_held3 (fun W => W.cell? ⟨S, 0, none⟩ = some (.int .i64 lo) ∧ W.cell? ⟨S, 1, none⟩ = some (.int .i64 hi) ∧ W.cell? ⟨S, 2, none⟩ = some (.int .i64 of) ∧ W.cell? ⟨S, 3, none⟩ = some (.int .i64 sl) ∧ W.cell? ⟨S, 4, none⟩ = some (.bool mk) ∧ W.cell? ⟨g, off + 4, none⟩ = some (.int .i64 P) ∧ W.cell? ⟨g, off + 5, none⟩ = some (.int .i64 R) ∧ W.cell? ⟨b, 3, none⟩ = some (.slice px m pcap))
        (first | (with_reducible exact HCZ.out _ HW2.out) | (with_reducible exact HCZ.out _ (Below.refl _ _).drew) | (with_reducible exact HCZ.out _ (Below.refl _ _)))
        ((go_at_call 47; refine (HNF.out _ ?_).mono ?_; exact HOS.out.trans (Ot.of_below (Below.refl _ _).drew); rintro e w2 ⟨qv, ev, rfl, hb2, hq2⟩; have HW2 : Hid (Below ws.heap.size ws w2) := ⟨hb2.out.os, hb2.out.tape, hb2.out.output, hb2.out.size, hb2.out.block⟩))
      all_goals go_wp2_with fail
      all_goals go_meet
      all_goals refine ⟨HBS.out.trans (Below.mono ⟨hb2.out.os, hb2.out.tape, hb2.out.output, hb2.out.size, hb2.out.block⟩ HBS.out.size), ?_⟩
      all_goals rcases hq2 with ⟨rfl, q, rfl, hq⟩ | ⟨c, rfl⟩
      all_goals first
        | exact Or.inl ⟨rfl, q, rfl, hq.out.mono HBS.out.size⟩
        | exact Or.inr ⟨c, qv, rfl, rfl⟩
    case rest =>
    obtain ⟨hbc, hq⟩ := hcut
    clear d4 d5 s0 s1 s2 s3 s4 r3
    generalize wc = w2 at *
    have hbx : w2.heap[w.heap.size]? = some (.cells #[.string ⟨f.1.toArray⟩, .int .i64 f.2] 60 (0, 0)) := (hbc.out.block _ hbl).trans HBX.out
    have b0 : w2.cell? ⟨w.heap.size, 0, none⟩ = some (.string ⟨f.1.toArray⟩) := by simp [World.cell?, hbx]
    have b1 : w2.cell? ⟨w.heap.size, 1, none⟩ = some (.int .i64 f.2) := by simp [World.cell?, hbx]
    have hbl2 := lt_of_block hbx
    have HO2 : Hid (Ot (fun k => k = b) w w2) := HO1.out.trans (Ot.of_below hbc.out)
    have HR2 : Hid (RdAt w2 b 65 n [.slice px m pcap, .int .i64 k0] v' L') := HR1.out.below hbc.out
    clear hbx
    rcases hq with ⟨rfl, q, rfl, hq⟩ | ⟨c, qq, rfl, rfl⟩
    · go_wp2_with (go_at_call 46; refine (made_yes f _ _).mono ?_; rintro e w3 ⟨rfl, hb3⟩)
      go_ret2
      exact ⟨(hq.out.mono HO1.out.size).below hb3, L', v', HR2.out.below hb3, HV1.out, HI1.out, HO2.out.trans (Ot.of_below hb3)⟩
    · go_wp2_with (go_at_call 46; refine (made_no f _ c _ (HL.out _ HO2.out)).mono ?_; rintro e w3 ⟨B, rfl, hb3⟩)
      go_ret2
      exact ⟨Or.inl ⟨B, rfl⟩, L', v', HR2.out.below hb3, HV1.out, HI1.out, HO2.out.trans (Ot.of_below hb3)⟩
  · clear hbx hr1 hv1 ho1 HNS hin1
    unfold errV
    go_wp2
    (try simp only [Exit.inBlock, Exit.then])
    go_ret2
    exact ⟨Or.inl ⟨B, rfl⟩, L', v', HR1.out, HV1.out, HI1.out, HO1.out⟩
end Go.Proofs.YtfakjedolecdcaaGreatDoor
namespace Go.Proofs.YtfakjedolecdcaaGreatDoor
open Go.RowKit Go.Extern.Stop Go.Stop Go.Extern
variable {E : Prop}

/-- shaper.New over some queue. -/
theorem newShaper_gen {M : QM} {cont : M.σ → List (Int × Int)} {kk : Nat} {s0 : M.σ} {F : Nat → Prop} (n t R : Int) (w : World) (hM : M.Inn cont kk) (hE : ¬ E) (hI : M.inv 0 0 s0) (hc : cont s0 = []) (ha : M.At w F s0) :
    Calls Tryz.prog 52 #[.agg #[.int .i64 n, .int .i64 t, .int .i64 R], .iface M.ty M.rv] w fun e w' => ∃ qv ev, e = .returned (.tuple #[.pointer qv, ev]) ∧ Hid (Below w.heap.size w w') ∧ ((ev = .nilIface ∧ ∃ q, qv = some ⟨q, 0, none⟩ ∧ Hid (∀ w0 : World, w0.heap.size ≤ w.heap.size → (∀ k, F k → w0.heap.size ≤ k) → Qk E (kk + 1) w0 w' (.returned (.tuple #[.iface 131 (.pointer (some ⟨q, 0, none⟩)), .nilIface])))) ∨ ∃ c, ev = .iface 57 (.int .i64 c)) := by
  by_cases hb : okB n t R
  · refine (snew_yes n t R M.ty M.rv w hb).mono ?_
    rintro e w' ⟨B, rfl, hB, hst, hbl⟩
    refine ⟨_, _, rfl, hbl, Or.inl ⟨rfl, B, rfl, fun w0 h0 hF => ?_⟩⟩
    have hl := hM.fine.low ha
    have hR : 0 ≤ R * t := Int.mul_nonneg hb.2.2.1 (by have := hb.2.1; omega)
    refine Or.inr ⟨ShaperGM M cont B n t R, conG cont, ⟨s0, R * t, 0, none, []⟩, sgF B F (.slice none 0 0), rfl, shaperGM_fine hM B hb, (shaperGM_late hM B n t R).noE hE, shaperGM_tame hM B n t R, ⟨hI, hR, Int.le_refl _, Int.le_refl _, Int.le_refl _, by simp [conG, hc], fun x hx => by simp [conG, hc] at hx⟩, by simp [conG, hc], ⟨F, hd0, .slice none 0 0, ⟨hst, hM.fine.kept ha (fun k hk => hbl.block k (hl k hk)), fun hk => by have := hl B hk; omega, fun x hx => by simp at hx, Hs.nil _, fun k e => by simp [Value.ownBlock] at e⟩, fun _ => Iff.rfl⟩, ?_⟩
    rintro k (rfl | hk | hk)
    · omega
    · exact hF k hk
    · simp [Value.ownBlock] at hk
  · refine (snew_no n t R M.ty M.rv w hb).mono ?_
    rintro e w' ⟨rfl, hbl⟩
    exact ⟨_, _, rfl, hbl, Or.inr ⟨_, rfl⟩⟩
set_option maxRecDepth 20000 in
set_option maxHeartbeats 4000000 in
theorem shape_gen {b n : Nat} {px : Option Addr} {m pcap : Nat} {fn : Nat → Int} {ar : Int} {k : Nat} {v : Value} {L : List (List UInt8 × Nat)} (f : List UInt8 × Nat) (w : World) (hQ : QueueC E b n px m pcap fn ar) (h : RdAt w b 65 n [.slice px m pcap, .int .i64 ((k + 1 : Nat) : Int)] v L) (hE : EnvB b px m fn w) (hL : LsOk E L) (hk : k + 1 ≤ 20) (hne : ¬ E) :
    Calls Tryz.prog 36 #[.pointer (some ⟨b, 0, none⟩), .agg #[.string ⟨f.1.toArray⟩, .int .i64 f.2], .int .i64 ar] w fun e w' => QkB E w w' b n (.slice px m pcap) k v L e := by
  obtain ⟨tv, htv⟩ : ∃ tv, Value.slice px m pcap = tv := ⟨_, rfl⟩
  have HNS : Hid (∀ w1, Ot (fun k => k = b) w w1 → RdAt w1 b 65 n [tv, .int .i64 ((k + 1 : Nat) : Int)] v L → Calls Tryz.prog 45 #[.pointer (some ⟨b, 0, none⟩), .int .i64 3] w1 fun e w' => ∃ u ev, e = .returned (.tuple #[u, ev]) ∧ (∃ L', RdL w1 w' b n [tv, .int .i64 ((k + 1 : Nat) : Int)] v L L') ∧ ((ev = .nilIface ∧ ∃ (zs : List Int), zs.length = 3 ∧ Seg w' 3 1 u 3 (zs.map (Value.int .i64)) ∧ (∀ k, u.ownBlock = some k → w1.heap.size ≤ k)) ∨ (u = .slice none 0 0 ∧ ∃ B, ev = errV B))) := by
    intro w1 ho hr
    refine (numbers_gen (m := 3) w1 hr (fun w' h' => (hE w' (ho.trans h')).1) (fun x hx => (hL x hx).1) (by decide)).mono ?_
    rintro e w' ⟨hl, ⟨u, zs, rfl, h1, h2, h3⟩ | ⟨B, rfl⟩⟩
    · exact ⟨_, _, rfl, hl, Or.inl ⟨rfl, zs, h1, h2, h3⟩⟩
    · exact ⟨_, _, rfl, hl, Or.inr ⟨rfl, B, rfl⟩⟩
  have HQ : Hid (∀ (v1 : Value) (L1 : List (List UInt8 × Nat)) (w1 : World), RdAt w1 b 65 n [tv, .int .i64 ((k + 1 : Nat) : Int)] v1 L1 → Ot (fun k => k = b) w w1 → (∀ y ∈ L1, y ∈ L) → Calls Tryz.prog 19 #[.pointer (some ⟨b, 0, none⟩), .int .i64 ar] w1 fun e w' => QkB E w1 w' b n tv (k + 1) v1 L1 e) := by
    intro v1 L1 w1 h1 h2 h3
    rw [← htv] at h1 ⊢
    exact hQ (k + 1) v1 L1 w1 h1 (hE.ot h2) (hL.sub h3) hk
  rw [htv] at h ⊢
  have H : Hid (RdAt w b 65 n [tv, .int .i64 ((k + 1 : Nat) : Int)] v L) := h
  have HL : Hid (∀ w', Ot (fun k => k = b) w w' → Laid w') := fun w' h' => (hE w' h').2.1
  have HKK : Hid (k + 1 ≤ 20) := hk
  have HNE : Hid (¬ E) := hne
  have hb := h.lt
  clear h hE hL hQ hk htv hne
  go_enter Tryz.func36, Tryz.ntmps36
  go_wp2_with fail
  refine (HNS.out _ ((Ot.refl _ _).alloc _) (H.out.below (below_alloc_ (Below.refl _ _) _))).mono ?_
  rintro e w1 ⟨u, ev, rfl, ⟨L', v', hr1, hv1, hin1, ho1⟩, hcase⟩
  have HR1 : Hid (RdAt w1 b 65 n [tv, .int .i64 ((k + 1 : Nat) : Int)] v' L') := hr1
  have HV1 : Hid (v'.ownBlock = v.ownBlock) := hv1
  have HI1 : Hid (∀ y ∈ L', y ∈ L) := hin1
  have HO1 : Hid (Ot (fun k => k = b) w w1) := ((Ot.refl _ _).alloc _).trans ho1
  have hbx : w1.heap[w.heap.size]? = some (.cells #[.string ⟨f.1.toArray⟩, .int .i64 f.2] 60 (0, 0)) := (ho1.block w.heap.size (by simp) (by omega)).trans (new_block _ _)
  have HBX : Hid (w1.heap[w.heap.size]? = some (.cells #[.string ⟨f.1.toArray⟩, .int .i64 f.2] 60 (0, 0))) := hbx
  have HBL : Hid (w.heap.size < w1.heap.size) := lt_of_block hbx
  rcases hcase with ⟨rfl, zs, hz, hs1, hn1⟩ | ⟨rfl, B, rfl⟩
  · obtain ⟨P, T, R, rfl⟩ : ∃ P T R, zs = [P, T, R] := by
      match zs, hz with
      | [P, T, R], _ => exact ⟨P, T, R, rfl⟩
    obtain ⟨g, off, cap, rfl, hg1, hg2, hg3, hgc⟩ := hs1.some (by decide)
    have hgb : w.heap.size + 1 ≤ g := by have := hn1 g rfl; simpa using this
    have HC0 : Hid (w1.cell? ⟨g, off, none⟩ = some (.int .i64 P)) := hgc 0 _ rfl
    have HC1 : Hid (w1.cell? ⟨g, off + 1, none⟩ = some (.int .i64 T)) := hgc 1 _ rfl
    have HC2 : Hid (w1.cell? ⟨g, off + 2, none⟩ = some (.int .i64 R)) := hgc 2 _ rfl
    clear hs1 hgc hbx hr1 hv1 ho1 hn1 HNS hz hin1
    go_wp2_with fail
    refine (HQ.out _ _ _ HR1.out HO1.out HI1.out).mono ?_
    rintro e w2 ⟨m1, L2, v2, hqk, hm1, hk2, hr2, hv2, hin2, ho2⟩
    have HO12 : Hid (Ot (fun k => k = b) w1 w2) := ho2
    have HO2 : Hid (Ot (fun k => k = b) w w2) := HO1.out.trans ho2
    have HR2 : Hid (RdAt w2 b 65 n [tv, .int .i64 ((k + 1 + m1 : Nat) : Int)] v2 L2) := hr2
    have HV2 : Hid (v2.ownBlock = v.ownBlock) := hv2.trans HV1.out
    have HI2 : Hid (∀ y ∈ L2, y ∈ L) := fun y hy => HI1.out y (hin2 y hy)
    have HM1 : Hid (1 ≤ m1) := hm1
    have HK2 : Hid (k + 1 + m1 ≤ 20 ∨ ∃ B, e = .returned (.tuple #[.nilIface, errV B])) := hk2
    have HKE : Hid (k + 1 + m1 = k + (m1 + 1)) := by show _ = _; omega
    clear ho2 hr2 hv2 hin2 hm1 hk2
    rcases hqk with ⟨B, rfl⟩ | ⟨M, cont, s0, F, rfl, hM, hK, hT, hinv, hc, hat, hF⟩
    · unfold errV
      clear HK2
      go_wp2
      (try simp only [Exit.inBlock, Exit.then])
      go_ret2
      exact ⟨m1 + 1, L2, v2, Or.inl ⟨B, rfl⟩, by omega, Or.inr ⟨B, rfl⟩, by rw [← HKE.out]; exact HR2.out, HV2.out, HI2.out, HO2.out⟩
    · have HK3 : Hid (k + 1 + m1 ≤ 20) := by
        rcases HK2.out with h | ⟨B, h⟩
        · exact h
        · simp [errV] at h
      have HIN : Hid (M.Inn cont m1) := ⟨hM, hK.weak, hT, by have := HK3.out; omega⟩
      have HAT : Hid (M.At w2 F s0) := hat
      have HF : Hid (∀ k, F k → w1.heap.size ≤ k) := hF
      have HNI : Hid (M.inv 0 0 s0 ∧ cont s0 = []) := ⟨hinv, hc⟩
      have c0 : w2.cell? ⟨g, off, none⟩ = some (.int .i64 P) := (HO12.out.cell (p := ⟨g, off, none⟩) hg3 (by show ¬ g = b; omega)).trans HC0.out
      have c1 : w2.cell? ⟨g, off + 1, none⟩ = some (.int .i64 T) := (HO12.out.cell (p := ⟨g, off + 1, none⟩) hg3 (by show ¬ g = b; omega)).trans HC1.out
      have c2 : w2.cell? ⟨g, off + 2, none⟩ = some (.int .i64 R) := (HO12.out.cell (p := ⟨g, off + 2, none⟩) hg3 (by show ¬ g = b; omega)).trans HC2.out
      have hgl2 := cellAt_lt c0
      have HCW : Hid (∀ W, Below w2.heap.size w2 W → W.cell? ⟨g, off, none⟩ = some (.int .i64 P) ∧ W.cell? ⟨g, off + 1, none⟩ = some (.int .i64 T) ∧ W.cell? ⟨g, off + 2, none⟩ = some (.int .i64 R)) := fun W hb => ⟨(hb.cell (p := ⟨g, off, none⟩) hgl2).trans c0, (hb.cell (p := ⟨g, off + 1, none⟩) hgl2).trans c1, (hb.cell (p := ⟨g, off + 2, none⟩) hgl2).trans c2⟩
      clear hM hK hT hinv hc hat hF HK2
      go_wp2_with fail
      go_cut [11] (fun sv wx => Hid (Below w2.heap.size w2 wx) ∧ ∃ S, sv = .pointer (some ⟨S, 0, none⟩) ∧ Hid (wx.heap[S]? = some (.cells #[.int .i64 P, .int .i64 T, .int .i64 R] 130 (0, 0))))
      case first =>
        go_region_held3 (fun W => W.cell? ⟨g, off, none⟩ = some (.int .i64 P) ∧ W.cell? ⟨g, off + 1, none⟩ = some (.int .i64 T) ∧ W.cell? ⟨g, off + 2, none⟩ = some (.int .i64 R))
          ((refine HCW.out _ ?_; (repeat (first | (with_reducible exact Below.refl _ _) | (with_reducible refine Below.drew ?_) | (refine Below.setCell ?_ (by exact Nat.le_refl _) _) | (with_reducible refine below_alloc_ ?_ _)))))
          (fail)
        all_goals go_wp2
        all_goals go_meet
        all_goals exact ⟨(below_alloc_ (Below.refl _ _) _).drew, _, rfl, new_block _ _⟩
      case rest =>
      obtain ⟨hbs, S, rfl, hS⟩ := hcut
      generalize wc = ws at *
      have HBS : Hid (Below w2.heap.size w2 ws) := hbs.out
      have hsv := hS.out
      have t0 : ws.cell? ⟨S, 0, none⟩ = some (.int .i64 P) := by simp [World.cell?, hsv]
      have t1 : ws.cell? ⟨S, 1, none⟩ = some (.int .i64 T) := by simp [World.cell?, hsv]
      have t2 : ws.cell? ⟨S, 2, none⟩ = some (.int .i64 R) := by simp [World.cell?, hsv]
      have HNF : Hid (Calls Tryz.prog 52 #[.agg #[.int .i64 P, .int .i64 T, .int .i64 R], .iface M.ty M.rv] ws fun e w' => ∃ qv ev, e = .returned (.tuple #[.pointer qv, ev]) ∧ Hid (Below ws.heap.size ws w') ∧ ((ev = .nilIface ∧ ∃ q, qv = some ⟨q, 0, none⟩ ∧ Hid (∀ w0 : World, w0.heap.size ≤ ws.heap.size → (∀ k, F k → w0.heap.size ≤ k) → Qk E (m1 + 1) w0 w' (.returned (.tuple #[.iface 131 (.pointer (some ⟨q, 0, none⟩)), .nilIface])))) ∨ ∃ c, ev = .iface 57 (.int .i64 c))) :=
        newShaper_gen P T R ws HIN.out HNE.out HNI.out.1 HNI.out.2 (HIN.out.fine.kept HAT.out (fun k hk => HBS.out.block k (HIN.out.fine.low HAT.out k hk)))
      clear hsv hS hbs c0 c1 c2
      go_wp2_with fail
      refine HNF.out.mono ?_
      rintro e w3 ⟨qv, ev, rfl, hb3, hq3⟩
      have HB3 : Hid (Below w2.heap.size w2 w3) := HBS.out.trans (Below.mono hb3.out HBS.out.size)
      have HO3 : Hid (Ot (fun k => k = b) w w3) := HO2.out.trans (Ot.of_below HB3.out)
      have hbx3 : w3.heap[w.heap.size]? = some (.cells #[.string ⟨f.1.toArray⟩, .int .i64 f.2] 60 (0, 0)) := ((HB3.out.block _ (by have := HBL.out; have := HO12.out.size; omega)).trans (HO12.out.block _ HBL.out (by show ¬ w.heap.size = b; omega))).trans HBX.out
      have b0 : w3.cell? ⟨w.heap.size, 0, none⟩ = some (.string ⟨f.1.toArray⟩) := by simp [World.cell?, hbx3]
      have b1 : w3.cell? ⟨w.heap.size, 1, none⟩ = some (.int .i64 f.2) := by simp [World.cell?, hbx3]
      have hbl3 := lt_of_block hbx3
      have HR3 : Hid (RdAt w3 b 65 n [tv, .int .i64 ((k + (m1 + 1) : Nat) : Int)] v2 L2) := by rw [← HKE.out]; exact HR2.out.below HB3.out
      have HWS : Hid (w.heap.size ≤ ws.heap.size) := by have := HBS.out.size; have := HO2.out.size; show _ ≤ _; omega
      clear hbx3 hb3 t0 t1 t2
      rcases hq3 with ⟨rfl, q, rfl, hq⟩ | ⟨c, rfl⟩
      · have HQK : Hid (Qk E (m1 + 1) w w3 (.returned (.tuple #[.iface 131 (.pointer (some ⟨q, 0, none⟩)), .nilIface]))) := hq.out w HWS.out (fun k hk => by have := HF.out k hk; have := HO1.out.size; omega)
        clear hq
        go_wp2_with (go_at_call 46; refine (made_yes f _ _).mono ?_; rintro e w4 ⟨rfl, hb4⟩)
        go_ret2
        exact ⟨m1 + 1, L2, v2, HQK.out.below hb4, by omega, Or.inl (by have := HK3.out; omega), HR3.out.below hb4, HV2.out, HI2.out, HO3.out.trans (Ot.of_below hb4)⟩
      · go_wp2_with (go_at_call 46; refine (made_no f _ c _ (HL.out _ HO3.out)).mono ?_; rintro e w4 ⟨B, rfl, hb4⟩)
        go_ret2
        exact ⟨m1 + 1, L2, v2, Or.inl ⟨B, rfl⟩, by omega, Or.inl (by have := HK3.out; omega), HR3.out.below hb4, HV2.out, HI2.out, HO3.out.trans (Ot.of_below hb4)⟩
  · clear hbx hr1 hv1 ho1 HNS hin1
    unfold errV
    go_wp2
    (try simp only [Exit.inBlock, Exit.then])
    go_ret2
    exact ⟨1, L', v', Or.inl ⟨B, rfl⟩, Nat.le_refl _, Or.inl HKK.out, HR1.out, HV1.out, HI1.out, HO1.out⟩
end Go.Proofs.YtfakjedolecdcaaGreatDoor
namespace Go.Proofs.YtfakjedolecdcaaGreatDoor
open Go.RowKit Go.Extern.Stop Go.Stop Go.Extern
variable {E : Prop}

/-- What is so of bands of such queues. -/
theorem GqR.qk {w w1 w2 : World} {b : Nat} {qs : List AQ} {N B g goff gcap : Nat} {vv : Value} (h : GqR E w b qs vv w1) (hN : qs.length = N) (hN1 : 1 ≤ N) (hN8 : N ≤ 8) (hk : aqK qs ≤ 20) (hb : Below w1.heap.size w1 w2) (hblk : w2.heap[B]? = some (.cells #[.slice (some ⟨g, goff, none⟩) N gcap] 176 (0, 0))) (hrow : QRowAt w2 g goff N (fun i => ((aqQ qs i).ty, (aqQ qs i).rv))) (hg : w1.heap.size ≤ g) (hgB : g < B) : Qk E (aqK qs + 1) w w2 (.returned (.tuple #[.iface 137 (.pointer (some ⟨B, 0, none⟩)), .nilIface])) := by
  subst hN
  have hok : ∀ i, i < qs.length → (qs.getD i noAQ).Ok E := fun i hi => h.ok _ (getD_mem hi)
  have hws := h.ot.size
  have hS := bands_small (Q := aqQ qs) (N := qs.length) (k := fun i => (qs.getD i noAQ).k) (fun i hi => (hok i hi).fine) (fun i hi => (hok i hi).tame) hk hN1 hN8
  refine Or.inr ⟨BandsM (aqQ qs) qs.length B g goff gcap, contL (Q := aqQ qs) (fun i => (qs.getD i noAQ).cont) qs.length, (fun i => (qs.getD i noAQ).s0), foot qs.length B g (fun i => (qs.getD i noAQ).F), rfl, bandsM_fine hS, bands_late _ (fun i hi => (hok i hi).late) hN1, (bands_tame (k := fun i => (qs.getD i noAQ).k) (fun i hi => (hok i hi).tame)).le (Nat.le_succ _), fun i hi => (hok i hi).inv, ?_, ⟨_, h.bat rfl hb hblk hrow hg hgB, fun _ => Iff.rfl⟩, ?_⟩
  · show (List.range qs.length).flatMap _ = []
    rw [List.flatMap_eq_nil_iff]
    intro i hi
    exact (hok i (List.mem_range.1 hi)).emp
  · rintro k (rfl | rfl | ⟨i, hi, hk⟩)
    · omega
    · omega
    · exact (h.new _ (getD_mem hi) k hk).1
set_option maxRecDepth 20000 in
set_option maxHeartbeats 4000000 in
theorem bands_gen {b n : Nat} {px : Option Addr} {m pcap : Nat} {fn : Nat → Int} {ar : Int} {k : Nat} {v : Value} {L : List (List UInt8 × Nat)} (f : List UInt8 × Nat) (w : World) (hQ : QueueC E b n px m pcap fn ar) (h : RdAt w b 65 n [.slice px m pcap, .int .i64 ((k + 1 : Nat) : Int)] v L) (hE : EnvB b px m fn w) (hL : LsOk E L) (hk : k + 1 ≤ 20) :
    Calls Tryz.prog 37 #[.pointer (some ⟨b, 0, none⟩), .agg #[.string ⟨f.1.toArray⟩, .int .i64 f.2], .int .i64 ar] w fun e w' => QkB E w w' b n (.slice px m pcap) k v L e := by
  obtain ⟨tv, htv⟩ : ∃ tv, Value.slice px m pcap = tv := ⟨_, rfl⟩
  have hb := h.lt
  have HQS : Hid (∀ w1, Below w.heap.size w w1 → Calls Tryz.prog 53 #[.pointer (some ⟨b, 0, none⟩), .int .i64 ar] w1 fun e w' => ∃ vv ev, e = .returned (.tuple #[vv, ev]) ∧ QsB E w1 w' b n tv k v L vv ev) := by
    intro w1 h1
    rw [← htv]
    exact queues_gen w1 hQ (h.below h1) (hE.ot (Ot.of_below h1)) hL hk
  have HL : Hid (∀ w', Ot (fun k => k = b) w w' → Laid w') := fun w' h' => (hE w' h').2.1
  rw [htv]
  clear h hE hL hQ hk htv
  go_enter Tryz.func37, Tryz.ntmps37
  go_wp2_with fail
  refine (HQS.out _ (below_alloc_ (Below.refl _ _) _)).mono ?_
  rintro e w1 ⟨vv, ev, rfl, k1, L1, v1, hr1, hv1, hin1, ho1, hk1, hcase⟩
  have HR1 : Hid (RdAt w1 b 65 n [tv, .int .i64 (k1 : Int)] v1 L1) := hr1
  have HV1 : Hid (v1.ownBlock = v.ownBlock) := hv1
  have HI1 : Hid (∀ y ∈ L1, y ∈ L) := hin1
  have HO1 : Hid (Ot (fun k => k = b) w w1) := ((Ot.refl _ _).alloc _).trans ho1
  have hbx : w1.heap[w.heap.size]? = some (.cells #[.string ⟨f.1.toArray⟩, .int .i64 f.2] 60 (0, 0)) := (ho1.block w.heap.size (by simp) (by omega)).trans (new_block _ _)
  have HBX : Hid (w1.heap[w.heap.size]? = some (.cells #[.string ⟨f.1.toArray⟩, .int .i64 f.2] 60 (0, 0))) := hbx
  have hbl1 := lt_of_block hbx
  have HK1 : Hid (k + 1 ≤ k1 ∧ k + (k1 - k) = k1) := ⟨hk1, by omega⟩
  clear hr1 hv1 hin1 ho1 hk1
  rcases hcase with ⟨B, rfl, rfl⟩ | ⟨rfl, qs, hq1, hke, hk20, hN1⟩
  · clear hbx
    unfold errV
    go_wp2
    (try simp only [Exit.inBlock, Exit.then])
    go_ret2
    exact ⟨k1 - k, L1, v1, Or.inl ⟨B, rfl⟩, by have := HK1.out; omega, Or.inr ⟨B, rfl⟩, by rw [HK1.out.2]; exact HR1.out, HV1.out, HI1.out, HO1.out⟩
  · obtain ⟨N, hN⟩ : ∃ N, qs.length = N := ⟨_, rfl⟩
    rw [hN] at hN1
    have hrow := hq1.row
    rw [hN] at hrow
    obtain ⟨g1, go1, gc1, rfl, _, _, hgl1, _⟩ := hrow.some (by omega)
    have hge := aqK_ge (qs := qs) (fun q hq => (hq1.ok q hq).one)
    have HRW : Hid (QRowAt w1 g1 go1 N (fun i => ((aqQ qs i).ty, (aqQ qs i).rv))) := by rw [← hN]; exact hq1.rowAt
    have HQ1 : Hid (GqR E (w.alloc (.cells #[.string ⟨f.1.toArray⟩, .int .i64 f.2] 60)) b qs (.slice (some ⟨g1, go1, none⟩) N gc1) w1) := hq1
    have HN : Hid (qs.length = N) := hN
    have HKE : Hid (k1 = k + (aqK qs + 1) ∧ aqK qs ≤ 20 ∧ k1 ≤ 20) := ⟨by omega, by omega, hk20⟩
    have hN20 : N ≤ 20 := by omega
    clear hq1 hke hk20 hrow hge hN
    by_cases hN8 : N ≤ 8
    · clear hbx
      go_wp2_with fail
      refine (newBands_yes w1 HRW.out hN1 hN8 hgl1).mono ?_
      rintro e w2 ⟨B, g, goff, gcap, rfl, hblk, hrow2, hg2, hgB, hb2⟩
      have HQK : Hid (Qk E (aqK qs + 1) w w2 (.returned (.tuple #[.iface 137 (.pointer (some ⟨B, 0, none⟩)), .nilIface]))) := (HQ1.out.qk HN.out hN1 hN8 HKE.out.2.1 hb2 hblk hrow2 hg2 hgB).mono (by simp)
      have HB2 : Hid (Below w1.heap.size w1 w2) := hb2
      have hbx2 : w2.heap[w.heap.size]? = some (.cells #[.string ⟨f.1.toArray⟩, .int .i64 f.2] 60 (0, 0)) := (hb2.block w.heap.size hbl1).trans HBX.out
      have b0 : w2.cell? ⟨w.heap.size, 0, none⟩ = some (.string ⟨f.1.toArray⟩) := by simp [World.cell?, hbx2]
      have b1 : w2.cell? ⟨w.heap.size, 1, none⟩ = some (.int .i64 f.2) := by simp [World.cell?, hbx2]
      have hbl2 := lt_of_block hbx2
      clear hblk hrow2 hb2 hbx2 hg2 hgB
      go_wp2_with (go_at_call 46; refine (made_yes f _ _).mono ?_; rintro e w3 ⟨rfl, hb3⟩)
      go_ret2
      exact ⟨aqK qs + 1, L1, v1, HQK.out.below hb3, by omega, Or.inl (by have := HKE.out; omega), by rw [← HKE.out.1]; exact (HR1.out.below HB2.out).below hb3, HV1.out, HI1.out, (HO1.out.trans (Ot.of_below HB2.out)).trans (Ot.of_below hb3)⟩
    · have b0 : w1.cell? ⟨w.heap.size, 0, none⟩ = some (.string ⟨f.1.toArray⟩) := by simp [World.cell?, hbx]
      have b1 : w1.cell? ⟨w.heap.size, 1, none⟩ = some (.int .i64 f.2) := by simp [World.cell?, hbx]
      clear hbx
      go_wp2_with (first | (go_at_call 54; refine (newBands_limit w1 (Or.inr (by omega)) (by omega)).mono ?_; rintro e w2 ⟨rfl, hw2⟩; subst hw2) | (go_at_call 46; refine (made_no f _ _ _ (HL.out _ HO1.out)).mono ?_; rintro e w3 ⟨B, rfl, hb3⟩))
      go_ret2
      exact ⟨aqK qs + 1, L1, v1, Or.inl ⟨B, rfl⟩, by omega, Or.inl (by have := HKE.out; omega), by rw [← HKE.out.1]; exact HR1.out.below hb3, HV1.out, HI1.out, HO1.out.trans (Ot.of_below hb3)⟩
end Go.Proofs.YtfakjedolecdcaaGreatDoor
