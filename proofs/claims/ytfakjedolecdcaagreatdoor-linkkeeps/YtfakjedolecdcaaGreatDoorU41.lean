/-
  package plant: a Fifo that a text tells, or an error, whatever stands there. Conditions: as for numbers; errors.errorType is laid.
  package plant: a Delay that a text tells, or an error, whatever stands there. Conditions: as for numbers; errors.errorType is laid.
  package plant: a Hashed that a text tells, or an error, whatever stands there. Conditions: as for numbers; errors.errorType is laid.
  plant.Parse, whatever the text: an error, or some queue, where its reader of a queue leaves either. Conditions: the text and the tape are not too long.
-/
import Derived.Test.YtfakjedolecdcaaGreatDoorU37
import Derived.Test.YtfakjedolecdcaaGreatDoorU25
import Derived.Test.YtfakjedolecdcaaGreatDoorU34
import Derived.Test.YtfakjedolecdcaaGreatDoorU17
namespace Go.Proofs.YtfakjedolecdcaaGreatDoor
open Go.RowKit Go.Extern.Stop Go.Stop Go.Extern
variable {E : Prop}

theorem fifo_tame (q : Nat) (P R : Int) (hd : Bool) : (FifoM q P R hd).Tame 1 :=
  (fifo_keeps q P R hd).tame (fun h _ hn => ⟨Nat.le_trans h.1 hn, h.2⟩) (fun h => ⟨h.1, fun x hx => by have := ok_len (h.2 x hx); omega⟩)
theorem fifo_qk {w0 w' : World} {q : Nat} {P R : Int} {hd : Bool} (h : LAt w' q 110 (frest P R hd []) (.slice none 0 0) []) (hq : w0.heap.size ≤ q) (hP : 0 ≤ P) (hR : 0 ≤ R) (hR1 : R ≤ 1000000) : Qk E 1 w0 w' (.returned (.tuple #[.iface 86 (.pointer (some ⟨q, 0, none⟩)), .nilIface])) :=
  Or.inr ⟨FifoM q P R hd, (fun L => List.map nl L), ([] : List Hd), (· = q), rfl, fifoM_fine q P R hd hP hR hR1, (fifo_keeps q P R hd).late, fifo_tame q P R hd, fifo_inv00 _ _ _ _, rfl, fifo_at0 _ _ _ _ h, fun k hk => by have : k = q := hk; omega⟩
set_option maxHeartbeats 2000000 in
theorem newFifo_gen (P R : Int) (hd : Bool) (w : World) :
    Calls Tryz.prog 27 #[.int .i64 P, .int .i64 R, .bool hd] w fun e w' => ∃ qv ev, e = .returned (.tuple #[.pointer qv, ev]) ∧ Hid (Below w.heap.size w w') ∧ ((ev = .nilIface ∧ ∃ q, qv = some ⟨q, 0, none⟩ ∧ Hid (Qk E 1 w w' (.returned (.tuple #[.iface 86 (.pointer (some ⟨q, 0, none⟩)), .nilIface])))) ∨ ∃ c, ev = .iface 57 (.int .i64 c)) := by
  by_cases h : 0 ≤ P ∧ P ≤ 1000000 ∧ 0 ≤ R ∧ R ≤ 1000000
  · refine (newFifo_yes P R hd w h.1 h.2.1 h.2.2.1 h.2.2.2).mono ?_
    rintro e w' ⟨rfl, hl, rfl⟩
    exact ⟨_, _, rfl, below_alloc_ (Below.refl _ _) _, Or.inl ⟨rfl, _, rfl, fifo_qk hl (Nat.le_refl _) h.1 h.2.2.1 h.2.2.2⟩⟩
  · refine (newFifo_no P R hd w h).mono ?_
    rintro e w' ⟨rfl, rfl⟩
    exact ⟨_, _, rfl, Below.refl _ _, Or.inr ⟨_, rfl⟩⟩
set_option maxRecDepth 20000 in
set_option maxHeartbeats 2000000 in
theorem fifo_gen {b : Nat} {n : Nat} {rest : List Value} {v : Value} {L : List (List UInt8 × Nat)} (f : List UInt8 × Nat) (w : World) (h : RdAt w b 65 n rest v L) (hB : ∀ w', Ot (fun k => k = b) w w' → Glob w' ∧ Laid w') (hn : ∀ x ∈ L, x.1.length ≤ 2000) :
    Calls Tryz.prog 31 #[.pointer (some ⟨b, 0, none⟩), .agg #[.string ⟨f.1.toArray⟩, .int .i64 f.2]] w fun e w' => QkR E 1 w w' b n rest v L e := by
  have HNS : Hid (∀ w1, Ot (fun k => k = b) w w1 → RdAt w1 b 65 n rest v L → Calls Tryz.prog 45 #[.pointer (some ⟨b, 0, none⟩), .int .i64 2] w1 fun e w' => ∃ u ev, e = .returned (.tuple #[u, ev]) ∧ (∃ L', RdL w1 w' b n rest v L L') ∧ ((ev = .nilIface ∧ ∃ (zs : List Int), zs.length = 2 ∧ Seg w' 3 1 u 2 (zs.map (Value.int .i64)) ∧ (∀ k, u.ownBlock = some k → w1.heap.size ≤ k)) ∨ (u = .slice none 0 0 ∧ ∃ B, ev = errV B))) := by
    intro w1 ho hr
    refine (numbers_gen (m := 2) w1 hr (fun w' h' => (hB w' (ho.trans h')).1) hn (by decide)).mono ?_
    rintro e w' ⟨hl, ⟨u, zs, rfl, h1, h2, h3⟩ | ⟨B, rfl⟩⟩
    · exact ⟨_, _, rfl, hl, Or.inl ⟨rfl, zs, h1, h2, h3⟩⟩
    · exact ⟨_, _, rfl, hl, Or.inr ⟨rfl, B, rfl⟩⟩
  have H : Hid (RdAt w b 65 n rest v L) := h
  have HL : Hid (∀ w', Ot (fun k => k = b) w w' → Laid w') := fun w' h' => (hB w' h').2
  have hb := h.lt
  clear h hB hn
  go_enter Tryz.func31, Tryz.ntmps31
  go_wp2_with fail
  refine (HNS.out _ ((Ot.refl _ _).alloc _) (H.out.below (below_alloc_ (Below.refl _ _) _))).mono ?_
  rintro e w1 ⟨u, ev, rfl, ⟨L', v', hr1, hv1, hin1, ho1⟩, hcase⟩
  have HR1 : Hid (RdAt w1 b 65 n rest v' L') := hr1
  have HV1 : Hid (v'.ownBlock = v.ownBlock) := hv1
  have HI1 : Hid (∀ y ∈ L', y ∈ L) := hin1
  have HO1 : Hid (Ot (fun k => k = b) w w1) := ((Ot.refl _ _).alloc _).trans ho1
  have hbx : w1.heap[w.heap.size]? = some (.cells #[.string ⟨f.1.toArray⟩, .int .i64 f.2] 60 (0, 0)) := (ho1.block w.heap.size (by simp) (by omega)).trans (new_block _ _)
  have HBX : Hid (w1.heap[w.heap.size]? = some (.cells #[.string ⟨f.1.toArray⟩, .int .i64 f.2] 60 (0, 0))) := hbx
  rcases hcase with ⟨rfl, zs, hz, hs1, hn1⟩ | ⟨rfl, B, rfl⟩
  · obtain ⟨P, R, rfl⟩ : ∃ P R, zs = [P, R] := by
      match zs, hz with
      | [P, R], _ => exact ⟨P, R, rfl⟩
    obtain ⟨g, off, cap, rfl, hg1, hg2, hg3, hgc⟩ := hs1.some (by decide)
    have c0 : w1.cell? ⟨g, off, none⟩ = some (.int .i64 P) := hgc 0 _ rfl
    have c1 : w1.cell? ⟨g, off + 1, none⟩ = some (.int .i64 R) := hgc 1 _ rfl
    have b0 : w1.cell? ⟨w.heap.size, 0, none⟩ = some (.string ⟨f.1.toArray⟩) := by simp [World.cell?, hbx]
    have b1 : w1.cell? ⟨w.heap.size, 1, none⟩ = some (.int .i64 f.2) := by simp [World.cell?, hbx]
    have hbl := lt_of_block hbx
    have HNF : Hid (∀ w2 hd, Calls Tryz.prog 27 #[.int .i64 P, .int .i64 R, .bool hd] w2 fun e w' => ∃ qv ev, e = .returned (.tuple #[.pointer qv, ev]) ∧ Hid (Below w2.heap.size w2 w') ∧ ((ev = .nilIface ∧ ∃ q, qv = some ⟨q, 0, none⟩ ∧ Hid (Qk E 1 w2 w' (.returned (.tuple #[.iface 86 (.pointer (some ⟨q, 0, none⟩)), .nilIface])))) ∨ ∃ c, ev = .iface 57 (.int .i64 c))) := fun w2 hd => newFifo_gen P R hd w2
    clear hs1 hgc hbx hr1 hv1 ho1 hn1 HNS hz hin1
    go_wp2_with fail
    go_cut [8, 7] (fun qv ev wx => Hid (Below w1.heap.size w1 wx) ∧ ((ev = .nilIface ∧ ∃ q, qv = .pointer (some ⟨q, 0, none⟩) ∧ Hid (Qk E 1 w1 wx (.returned (.tuple #[.iface 86 (.pointer (some ⟨q, 0, none⟩)), .nilIface])))) ∨ ∃ c qq, ev = .iface 57 (.int .i64 c) ∧ qv = .pointer qq))
    case first =>
      go_region_with (go_at_call 27; refine (HNF.out _ _).mono ?_; rintro e w2 ⟨qv, ev, rfl, hb2, hq2⟩)
      all_goals go_wp2_with fail
      all_goals go_meet
      all_goals refine ⟨⟨hb2.out.os, hb2.out.tape, hb2.out.output, hb2.out.size, hb2.out.block⟩, ?_⟩
      all_goals rcases hq2 with ⟨rfl, q, rfl, hq⟩ | ⟨c, rfl⟩
      all_goals first
        | exact Or.inl ⟨rfl, q, rfl, hq.out.mono (Nat.le_refl _)⟩
        | exact Or.inr ⟨c, qv, rfl, rfl⟩
    case rest =>
    obtain ⟨hbc, hq⟩ := hcut
    clear b0 b1 c0 c1
    generalize wc = w2 at *
    have hbx : w2.heap[w.heap.size]? = some (.cells #[.string ⟨f.1.toArray⟩, .int .i64 f.2] 60 (0, 0)) := (hbc.out.block _ hbl).trans HBX.out
    have b0 : w2.cell? ⟨w.heap.size, 0, none⟩ = some (.string ⟨f.1.toArray⟩) := by simp [World.cell?, hbx]
    have b1 : w2.cell? ⟨w.heap.size, 1, none⟩ = some (.int .i64 f.2) := by simp [World.cell?, hbx]
    have hbl2 := lt_of_block hbx
    have HO2 : Hid (Ot (fun k => k = b) w w2) := HO1.out.trans (Ot.of_below hbc.out)
    have HR2 : Hid (RdAt w2 b 65 n rest v' L') := HR1.out.below hbc.out
    clear hbx
    rcases hq with ⟨rfl, q, rfl, hq⟩ | ⟨c, qq, rfl, rfl⟩
    · go_wp2_with (go_at_call 46; refine (made_yes f _ _).mono ?_; rintro e w3 ⟨rfl, hb3⟩)
      go_ret2
      exact ⟨(hq.out.mono HO1.out.size).below hb3, L', v', HR2.out.below hb3, HV1.out, HI1.out, HO2.out.trans (Ot.of_below hb3)⟩
    · go_wp2_with (go_at_call 46; refine (made_no f _ c _ (HL.out _ HO2.out)).mono ?_; rintro e w3 ⟨B, rfl, hb3⟩)
      go_ret2
      exact ⟨Or.inl ⟨B, rfl⟩, L', v', HR2.out.below hb3, HV1.out, HI1.out, HO2.out.trans (Ot.of_below hb3)⟩
  · clear hbx hr1 hv1 ho1 HNS hin1
    unfold errV
    go_wp2
    (try simp only [Exit.inBlock, Exit.then])
    go_ret2
    exact ⟨Or.inl ⟨B, rfl⟩, L', v', HR1.out, HV1.out, HI1.out, HO1.out⟩
end Go.Proofs.YtfakjedolecdcaaGreatDoor
namespace Go.Proofs.YtfakjedolecdcaaGreatDoor
open Go.RowKit Go.Extern.Stop Go.Stop Go.Extern
variable {E : Prop}
theorem delay_tame (q : Nat) (P R T S : Int) : (DelayM q P R T S).Tame 1 :=
  (delay_keeps q P R T S).tame (fun {t t' n n' s} h _ hn => ⟨⟨Nat.le_trans h.1.1 hn, h.1.2⟩, h.2.1, h.2.2.1, by have := h.2.2.2.1; omega, h.2.2.2.2⟩) (fun h => ⟨h.1.1, fun x hx => by have := ok_len (h.1.2 x hx); omega⟩)
theorem delay_qk {w0 w' : World} {q : Nat} {P R T S : Int} (h : DAt w' q P R T S (.slice none 0 0) dl0) (hq : w0.heap.size ≤ q) (hP : 0 ≤ P) (hR : 0 ≤ R) (hR1 : R ≤ 1000000) (hS : 0 ≤ S) (hS1 : S ≤ 1000000) : Qk E 1 w0 w' (.returned (.tuple #[.iface 119 (.pointer (some ⟨q, 0, none⟩)), .nilIface])) :=
  Or.inr ⟨DelayM q P R T S, (fun s => List.map nl (DlS.L s)), dl0, (· = q), rfl, delayM_fine q P R T S hP hR hR1 hS hS1, (delay_keeps q P R T S).late, delay_tame q P R T S, delay_inv0 q P R T S, rfl, newDelay_at h, fun k hk => by have : k = q := hk; omega⟩
set_option maxHeartbeats 2000000 in
theorem newDelay_gen (T S P : Int) (w : World) :
    Calls Tryz.prog 48 #[.int .i64 T, .int .i64 S, .int .i64 P] w fun e w' => ∃ qv ev, e = .returned (.tuple #[.pointer qv, ev]) ∧ Hid (Below w.heap.size w w') ∧ ((ev = .nilIface ∧ ∃ q, qv = some ⟨q, 0, none⟩ ∧ Hid (Qk E 1 w w' (.returned (.tuple #[.iface 119 (.pointer (some ⟨q, 0, none⟩)), .nilIface])))) ∨ ∃ c, ev = .iface 57 (.int .i64 c)) := by
  by_cases h : 0 ≤ P ∧ P ≤ 1000000 ∧ 0 ≤ T ∧ T ≤ 1000000 ∧ 1 ≤ S ∧ S ≤ 1000000
  · refine (newDelay_yes T S P w h.1 h.2.1 h.2.2.1 h.2.2.2.1 h.2.2.2.2.1 h.2.2.2.2.2).mono ?_
    rintro e w' ⟨rfl, hl, hb⟩
    exact ⟨_, _, rfl, hb, Or.inl ⟨rfl, _, rfl, delay_qk hl (by omega) h.1 (by decide) (by decide) (by omega) h.2.2.2.2.2⟩⟩
  · refine (newDelay_no T S P w h).mono ?_
    rintro e w' ⟨rfl, hb⟩
    exact ⟨_, _, rfl, hb, Or.inr ⟨_, rfl⟩⟩
set_option maxRecDepth 20000 in
set_option maxHeartbeats 2000000 in
theorem delay_gen {b : Nat} {n : Nat} {rest : List Value} {v : Value} {L : List (List UInt8 × Nat)} (f : List UInt8 × Nat) (w : World) (h : RdAt w b 65 n rest v L) (hB : ∀ w', Ot (fun k => k = b) w w' → Glob w' ∧ Laid w') (hn : ∀ x ∈ L, x.1.length ≤ 2000) :
    Calls Tryz.prog 33 #[.pointer (some ⟨b, 0, none⟩), .agg #[.string ⟨f.1.toArray⟩, .int .i64 f.2]] w fun e w' => QkR E 1 w w' b n rest v L e := by
  have HNS : Hid (∀ w1, Ot (fun k => k = b) w w1 → RdAt w1 b 65 n rest v L → Calls Tryz.prog 45 #[.pointer (some ⟨b, 0, none⟩), .int .i64 3] w1 fun e w' => ∃ u ev, e = .returned (.tuple #[u, ev]) ∧ (∃ L', RdL w1 w' b n rest v L L') ∧ ((ev = .nilIface ∧ ∃ (zs : List Int), zs.length = 3 ∧ Seg w' 3 1 u 3 (zs.map (Value.int .i64)) ∧ (∀ k, u.ownBlock = some k → w1.heap.size ≤ k)) ∨ (u = .slice none 0 0 ∧ ∃ B, ev = errV B))) := by
    intro w1 ho hr
    refine (numbers_gen (m := 3) w1 hr (fun w' h' => (hB w' (ho.trans h')).1) hn (by decide)).mono ?_
    rintro e w' ⟨hl, ⟨u, zs, rfl, h1, h2, h3⟩ | ⟨B, rfl⟩⟩
    · exact ⟨_, _, rfl, hl, Or.inl ⟨rfl, zs, h1, h2, h3⟩⟩
    · exact ⟨_, _, rfl, hl, Or.inr ⟨rfl, B, rfl⟩⟩
  have H : Hid (RdAt w b 65 n rest v L) := h
  have HL : Hid (∀ w', Ot (fun k => k = b) w w' → Laid w') := fun w' h' => (hB w' h').2
  have hb := h.lt
  clear h hB hn
  go_enter Tryz.func33, Tryz.ntmps33
  go_wp2_with fail
  refine (HNS.out _ ((Ot.refl _ _).alloc _) (H.out.below (below_alloc_ (Below.refl _ _) _))).mono ?_
  rintro e w1 ⟨u, ev, rfl, ⟨L', v', hr1, hv1, hin1, ho1⟩, hcase⟩
  have HR1 : Hid (RdAt w1 b 65 n rest v' L') := hr1
  have HV1 : Hid (v'.ownBlock = v.ownBlock) := hv1
  have HI1 : Hid (∀ y ∈ L', y ∈ L) := hin1
  have HO1 : Hid (Ot (fun k => k = b) w w1) := ((Ot.refl _ _).alloc _).trans ho1
  have hbx : w1.heap[w.heap.size]? = some (.cells #[.string ⟨f.1.toArray⟩, .int .i64 f.2] 60 (0, 0)) := (ho1.block w.heap.size (by simp) (by omega)).trans (new_block _ _)
  have HBX : Hid (w1.heap[w.heap.size]? = some (.cells #[.string ⟨f.1.toArray⟩, .int .i64 f.2] 60 (0, 0))) := hbx
  rcases hcase with ⟨rfl, zs, hz, hs1, hn1⟩ | ⟨rfl, B, rfl⟩
  · obtain ⟨T, S, P, rfl⟩ : ∃ T S P, zs = [T, S, P] := by
      match zs, hz with
      | [T, S, P], _ => exact ⟨T, S, P, rfl⟩
    obtain ⟨g, off, cap, rfl, hg1, hg2, hg3, hgc⟩ := hs1.some (by decide)
    have c0 : w1.cell? ⟨g, off, none⟩ = some (.int .i64 T) := hgc 0 _ rfl
    have c1 : w1.cell? ⟨g, off + 1, none⟩ = some (.int .i64 S) := hgc 1 _ rfl
    have c2 : w1.cell? ⟨g, off + 2, none⟩ = some (.int .i64 P) := hgc 2 _ rfl
    have b0 : w1.cell? ⟨w.heap.size, 0, none⟩ = some (.string ⟨f.1.toArray⟩) := by simp [World.cell?, hbx]
    have b1 : w1.cell? ⟨w.heap.size, 1, none⟩ = some (.int .i64 f.2) := by simp [World.cell?, hbx]
    have hbl := lt_of_block hbx
    have HNF : Hid (∀ w2, Calls Tryz.prog 48 #[.int .i64 T, .int .i64 S, .int .i64 P] w2 fun e w' => ∃ qv ev, e = .returned (.tuple #[.pointer qv, ev]) ∧ Hid (Below w2.heap.size w2 w') ∧ ((ev = .nilIface ∧ ∃ q, qv = some ⟨q, 0, none⟩ ∧ Hid (Qk E 1 w2 w' (.returned (.tuple #[.iface 119 (.pointer (some ⟨q, 0, none⟩)), .nilIface])))) ∨ ∃ c, ev = .iface 57 (.int .i64 c))) := fun w2 => newDelay_gen T S P w2
    clear hs1 hgc hbx hr1 hv1 ho1 hn1 HNS hz hin1
    go_wp2_with fail
    go_cut [8, 7] (fun qv ev wx => Hid (Below w1.heap.size w1 wx) ∧ ((ev = .nilIface ∧ ∃ q, qv = .pointer (some ⟨q, 0, none⟩) ∧ Hid (Qk E 1 w1 wx (.returned (.tuple #[.iface 119 (.pointer (some ⟨q, 0, none⟩)), .nilIface])))) ∨ ∃ c qq, ev = .iface 57 (.int .i64 c) ∧ qv = .pointer qq))
    case first =>
      go_region_with (go_at_call 48; refine (HNF.out _).mono ?_; rintro e w2 ⟨qv, ev, rfl, hb2, hq2⟩)
      all_goals go_wp2_with fail
      all_goals go_meet
      all_goals refine ⟨⟨hb2.out.os, hb2.out.tape, hb2.out.output, hb2.out.size, hb2.out.block⟩, ?_⟩
      all_goals rcases hq2 with ⟨rfl, q, rfl, hq⟩ | ⟨c, rfl⟩
      all_goals first
        | exact Or.inl ⟨rfl, q, rfl, hq.out.mono (Nat.le_refl _)⟩
        | exact Or.inr ⟨c, qv, rfl, rfl⟩
    case rest =>
    obtain ⟨hbc, hq⟩ := hcut
    clear b0 b1 c0 c1 c2
    generalize wc = w2 at *
    have hbx : w2.heap[w.heap.size]? = some (.cells #[.string ⟨f.1.toArray⟩, .int .i64 f.2] 60 (0, 0)) := (hbc.out.block _ hbl).trans HBX.out
    have b0 : w2.cell? ⟨w.heap.size, 0, none⟩ = some (.string ⟨f.1.toArray⟩) := by simp [World.cell?, hbx]
    have b1 : w2.cell? ⟨w.heap.size, 1, none⟩ = some (.int .i64 f.2) := by simp [World.cell?, hbx]
    have hbl2 := lt_of_block hbx
    have HO2 : Hid (Ot (fun k => k = b) w w2) := HO1.out.trans (Ot.of_below hbc.out)
    have HR2 : Hid (RdAt w2 b 65 n rest v' L') := HR1.out.below hbc.out
    clear hbx
    rcases hq with ⟨rfl, q, rfl, hq⟩ | ⟨c, qq, rfl, rfl⟩
    · go_wp2_with (go_at_call 46; refine (made_yes f _ _).mono ?_; rintro e w3 ⟨rfl, hb3⟩)
      go_ret2
      exact ⟨(hq.out.mono HO1.out.size).below hb3, L', v', HR2.out.below hb3, HV1.out, HI1.out, HO2.out.trans (Ot.of_below hb3)⟩
    · go_wp2_with (go_at_call 46; refine (made_no f _ c _ (HL.out _ HO2.out)).mono ?_; rintro e w3 ⟨B, rfl, hb3⟩)
      go_ret2
      exact ⟨Or.inl ⟨B, rfl⟩, L', v', HR2.out.below hb3, HV1.out, HI1.out, HO2.out.trans (Ot.of_below hb3)⟩
  · clear hbx hr1 hv1 ho1 HNS hin1
    unfold errV
    go_wp2
    (try simp only [Exit.inBlock, Exit.then])
    go_ret2
    exact ⟨Or.inl ⟨B, rfl⟩, L', v', HR1.out, HV1.out, HI1.out, HO1.out⟩
end Go.Proofs.YtfakjedolecdcaaGreatDoor
namespace Go.Proofs.YtfakjedolecdcaaGreatDoor
open Go.RowKit Go.Extern.Stop Go.Stop Go.Extern
variable {E : Prop}
def HaC.OkP (p : HaC) : Prop := (1 ≤ p.many ∧ p.many ≤ 64) ∧ (0 ≤ p.salt ∧ p.salt ≤ 1000000) ∧ 1 ≤ p.room ∧ p.room ≤ 1000000
theorem newHa_noP (p : HaC) (w : World) (h : ¬ p.OkP) : Calls Tryz.prog 49 #[.int .i64 p.many, .int .i64 p.salt, .int .i64 p.room] w fun e w' => e = .returned (.tuple #[.pointer none, .iface 57 (.int .i64 2)]) ∧ w' = w := by
  have h' : p.many < 1 ∨ 64 < p.many ∨ p.salt < 0 ∨ 1000000 < p.salt ∨ p.room < 1 ∨ 1000000 < p.room := by
    unfold HaC.OkP at h
    omega
  clear h
  rcases Int.lt_or_le p.many 1 with h1 | h1
  · clear h'
    go_enter Tryz.func49, Tryz.ntmps49
    go_wp2
    go_ret2
    exact ⟨rfl, rfl⟩
  rcases Int.lt_or_le 64 p.many with h2 | h2
  · clear h'
    go_enter Tryz.func49, Tryz.ntmps49
    go_wp2
    go_ret2
    exact ⟨rfl, rfl⟩
  rcases Int.lt_or_le p.salt 0 with h3 | h3
  · clear h'
    go_enter Tryz.func49, Tryz.ntmps49
    go_wp2
    go_ret2
    exact ⟨rfl, rfl⟩
  rcases Int.lt_or_le 1000000 p.salt with h4 | h4
  · clear h'
    go_enter Tryz.func49, Tryz.ntmps49
    go_wp2
    go_ret2
    exact ⟨rfl, rfl⟩
  rcases Int.lt_or_le p.room 1 with h5 | h5
  · clear h'
    go_enter Tryz.func49, Tryz.ntmps49
    go_wp2
    go_ret2
    exact ⟨rfl, rfl⟩
  have h6 : 1000000 < p.room := by omega
  clear h'
  go_enter Tryz.func49, Tryz.ntmps49
  go_wp2
  go_ret2
  exact ⟨rfl, rfl⟩
set_option maxRecDepth 20000 in
theorem hash_tame (q : Nat) (p : HaC) (h0 : 1 ≤ p.many) (h1 : p.many ≤ 64) : (HashM q p).Tame 1 :=
  (hash_keeps q p h0 h1).tame (fun {t t' n n' s} h _ hn => ⟨h.1, Nat.le_trans h.2.1 hn, fun f hf => ⟨(h.2.2 f hf).1, fun x hx => by have := (h.2.2 f hf).2 x hx; omega⟩⟩) (fun h => ⟨h.2.1, fun x hx => by
    obtain ⟨f, hf, hx⟩ := allF_mem hx
    have := ok_len (h.1.ok f hf x hx).1; omega⟩)
theorem hashed_qk {w0 w' : World} {q : Nat} {p : HaC} {C : Nat → Value} (h : HaP w' q p C (fun _ => .slice none 0 0) (.slice none 0 0) ha0) (hq : w0.heap.size ≤ q) (hm : 1 ≤ p.many ∧ p.many ≤ 64) (hs : 0 ≤ p.salt ∧ p.salt ≤ 1000000) : Qk E 1 w0 w' (.returned (.tuple #[.iface 122 (.pointer (some ⟨q, 0, none⟩)), .nilIface])) :=
  Or.inr ⟨HashM q p, (fun s => List.map nl (allF s.fl 64)), ha0, HaF q (fun _ => .slice none 0 0) (.slice none 0 0), rfl, hashM_fine q p hm.1 hm.2 hs.1 hs.2, (hash_keeps q p hm.1 hm.2).late, hash_tame q p hm.1 hm.2, ⟨HaI.zero p, Nat.le_refl _, by simp [SH, ha0]⟩, rfl, ⟨C, _, _, h, fun k => Iff.rfl⟩, fun k hk => by
    rcases hk with rfl | ⟨f, _, hk⟩ | hk
    · exact hq
    · simp [Value.ownBlock] at hk
    · simp [Value.ownBlock] at hk⟩
set_option maxHeartbeats 2000000 in
theorem newHashed_gen (a b c : Int) (w : World) :
    Calls Tryz.prog 49 #[.int .i64 a, .int .i64 b, .int .i64 c] w fun e w' => ∃ qv ev, e = .returned (.tuple #[.pointer qv, ev]) ∧ Hid (Below w.heap.size w w') ∧ ((ev = .nilIface ∧ ∃ q, qv = some ⟨q, 0, none⟩ ∧ Hid (Qk E 1 w w' (.returned (.tuple #[.iface 122 (.pointer (some ⟨q, 0, none⟩)), .nilIface])))) ∨ ∃ c, ev = .iface 57 (.int .i64 c)) := by
  by_cases h : (HaC.mk a b c).OkP
  · refine (newHa_yes ⟨a, b, c⟩ w h.1.1 h.1.2 h.2.1.1 h.2.1.2 h.2.2.1 h.2.2.2).mono ?_
    rintro e w' ⟨rfl, C, hl, hb⟩
    exact ⟨_, _, rfl, hb, Or.inl ⟨rfl, _, rfl, hashed_qk hl (Nat.le_refl _) h.1 h.2.1⟩⟩
  · refine (newHa_noP ⟨a, b, c⟩ w h).mono ?_
    rintro e w' ⟨rfl, rfl⟩
    exact ⟨_, _, rfl, Below.refl _ _, Or.inr ⟨_, rfl⟩⟩
set_option maxRecDepth 20000 in
set_option maxHeartbeats 2000000 in
theorem hashed_gen {b : Nat} {n : Nat} {rest : List Value} {v : Value} {L : List (List UInt8 × Nat)} (f : List UInt8 × Nat) (w : World) (h : RdAt w b 65 n rest v L) (hB : ∀ w', Ot (fun k => k = b) w w' → Glob w' ∧ Laid w') (hn : ∀ x ∈ L, x.1.length ≤ 2000) :
    Calls Tryz.prog 34 #[.pointer (some ⟨b, 0, none⟩), .agg #[.string ⟨f.1.toArray⟩, .int .i64 f.2]] w fun e w' => QkR E 1 w w' b n rest v L e := by
  have HNS : Hid (∀ w1, Ot (fun k => k = b) w w1 → RdAt w1 b 65 n rest v L → Calls Tryz.prog 45 #[.pointer (some ⟨b, 0, none⟩), .int .i64 3] w1 fun e w' => ∃ u ev, e = .returned (.tuple #[u, ev]) ∧ (∃ L', RdL w1 w' b n rest v L L') ∧ ((ev = .nilIface ∧ ∃ (zs : List Int), zs.length = 3 ∧ Seg w' 3 1 u 3 (zs.map (Value.int .i64)) ∧ (∀ k, u.ownBlock = some k → w1.heap.size ≤ k)) ∨ (u = .slice none 0 0 ∧ ∃ B, ev = errV B))) := by
    intro w1 ho hr
    refine (numbers_gen (m := 3) w1 hr (fun w' h' => (hB w' (ho.trans h')).1) hn (by decide)).mono ?_
    rintro e w' ⟨hl, ⟨u, zs, rfl, h1, h2, h3⟩ | ⟨B, rfl⟩⟩
    · exact ⟨_, _, rfl, hl, Or.inl ⟨rfl, zs, h1, h2, h3⟩⟩
    · exact ⟨_, _, rfl, hl, Or.inr ⟨rfl, B, rfl⟩⟩
  have H : Hid (RdAt w b 65 n rest v L) := h
  have HL : Hid (∀ w', Ot (fun k => k = b) w w' → Laid w') := fun w' h' => (hB w' h').2
  have hb := h.lt
  clear h hB hn
  go_enter Tryz.func34, Tryz.ntmps34
  go_wp2_with fail
  refine (HNS.out _ ((Ot.refl _ _).alloc _) (H.out.below (below_alloc_ (Below.refl _ _) _))).mono ?_
  rintro e w1 ⟨u, ev, rfl, ⟨L', v', hr1, hv1, hin1, ho1⟩, hcase⟩
  have HR1 : Hid (RdAt w1 b 65 n rest v' L') := hr1
  have HV1 : Hid (v'.ownBlock = v.ownBlock) := hv1
  have HI1 : Hid (∀ y ∈ L', y ∈ L) := hin1
  have HO1 : Hid (Ot (fun k => k = b) w w1) := ((Ot.refl _ _).alloc _).trans ho1
  have hbx : w1.heap[w.heap.size]? = some (.cells #[.string ⟨f.1.toArray⟩, .int .i64 f.2] 60 (0, 0)) := (ho1.block w.heap.size (by simp) (by omega)).trans (new_block _ _)
  have HBX : Hid (w1.heap[w.heap.size]? = some (.cells #[.string ⟨f.1.toArray⟩, .int .i64 f.2] 60 (0, 0))) := hbx
  rcases hcase with ⟨rfl, zs, hz, hs1, hn1⟩ | ⟨rfl, B, rfl⟩
  · obtain ⟨x1, x2, x3, rfl⟩ : ∃ x1 x2 x3, zs = [x1, x2, x3] := by
      match zs, hz with
      | [x1, x2, x3], _ => exact ⟨x1, x2, x3, rfl⟩
    obtain ⟨g, off, cap, rfl, hg1, hg2, hg3, hgc⟩ := hs1.some (by decide)
    have c0 : w1.cell? ⟨g, off, none⟩ = some (.int .i64 x1) := hgc 0 _ rfl
    have c1 : w1.cell? ⟨g, off + 1, none⟩ = some (.int .i64 x2) := hgc 1 _ rfl
    have c2 : w1.cell? ⟨g, off + 2, none⟩ = some (.int .i64 x3) := hgc 2 _ rfl
    have b0 : w1.cell? ⟨w.heap.size, 0, none⟩ = some (.string ⟨f.1.toArray⟩) := by simp [World.cell?, hbx]
    have b1 : w1.cell? ⟨w.heap.size, 1, none⟩ = some (.int .i64 f.2) := by simp [World.cell?, hbx]
    have hbl := lt_of_block hbx
    have HNF : Hid (∀ w2, Calls Tryz.prog 49 #[.int .i64 x1, .int .i64 x2, .int .i64 x3] w2 fun e w' => ∃ qv ev, e = .returned (.tuple #[.pointer qv, ev]) ∧ Hid (Below w2.heap.size w2 w') ∧ ((ev = .nilIface ∧ ∃ q, qv = some ⟨q, 0, none⟩ ∧ Hid (Qk E 1 w2 w' (.returned (.tuple #[.iface 122 (.pointer (some ⟨q, 0, none⟩)), .nilIface])))) ∨ ∃ c, ev = .iface 57 (.int .i64 c))) := fun w2 => newHashed_gen x1 x2 x3 w2
    clear hs1 hgc hbx hr1 hv1 ho1 hn1 HNS hz hin1
    go_wp2_with fail
    go_cut [8, 7] (fun qv ev wx => Hid (Below w1.heap.size w1 wx) ∧ ((ev = .nilIface ∧ ∃ q, qv = .pointer (some ⟨q, 0, none⟩) ∧ Hid (Qk E 1 w1 wx (.returned (.tuple #[.iface 122 (.pointer (some ⟨q, 0, none⟩)), .nilIface])))) ∨ ∃ c qq, ev = .iface 57 (.int .i64 c) ∧ qv = .pointer qq))
    case first =>
      go_region_with (go_at_call 49; refine (HNF.out _).mono ?_; rintro e w2 ⟨qv, ev, rfl, hb2, hq2⟩)
      all_goals go_wp2_with fail
      all_goals go_meet
      all_goals refine ⟨⟨hb2.out.os, hb2.out.tape, hb2.out.output, hb2.out.size, hb2.out.block⟩, ?_⟩
      all_goals rcases hq2 with ⟨rfl, q, rfl, hq⟩ | ⟨c, rfl⟩
      all_goals first
        | exact Or.inl ⟨rfl, q, rfl, hq.out.mono (Nat.le_refl _)⟩
        | exact Or.inr ⟨c, qv, rfl, rfl⟩
    case rest =>
    obtain ⟨hbc, hq⟩ := hcut
    clear b0 b1 c0 c1 c2
    generalize wc = w2 at *
    have hbx : w2.heap[w.heap.size]? = some (.cells #[.string ⟨f.1.toArray⟩, .int .i64 f.2] 60 (0, 0)) := (hbc.out.block _ hbl).trans HBX.out
    have b0 : w2.cell? ⟨w.heap.size, 0, none⟩ = some (.string ⟨f.1.toArray⟩) := by simp [World.cell?, hbx]
    have b1 : w2.cell? ⟨w.heap.size, 1, none⟩ = some (.int .i64 f.2) := by simp [World.cell?, hbx]
    have hbl2 := lt_of_block hbx
    have HO2 : Hid (Ot (fun k => k = b) w w2) := HO1.out.trans (Ot.of_below hbc.out)
    have HR2 : Hid (RdAt w2 b 65 n rest v' L') := HR1.out.below hbc.out
    clear hbx
    rcases hq with ⟨rfl, q, rfl, hq⟩ | ⟨c, qq, rfl, rfl⟩
    · go_wp2_with (go_at_call 46; refine (made_yes f _ _).mono ?_; rintro e w3 ⟨rfl, hb3⟩)
      go_ret2
      exact ⟨(hq.out.mono HO1.out.size).below hb3, L', v', HR2.out.below hb3, HV1.out, HI1.out, HO2.out.trans (Ot.of_below hb3)⟩
    · go_wp2_with (go_at_call 46; refine (made_no f _ c _ (HL.out _ HO2.out)).mono ?_; rintro e w3 ⟨B, rfl, hb3⟩)
      go_ret2
      exact ⟨Or.inl ⟨B, rfl⟩, L', v', HR2.out.below hb3, HV1.out, HI1.out, HO2.out.trans (Ot.of_below hb3)⟩
  · clear hbx hr1 hv1 ho1 HNS hin1
    unfold errV
    go_wp2
    (try simp only [Exit.inBlock, Exit.then])
    go_ret2
    exact ⟨Or.inl ⟨B, rfl⟩, L', v', HR1.out, HV1.out, HI1.out, HO1.out⟩
end Go.Proofs.YtfakjedolecdcaaGreatDoor
namespace Go.Proofs.YtfakjedolecdcaaGreatDoor
open Go.RowKit Go.Extern.Stop Go.Stop Go.Extern
variable {E : Prop}

/-- What the reader of a queue leaves: so many queues have begun by then. -/
def QkQ (E : Prop) (w w' : World) (b n : Nat) (tv : Value) (v : Value) (L : List (List UInt8 × Nat)) (e : Ending) : Prop := Qk E 20 w w' e ∧ ∃ k1 L', ∃ v', RdAt w' b 65 n [tv, .int .i64 k1] v' L' ∧ v'.ownBlock = v.ownBlock ∧ (∀ y ∈ L', y ∈ L) ∧ Ot (fun k => k = b) w w'
set_option maxRecDepth 20000 in
set_option maxHeartbeats 4000000 in
theorem parse_of (s : ByteArray) {px : Option Addr} {m pcap : Nat} (w : World) (hs : s.size ≤ 2000) (hm : m ≤ 1000)
    (hq : ∀ w1 b v, w.heap.size ≤ b → Below w.heap.size w w1 → RdAt w1 b 65 s.size [.slice px m pcap, .int .i64 0] v (signsL [32, 40, 41, 44] s.data.toList 0) → Calls Tryz.prog 19 #[.pointer (some ⟨b, 0, none⟩), .int .i64 0] w1 fun e w' => QkQ E w1 w' b s.size (.slice px m pcap) v (signsL [32, 40, 41, 44] s.data.toList 0) e) :
    Calls Tryz.prog 7 #[.string s, .slice px m pcap] w fun e w' => Qk E 20 w w' e ∧ Below w.heap.size w w' := by
  obtain ⟨L, hL⟩ : ∃ L, signsL [32, 40, 41, 44] s.data.toList 0 = L := ⟨_, rfl⟩
  rw [hL] at hq
  have HRD : Hid (Calls Tryz.prog 18 #[.string s, .string ⟨#[40, 41, 44]⟩] w fun e w' => ∃ rv, e = .returned (.agg #[rv, .string ⟨#[]⟩, .int .i64 s.size]) ∧ Seg w' 60 2 rv L.length (flt sgc L) ∧ (∀ b, rv.ownBlock = some b → w.heap.size ≤ b) ∧ Below w.heap.size w w') := by
    refine (read_any s ⟨#[40, 41, 44]⟩ w hs (by decide) (by decide) ?_).mono ?_
    · intro j b hj
      match j with
      | 0 => simp at hj; subst hj; decide
      | 1 => simp at hj; subst hj; decide
      | 2 => simp at hj; subst hj; decide
      | j + 3 => simp at hj
    · rintro e w' ⟨rv, rfl, hsg, hn, hb⟩
      rw [show (32 :: (⟨#[40, 41, 44]⟩ : ByteArray).data.toList) = [32, 40, 41, 44] from rfl, hL] at hsg
      exact ⟨rv, rfl, hsg, hn, hb⟩
  have HQ : Hid (∀ w1 b v, w.heap.size ≤ b → Below w.heap.size w w1 → RdAt w1 b 65 s.size [.slice px m pcap, .int .i64 0] v L → Calls Tryz.prog 19 #[.pointer (some ⟨b, 0, none⟩), .int .i64 0] w1 fun e w' => QkQ E w1 w' b s.size (.slice px m pcap) v L e) := hq
  have a1 : decide ((2000 : Int) < (s.size : Int)) = false := by simp; omega
  have a2 : decide ((1000 : Int) < (m : Int)) = false := by simp; omega
  clear hs hL hq hm
  go_enter Tryz.func7, Tryz.ntmps7
  go_wp2_with (go_at_call 18; refine HRD.out.mono ?_; rintro e w1 ⟨rv, rfl, hsg, hn, hb1⟩; obtain ⟨rx, rl, rcap, rfl⟩ : ∃ x l c, rv = .slice x l c := by rcases hsg.form with ⟨h, _⟩ | ⟨b, o, c, h, _⟩ <;> exact ⟨_, _, _, h⟩)
  have hrd : RdAt (w1.alloc (.cells #[.slice rx rl rcap, .string ⟨#[]⟩, .int .i64 s.size, .slice px m pcap, .int .i64 0] 65)) w1.heap.size 65 s.size [.slice px m pcap, .int .i64 0] (.slice rx rl rcap) L :=
    ⟨new_block _ _, hsg.alloc _, fun e => by have := hsg.lt e; omega⟩
  refine (HQ.out _ _ _ hb1.size (hb1.alloc hb1.size _) hrd).mono ?_
  rintro e w2 ⟨hqk, k1, L', v', hr2, hv2, hin2, ho2⟩
  have hbl := hr2.lt
  obtain ⟨x, hx⟩ : ∃ x, L'.headD (endS s.size) = x := ⟨_, rfl⟩
  have HNX : Hid (Calls Tryz.prog 20 #[.pointer (some ⟨w1.heap.size, 0, none⟩)] w2 fun e w' => e = .returned (.agg #[.string ⟨x.1.toArray⟩, .int .i64 x.2]) ∧ Ot (fun k => k = w1.heap.size) w2 w') := by
    refine (sgnext_any w2 hr2).mono ?_
    rw [hx]
    rintro e w' ⟨rfl, _, _, _, h⟩
    exact ⟨rfl, h⟩
  have HB2 : Hid (Below w.heap.size w w2) := (hb1.alloc hb1.size _).trans (ho2.below (by simp; have := hb1.size; omega) (fun k hk => by have := hb1.size; omega))
  have HQK : Hid (Qk E 20 (w1.alloc (.cells #[.slice rx rl rcap, .string ⟨#[]⟩, .int .i64 s.size, .slice px m pcap, .int .i64 0] 65)) w2 e) := hqk
  have hw1 := hb1.size
  have hw2 : w1.heap.size + 1 ≤ w2.heap.size := by have := ho2.size; simp at this; omega
  clear hrd hsg hn hb1 hr2 hv2 ho2 hin2 HQ HRD hx
  rcases hqk with ⟨B, rfl⟩ | ⟨M, cont, s0, F, rfl, -⟩
  · unfold errV
    clear HQK
    go_wp2
    (try simp only [Exit.inBlock, Exit.then])
    go_ret2
    exact ⟨Or.inl ⟨B, rfl⟩, HB2.out⟩
  · have HEN : Hid (∀ w3, Calls Tryz.prog 21 #[.agg #[.string ⟨x.1.toArray⟩, .int .i64 x.2]] w3 fun e w' => e = .returned (.bool (x.1 == [])) ∧ Below w3.heap.size w3 w') := fun w3 => end_any x w3
    cases hxe : (x.1 == []) with
    | true =>
      rw [hxe] at HEN
      go_wp2_with (first | (go_at_call 20; refine HNX.out.mono ?_; rintro e w3 ⟨rfl, ho3⟩) | (go_at_call 21; refine (HEN.out _).mono ?_; rintro e w4 ⟨rfl, hb4⟩))
      go_ret2
      have hb3 : Below w.heap.size w2 w3 := ho3.below HB2.out.size (fun k hk => by omega)
      have hq4 := (HQK.out.ot ho3 (fun k h1 _ hk => by simp at h1; omega)).ot (S := fun _ => False) (((Ot.refl _ _).alloc _).trans (Ot.of_below hb4)) (fun _ _ _ h => h)
      exact ⟨hq4.mono (by simp; omega), (HB2.out.trans hb3).trans (((Below.refl _ _).alloc (HB2.out.trans hb3).size _).trans (hb4.mono (by simp; have := (HB2.out.trans hb3).size; omega)))⟩
    | false =>
      rw [hxe] at HEN
      go_wp2_with (first | (go_at_call 20; refine HNX.out.mono ?_; rintro e w3 ⟨rfl, ho3⟩) | (go_at_call 21; refine (HEN.out _).mono ?_; rintro e w4 ⟨rfl, hb4⟩; have hx4 : w4.heap[w3.heap.size]? = some (.cells #[.string ⟨x.1.toArray⟩, .int .i64 x.2] 60 (0, 0)) := (hb4.block _ (by simp)).trans (new_block _ _); have x0 : w4.cell? ⟨w3.heap.size, 0, none⟩ = some (.string ⟨x.1.toArray⟩) := (by simp [World.cell?, hx4]); have x1 : w4.cell? ⟨w3.heap.size, 1, none⟩ = some (.int .i64 x.2) := (by simp [World.cell?, hx4]); clear hx4) | (go_at_call 22; refine (wrongS_any _ _ _ _).mono ?_; rintro e w5 ⟨B, rfl, hb5⟩))
      go_ret2
      have hb3 : Below w.heap.size w2 w3 := ho3.below HB2.out.size (fun k hk => by omega)
      have hb6 := (HB2.out.trans hb3).trans (((Below.refl _ _).alloc (HB2.out.trans hb3).size _).trans (hb4.mono (by simp; have := (HB2.out.trans hb3).size; omega)))
      exact ⟨Or.inl ⟨B, rfl⟩, hb6.trans (hb5.mono hb6.size)⟩
end Go.Proofs.YtfakjedolecdcaaGreatDoor
