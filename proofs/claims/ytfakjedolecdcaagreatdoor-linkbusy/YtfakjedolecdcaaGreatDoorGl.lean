/-
  package link with whatever queue: one is taken out, unless something is on its way. Conditions: the queue's methods do what a model of it tells (a premise).
  package link with whatever queue: the next time that is looked at. Conditions: the queue's methods do what a model of it tells (a premise).
-/
import Derived.Test.YtfakjedolecdcaaGreatDoorGk
import Derived.Laws.ResultCell
namespace Go.Proofs.YtfakjedolecdcaaGreatDoor
open Go.RowKit Go.Extern.Stop Go.Stop Go.Extern

def Snt.val (s : Snt) : Value := .agg #[.int .i64 s.n, .int .i64 s.f, .int .i64 s.t, .int .i64 s.m]
theorem below_drew1 (w : World) : Below w.heap.size w w.drew := ⟨rfl, rfl, rfl, Nat.le_refl _, fun _ _ => rfl⟩
def snt0 : Snt := ⟨0, 0, 0, 0⟩
theorem infoSent : (Tryz.prog.info? 49).map (fun i => (i.zero, i.size, i.bytes)) = some (some (.agg #[.int .i64 0, .int .i64 0, .int .i64 0, .int .i64 0]), 4, 32) := by kernel_rfl
theorem sizeSent : (Tryz.prog.info? 49).map (·.size) = some 4 := by kernel_rfl
theorem load_sent {w : World} {b : Nat} {t : TypeId} {fr : Nat × Nat} {x : Snt} (h : w.heap[b]? = some (.cells #[.int .i64 x.n, .int .i64 x.f, .int .i64 x.t, .int .i64 x.m] t fr)) : (loadVar 49 ⟨b, 0, none⟩).run Tryz.prog w = .ok x.val w :=
  run_loadVar_row w b t 49 _ fr _ h Tryz.underlying49 rfl sizeSent
theorem four_set {w : World} {b : Nat} {t : TypeId} {p0 p1 p2 p3 : Value} (h : w.heap[b]? = some (.cells #[p0, p1, p2, p3] t (0, 0))) (a0 a1 a2 a3 : Value) :
    ((((w.setCell ⟨b, 0, none⟩ a0).setCell ⟨b, 1, none⟩ a1).setCell ⟨b, 2, none⟩ a2).setCell ⟨b, 3, none⟩ a3).heap[b]? = some (.cells #[a0, a1, a2, a3] t (0, 0)) := by
  rw [heap_setCell_here (heap_setCell_here (heap_setCell_here (heap_setCell_here h a0) a1) a2) a3]
  simp
theorem four {w : World} {b : Nat} {t : TypeId} {p0 p1 p2 p3 : Value} (h : w.heap[b]? = some (.cells #[p0, p1, p2, p3] t (0, 0))) : (w.cell? ⟨b, 0, none⟩ = some p0 ∧ w.cell? ⟨b, 1, none⟩ = some p1 ∧ w.cell? ⟨b, 2, none⟩ = some p2 ∧ w.cell? ⟨b, 3, none⟩ = some p3) ∧ w.frozen? ⟨b, 0, none⟩ = false ∧ w.frozen? ⟨b, 1, none⟩ = false ∧ w.frozen? ⟨b, 2, none⟩ = false ∧ w.frozen? ⟨b, 3, none⟩ = false := by
  refine ⟨⟨?_, ?_, ?_, ?_⟩, ?_, ?_, ?_, ?_⟩
  all_goals simp [World.cell?, World.frozen?, h]
/-- What goes at a time. -/
def sendS (M : QM) (n t now : Int) (S : LkS M.σ) : LkS M.σ × Option Snt :=
  if now < S.free then (S, none)
  else if (M.take S.s now).2.2.2 = true then ({ S with s := (M.take S.s now).1, lost := S.lost ++ (M.take S.s now).2.1.map Hd.n, free := now + tkL n t (M.take S.s now).2.2.1.l }, some ⟨(M.take S.s now).2.2.1.n, now, now + tkL n t (M.take S.s now).2.2.1.l, (M.take S.s now).2.2.1.m⟩)
  else ({ S with s := (M.take S.s now).1, lost := S.lost ++ (M.take S.s now).2.1.map Hd.n }, none)
def ans (o : Option Snt) : Value := .tuple #[(o.getD snt0).val, .bool o.isSome]
/-- Beside the wire a block is written that is none of its own. -/
theorem LkAt.aside {M : QM} (hM : M.Fine) {C : LkC} {S : LkS M.σ} {w w' : World} {F : Nat → Prop} {sv lv : Value} {b : Nat} (h : LkAt M C S w F sv lv) (ho : Ot (· = b) w w') (hw : b ≠ C.bw) (hg : b ≠ C.bg) (hf : ¬ F b) (hs : sv.ownBlock ≠ some b) (hl : lv.ownBlock ≠ some b) (hb : C.w0.heap.size ≤ b) : LkAt M C S w' F sv lv := by
  refine ⟨?_, ?_, ?_, ?_, ?_, h.fw, h.fg, h.wg, h.wb, h.gb, h.sn, h.ln, h.fnew, ?_⟩
  · rw [ho.block _ (lt_of_block h.wire) (fun e => hw e.symm), h.wire]
  · rw [ho.block _ (lt_of_block h.log) (fun e => hg e.symm), h.log]
  · exact hM.kept h.que (fun k hk => ho.block k (hM.low h.que k hk) (fun e => hf (e ▸ hk)))
  · exact h.sent.oth ho (fun k hk e => hs (e ▸ hk))
  · exact Seg.oth h.lost ho (fun k hk e => hl (e ▸ hk))
  · exact h.ot.trans' ho (fun i hi hlt => by omega)
set_option maxHeartbeats 2000000 in
theorem send_busy {M : QM} (hM : M.Fine) {C : LkC} {S : LkS M.σ} {now : Int} (w : World) (h : LkW M C S w) (hb : now < S.free) :
    Calls Tryz.prog 43 #[.pointer (some ⟨C.bw, 0, none⟩), .int .i64 now] w fun e w' => e = .returned (ans none) ∧ LkW M C S w' := by
  have HM : Hid M.Fine := hM
  have HW0 : Hid (LkW M C S w) := h
  obtain ⟨F, sv, lv, hat⟩ := h
  obtain ⟨c0, c1, c2, c3, c4, c5, c6, f4, f5, hbw, hbg⟩ := hat.cells
  clear hM hat
  go_enter Tryz.func43, Tryz.ntmps43
  go_wp2_with fail
  have HZ : Hid ((w.alloc (.cells #[.int .i64 0, .int .i64 0, .int .i64 0, .int .i64 0] 49)).heap[w.heap.size]? = some (.cells #[.int .i64 0, .int .i64 0, .int .i64 0, .int .i64 0] 49 (0, 0))) := new_block _ _
  refine (busy_any (free := S.free) now _ ?_).mono ?_
  · rw [World.cell?_alloc_lt _ _ _ hbw]; exact c5
  rintro e w' ⟨rfl, rfl⟩
  have hd : decide (now < S.free) = true := decide_eq_true hb
  go_wp2
  (try simp only [Exit.inBlock, Exit.then])
  refine bodyPost_ret (v := ans none) ?_ rfl ⟨rfl, HW0.out.below HM.out (below_alloc_ (Below.refl _ _) _)⟩
  rw [results_cell_tmp rfl]
  have hld := load_sent (x := snt0) (w := w.alloc (.cells #[.int .i64 0, .int .i64 0, .int .i64 0, .int .i64 0] 49)) HZ.out
  simp [asAddr, Result.andThen, hld, ans]
set_option maxRecDepth 20000 in
set_option maxHeartbeats 4000000 in
theorem send_free {M : QM} (hM : M.Fine) {C : LkC} (hC : C.Good) {S : LkS M.σ} {now : Int} (w : World) (h : LkW M C S w) (hb : ¬ now < S.free) (h2 : now ≤ 10000000) (hI : ∃ tI, 0 ≤ tI ∧ tI ≤ now ∧ M.inv tI S.put S.s) (hput : S.put ≤ C.items.length) (hl : S.lost.length ≤ 16000000000000) :
    Calls Tryz.prog 43 #[.pointer (some ⟨C.bw, 0, none⟩), .int .i64 now] w fun e w' => e = .returned (ans (sendS M C.n C.t now S).2) ∧ LkW M C (sendS M C.n C.t now S).1 w' := by
  have HM : Hid M.Fine := hM
  have HC : Hid C.Good := hC
  obtain ⟨F, sv, lv, hat⟩ := h
  have HA : Hid (LkAt M C S w F sv lv) := hat
  have hlen := hC.len
  obtain ⟨tI, t0, t1, hinv⟩ := hI
  have HR : Hid (okRate C.n C.t = true) := hC.rate
  have HT : Hid (∀ W, Below w.heap.size w W → Calls Tryz.prog M.fT #[M.rT, .int .i64 now] W fun e w' => ∃ u F', e = .returned (.tuple #[(M.take S.s now).2.2.1.val, u, .bool (M.take S.s now).2.2.2]) ∧ Hs w' u (M.take S.s now).2.1 ∧ LkAt M C { S with s := (M.take S.s now).1 } w' F' sv lv ∧ (u.ownBlock ≠ some C.bg ∧ (∀ k, u.ownBlock = some k → lv.ownBlock ≠ some k)) ∧ ∀ b, w.heap.size ≤ b → b < W.heap.size → w'.heap[b]? = W.heap[b]? ∧ ¬ F' b) := by
    intro W hW
    have hAW := HA.out.below HM.out hW
    refine (HM.out.cT now hAW.que hinv t0 t1 (by omega) (by omega)).mono ?_
    rintro e w4 ⟨u, F4, rfl, hu4, ha4, hf4, hn4, ho4⟩
    refine ⟨u, F4, rfl, hu4, hAW.queue (S' := { S with s := (M.take S.s now).1 }) ho4 ha4 hf4 rfl rfl rfl rfl rfl, ⟨?_, ?_⟩, ?_⟩
    · intro e
      rcases hn4 _ e with h1 | h1
      · exact hAW.fg h1
      · have := lt_of_block hAW.log; omega
    · intro k hk hk2
      rcases hn4 _ hk with h1 | h1
      · exact (hAW.ln k hk2).2.1 h1
      · have := Seg.lt hAW.lost hk2; omega
    · intro b h1 h2
      have hnf : ¬ F b := fun hf => by have := HM.out.low HA.out.que b hf; omega
      exact ⟨ho4.block b h2 hnf, fun hf => by rcases hf4 b hf with h3 | h3; exact hnf h3; omega⟩
  have hln := (HM.out.iT now hinv t0 t1 (by omega) (by omega)).2
  have HSS : Hid (sendS M C.n C.t now S = if (M.take S.s now).2.2.2 = true then ({ S with s := (M.take S.s now).1, lost := S.lost ++ (M.take S.s now).2.1.map Hd.n, free := now + tkL C.n C.t (M.take S.s now).2.2.1.l }, some ⟨(M.take S.s now).2.2.1.n, now, now + tkL C.n C.t (M.take S.s now).2.2.1.l, (M.take S.s now).2.2.1.m⟩) else ({ S with s := (M.take S.s now).1, lost := S.lost ++ (M.take S.s now).2.1.map Hd.n }, none)) := by show _ = _; unfold sendS; rw [if_neg hb]
  have hmT := hM.mT
  have heT := hM.eT
  have heL := entersLose
  have hV := Hd.val_eq
  have hn0 : 0 ≤ now := by omega
  generalize M.take S.s now = Tk at *
  obtain ⟨s2, L2, x, ok⟩ := Tk
  simp only at HT HSS hln
  have HLB : Hid (S.lost.length ≤ 16000000000000 ∧ L2.length ≤ 1000000) := ⟨hl, hln⟩
  obtain ⟨c0, c1, c2, c3, c4, c5, c6, f4, f5, hbw, hbg⟩ := hat.cells
  clear hM hat hC hinv hln
  go_enter Tryz.func43, Tryz.ntmps43
  go_wp2_with fail
  have HZ : Hid ((w.alloc (.cells #[.int .i64 0, .int .i64 0, .int .i64 0, .int .i64 0] 49)).heap[w.heap.size]? = some (.cells #[.int .i64 0, .int .i64 0, .int .i64 0, .int .i64 0] 49 (0, 0))) := new_block _ _
  have HB1 : Hid (Below w.heap.size w (w.alloc (.cells #[.int .i64 0, .int .i64 0, .int .i64 0, .int .i64 0] 49))) := below_alloc_ (Below.refl _ _) _
  have hs1 : (w.alloc (.cells #[.int .i64 0, .int .i64 0, .int .i64 0, .int .i64 0] 49)).heap.size = w.heap.size + 1 := by simp
  generalize w.alloc (.cells #[.int .i64 0, .int .i64 0, .int .i64 0, .int .i64 0] 49) = w1 at *
  clear c0 c1 c2 c3 c4 c5 c6 f4 f5
  obtain ⟨c0, c1, c2, c3, c4, c5, c6, f4, f5, _, _⟩ := (HA.out.below HM.out HB1.out).cells
  refine (busy_any (free := S.free) now _ c5).mono ?_
  rintro e w' ⟨rfl, rfl⟩
  have hd : decide (now < S.free) = false := by simp only [decide_eq_false_iff_not]; omega
  go_wp2_with fail
  refine (HT.out _ HB1.out).mono ?_
  rintro e w2 ⟨u, F2, rfl, hu2, hA2, hn2, hk2⟩
  have hz2 : w2.heap[w.heap.size]? = some (.cells #[.int .i64 0, .int .i64 0, .int .i64 0, .int .i64 0] 49 (0, 0)) := (hk2 _ (Nat.le_refl _) (by omega)).1.trans HZ.out
  have HA2 : Hid (LkAt M C { S with s := s2 } w2 F2 sv lv) := hA2
  have HU2 : Hid (Hs w2 u L2) := hu2
  have HN2 : Hid (u.ownBlock ≠ some C.bg ∧ (∀ k, u.ownBlock = some k → lv.ownBlock ≠ some k)) := hn2
  have HZ2 : Hid (w2.heap[w.heap.size]? = some (.cells #[.int .i64 0, .int .i64 0, .int .i64 0, .int .i64 0] 49 (0, 0))) := hz2
  have hs2 : w.heap.size < w2.heap.size := lt_of_block hz2
  have HLV : Hid (∀ k, lv.ownBlock = some k → k < w.heap.size) := fun k hk => Seg.lt HA.out.lost hk
  have HSV : Hid (∀ k, sv.ownBlock = some k → k < w.heap.size) := fun k hk => HA.out.sent.lt hk
  have HF2 : Hid (¬ F2 w.heap.size) := (hk2 _ (Nat.le_refl _) (by omega)).2
  clear c0 c1 c2 c3 c4 c5 c6 f4 f5 hk2 hn2 hu2 hz2
  obtain ⟨c0, c1, c2, c3, c4, c5, c6, f4, f5, hbw2, hbg2⟩ := hA2.cells
  clear hA2
  unfold loseV at c6
  go_wp2_with (go_at_call 40; fail)
  have hb23 : Below w2.heap.size w2 (w2.alloc (.cells #[.int .i64 x.a, .int .i64 x.l, .int .i64 x.f, .int .i64 x.b, .int .i64 x.m, .int .i64 x.n] 76)) := below_alloc_ (Below.refl _ _) _
  have hd3 : (w2.alloc (.cells #[.int .i64 x.a, .int .i64 x.l, .int .i64 x.f, .int .i64 x.b, .int .i64 x.m, .int .i64 x.n] 76)).heap[w2.heap.size]? = some (.cells #[.int .i64 x.a, .int .i64 x.l, .int .i64 x.f, .int .i64 x.b, .int .i64 x.m, .int .i64 x.n] 76 (0, 0)) := new_block _ _
  generalize w2.alloc (.cells #[.int .i64 x.a, .int .i64 x.l, .int .i64 x.f, .int .i64 x.b, .int .i64 x.m, .int .i64 x.n] 76) = w3 at *
  have hA3 := HA2.out.below HM.out hb23
  have hz3 := (hb23.block _ hs2).trans HZ2.out
  refine (tellLost_any w3 hA3.log (Hs.below HU2.out hb23) hA3.lost HN2.out.1 HN2.out.2 (fun e => (hA3.ln _ e).2.2.2 rfl) HLB.out.2 (by have := HLB.out.1; show S.lost.length ≤ _; omega)).mono ?_
  rintro e w4 ⟨rfl, lv4, hg4, hi4, hn4, ho4⟩
  have hA4 : LkAt M C { S with s := s2, lost := S.lost ++ L2.map Hd.n } w4 F2 sv lv4 := hA3.told (S' := { S with s := s2, lost := S.lost ++ L2.map Hd.n }) HM.out hg4 hi4 hn4 ho4 rfl rfl rfl rfl rfl
  have hz4 : w4.heap[w.heap.size]? = some (.cells #[.int .i64 0, .int .i64 0, .int .i64 0, .int .i64 0] 49 (0, 0)) := (ho4.block _ (lt_of_block hz3) (fun e => by rcases e with e | e; omega; have := HLV.out _ e; omega)).trans hz3
  have hd4 : w4.heap[w2.heap.size]? = some (.cells #[.int .i64 x.a, .int .i64 x.l, .int .i64 x.f, .int .i64 x.b, .int .i64 x.m, .int .i64 x.n] 76 (0, 0)) := (ho4.block _ (lt_of_block hd3) (fun e => by rcases e with e | e; omega; have := HLV.out _ e; omega)).trans hd3
  have HL4 : Hid (∀ k, lv4.ownBlock = some k → k ≠ w.heap.size ∧ k ≠ w2.heap.size) := fun k hk => by
    rcases hn4 k hk with h1 | h1
    · have := HLV.out _ h1; omega
    · have := lt_of_block hd3; omega
  have HA4 : Hid (LkAt M C { S with s := s2, lost := S.lost ++ L2.map Hd.n } w4 F2 sv lv4) := hA4
  have HZ4 : Hid _ := hz4
  have HD4 : Hid _ := hd4
  clear c0 c1 c2 c3 c4 c5 c6 f4 f5 hA3 hz3 hg4 hi4 hn4 ho4 hd3 hb23 hbw2 hbg2
  obtain ⟨c0, c1, c2, c3, c4, c5, c6, f4, f5, hbw4, hbg4⟩ := hA4.cells
  obtain ⟨⟨z0, z1, z2, z3⟩, y0, y1, y2, y3⟩ := four hz4
  obtain ⟨⟨k0, k1, k2, k3, k4, k5⟩, _⟩ := six hd4
  have hz4l := lt_of_block hz4
  have hd4l := lt_of_block hd4
  clear hA4 hz4 hd4
  have hwb : C.w0.heap.size ≤ w.heap.size := HA.out.ot.size
  cases ok with
  | false =>
    go_wp2
    (try simp only [Exit.inBlock, Exit.then])
    rw [HSS.out]
    refine bodyPost_ret (v := ans none) ?_ rfl ⟨rfl, F2, sv, lv4, ?_⟩
    · rw [results_cell_tmp rfl]
      have hld := load_sent (x := snt0) (four_set HZ4.out (.int .i64 0) (.int .i64 0) (.int .i64 0) (.int .i64 0))
      simp [asAddr, Result.andThen, hld, ans]
    · refine HA4.out.aside (b := w.heap.size) HM.out ?_ (by omega) (by omega) HF2.out (fun e => by have := HSV.out _ e; omega) (fun e => (HL4.out _ e).1 rfl) hwb
      repeat' (first | with_reducible exact Ot.refl _ _ | with_reducible refine Ot.setCell ?_ (by simp) _)
  | true =>
    have htk := tkL_le (x := x.l) HR.out
    have ewr : IntKind.i64.wrap (now + tkL C.n C.t x.l) = now + tkL C.n C.t x.l := by rw [IntKind.wrap_i64]; omega
    go_upto_region 32 with (fail)
    go_cut [42] (fun _ wx => LkAt M C { S with s := s2, lost := S.lost ++ L2.map Hd.n, free := now + tkL C.n C.t x.l } wx F2 sv lv4 ∧ wx.heap[w.heap.size]? = some (.cells #[.int .i64 0, .int .i64 0, .int .i64 0, .int .i64 0] 49 (0, 0)) ∧ wx.heap[w2.heap.size]? = some (.cells #[.int .i64 x.a, .int .i64 x.l, .int .i64 x.f, .int .i64 x.b, .int .i64 x.m, .int .i64 x.n] 76 (0, 0)))
    case first =>
      go_region_with (go_at_call 14; refine (takes_both C.n C.t x.l _ HR.out).mono ?_; rintro e w5 ⟨rfl, hb5⟩; have hb55 : Below w4.heap.size w4 w5 := (below_drew1 w4).trans hb5; obtain ⟨_, _, _, _, _, q5, _, _, g5, _, _⟩ := (HA4.out.below HM.out hb55).cells)
      all_goals
        go_wp2_with fail
        go_meet
        case rel =>
          try rw [ewr]
          have hA5 := HA4.out.below HM.out hb55
          have hl5 := hA5.cells.2.2.2.2.2.2.2.2.2
          have ho6 : Ot (· = C.bw) w5 (w5.setCell ⟨C.bw, 5, none⟩ (.int .i64 (now + tkL C.n C.t x.l))) := Ot.setCell (S := (· = C.bw)) (p := ⟨C.bw, 5, none⟩) (Ot.refl _ _) (Or.inl rfl) _
          refine ⟨hA5.setw (S' := { S with s := s2, lost := S.lost ++ L2.map Hd.n, free := now + tkL C.n C.t x.l }) HM.out ho6 (wire_free hA5.wire _) rfl rfl rfl rfl, ?_, ?_⟩
          · exact (ho6.block _ (by have := hb55.size; omega) (fun e => by omega)).trans ((hb55.block _ hz4l).trans HZ4.out)
          · exact (ho6.block _ (by have := hb55.size; omega) (fun e => by omega)).trans ((hb55.block _ hd4l).trans HD4.out)
    case rest =>
    obtain ⟨hA5, hz5, hd5⟩ := hcut
    have HA5 : Hid _ := hA5
    have HZ5 : Hid _ := hz5
    clear c0 c1 c2 c3 c4 c5 c6 f4 f5 z0 z1 z2 z3 y0 y1 y2 y3 k0 k1 k2 k3 k4 k5 hbw4 hbg4 hz4l hd4l
    obtain ⟨c0, c1, c2, c3, c4, c5, c6, f4, f5, hbw5, hbg5⟩ := hA5.cells
    obtain ⟨⟨z0, z1, z2, z3⟩, y0, y1, y2, y3⟩ := four hz5
    obtain ⟨⟨k0, k1, k2, k3, k4, k5⟩, _⟩ := six hd5
    have hz5l := lt_of_block hz5
    have hd5l := lt_of_block hd5
    have hne1 : w.heap.size ≠ C.bw := by omega
    have hne2 : w.heap.size ≠ w2.heap.size := by omega
    clear hA5 hz5 hd5
    simp only at c5
    go_wp2
    go_region
    all_goals
      go_wp2
      (try simp only [Exit.inBlock, Exit.then])
      rw [HSS.out]
      refine bodyPost_ret (v := ans (some ⟨x.n, now, now + tkL C.n C.t x.l, x.m⟩)) ?_ rfl ⟨rfl, F2, sv, lv4, ?_⟩
      · rw [results_cell_tmp rfl]
        have hld := load_sent (w := (((((wc.setCell ⟨w.heap.size, 0, none⟩ (.int .i64 x.n)).setCell ⟨w.heap.size, 1, none⟩ (.int .i64 now)).setCell ⟨w.heap.size, 2, none⟩ (.int .i64 (now + tkL C.n C.t x.l))).setCell ⟨w.heap.size, 3, none⟩ (.int .i64 x.m)).drew)) (x := ⟨x.n, now, now + tkL C.n C.t x.l, x.m⟩) (four_set HZ5.out (.int .i64 x.n) (.int .i64 now) (.int .i64 (now + tkL C.n C.t x.l)) (.int .i64 x.m))
        simp [asAddr, Result.andThen, hld, ans]
      · refine HA5.out.aside (b := w.heap.size) HM.out ?_ hne1 (by omega) HF2.out (fun e => by have := HSV.out _ e; omega) (fun e => (HL4.out _ e).1 rfl) hwb
        refine Ot.drew ?_
        repeat' (first | with_reducible exact Ot.refl _ _ | with_reducible refine Ot.setCell ?_ (by simp) _)
end Go.Proofs.YtfakjedolecdcaaGreatDoor
namespace Go.Proofs.YtfakjedolecdcaaGreatDoor
open Go.RowKit Go.Extern.Stop Go.Stop Go.Extern

/-- When the next one may go, if nothing comes. -/
def goesS (M : QM) (now : Int) (S : LkS M.σ) : LkS M.σ × Int × Bool :=
  if M.len S.s ≤ 0 then (S, 0, false)
  else if now < S.free then (S, S.free, true)
  else ({ S with s := (M.when S.s (now + 1)).1 }, max (M.when S.s (now + 1)).2.1 (now + 1), (M.when S.s (now + 1)).2.2)
/-- The next time. -/
def nextS (M : QM) (items : List It) (now : Int) (S : LkS M.σ) : LkS M.σ × Int × Bool :=
  match items[S.put]? with
  | some x => ((goesS M now S).1, if (goesS M now S).2.2 = true then min x.a (goesS M now S).2.1 else x.a, true)
  | none => goesS M now S
set_option maxHeartbeats 2000000 in
theorem goes_any {M : QM} (hM : M.Fine) {C : LkC} (hC : C.Good) {S : LkS M.σ} {now : Int} (w : World) (h : LkW M C S w) (h2 : now ≤ 10000000) (hI : ∃ tI, 0 ≤ tI ∧ tI ≤ now ∧ M.inv tI S.put S.s) (hput : S.put ≤ C.items.length) :
    Calls Tryz.prog 56 #[.pointer (some ⟨C.bw, 0, none⟩), .int .i64 now] w fun e w' => e = .returned (.tuple #[.int .i64 (goesS M now S).2.1, .bool (goesS M now S).2.2]) ∧ LkW M C (goesS M now S).1 w' := by
  have HM : Hid M.Fine := hM
  have HW0 : Hid (LkW M C S w) := h
  obtain ⟨F, sv, lv, hat⟩ := h
  have HA : Hid (LkAt M C S w F sv lv) := hat
  have hlen := hC.len
  obtain ⟨tI, t0, t1, hinv⟩ := hI
  have HLN : Hid (Calls Tryz.prog M.fL #[M.rL] w fun e w' => e = .returned (.int .i64 (M.len S.s)) ∧ Below w.heap.size w w') := HM.out.cL hat.que hinv (by omega)
  have HWN : Hid (∀ W, Below w.heap.size w W → Calls Tryz.prog M.fW #[M.rW, .int .i64 (now + 1)] W fun e w' => e = .returned (.tuple #[.int .i64 (M.when S.s (now + 1)).2.1, .bool (M.when S.s (now + 1)).2.2]) ∧ LkW M C { S with s := (M.when S.s (now + 1)).1 } w') := by
    intro W hW
    have hAW := HA.out.below HM.out hW
    refine (HM.out.cW (now + 1) hAW.que hinv t0 (by omega) (by omega) (by omega)).mono ?_
    rintro e w4 ⟨F4, rfl, ha4, hf4, ho4⟩
    exact ⟨rfl, F4, sv, lv, hAW.queue (S' := { S with s := (M.when S.s (now + 1)).1 }) ho4 ha4 hf4 rfl rfl rfl rfl rfl⟩
  have hmL := hM.mL
  have heL := hM.eL
  have hmW := hM.mW
  have heW := hM.eW
  have hn0 : 0 ≤ now := by omega
  obtain ⟨c0, _⟩ := hat.cells
  clear hinv hM hC hat
  by_cases h0 : M.len S.s ≤ 0
  · have e0 : goesS M now S = (S, 0, false) := by unfold goesS; rw [if_pos h0]
    rw [e0]
    have HL0 : Hid (M.len S.s ≤ 0) := h0
    go_enter Tryz.func56, Tryz.ntmps56
    go_wp2_with fail
    refine HLN.out.mono ?_
    rintro e w1 ⟨rfl, hb1⟩
    have hd : decide (M.len S.s ≤ 0) = true := decide_eq_true HL0.out
    go_wp2
    go_ret2
    exact ⟨rfl, HW0.out.below HM.out hb1⟩
  · by_cases hb : now < S.free
    · have e0 : goesS M now S = (S, S.free, true) := by unfold goesS; rw [if_neg h0, if_pos hb]
      rw [e0]
      have HL0 : Hid (¬ M.len S.s ≤ 0) := h0
      have HBF : Hid (now < S.free) := hb
      clear h0
      go_enter Tryz.func56, Tryz.ntmps56
      go_wp2_with fail
      refine HLN.out.mono ?_
      rintro e w1 ⟨rfl, hb1⟩
      have hd : decide (M.len S.s ≤ 0) = false := by simp only [decide_eq_false_iff_not]; have := HL0.out; omega
      obtain ⟨_, _, _, _, _, c5, _⟩ := (HA.out.below HM.out hb1).cells
      generalize M.len S.s = ln at *
      go_wp2_with (go_at_call 57; refine (busy_any (free := S.free) now _ c5).mono ?_; rintro e w' ⟨rfl, rfl⟩)
      go_ret2
      exact ⟨rfl, HW0.out.below HM.out hb1⟩
    · have e0 : goesS M now S = ({ S with s := (M.when S.s (now + 1)).1 }, max (M.when S.s (now + 1)).2.1 (now + 1), (M.when S.s (now + 1)).2.2) := by unfold goesS; rw [if_neg h0, if_neg hb]
      rw [e0]
      have HL0 : Hid (¬ M.len S.s ≤ 0) := h0
      clear h0
      generalize M.when S.s (now + 1) = Wn at *
      obtain ⟨s2, at2, ok2⟩ := Wn
      simp only at HWN ⊢
      go_enter Tryz.func56, Tryz.ntmps56
      go_wp2_with fail
      refine HLN.out.mono ?_
      rintro e w1 ⟨rfl, hb1⟩
      have hd : decide (M.len S.s ≤ 0) = false := by simp only [decide_eq_false_iff_not]; have := HL0.out; omega
      obtain ⟨c10, _, _, _, _, c5, _⟩ := (HA.out.below HM.out hb1).cells
      have HB1 : Hid (Below w.heap.size w w1) := hb1
      generalize M.len S.s = ln at *
      go_wp2_with (go_at_call 57; refine (busy_any (free := S.free) now _ c5).mono ?_; rintro e w' ⟨rfl, rfl⟩)
      refine (HWN.out _ HB1.out).mono ?_
      rintro e w2 ⟨rfl, hw2⟩
      have HW2 : Hid (LkW M C { S with s := s2 } w2) := hw2
      clear hw2
      by_cases hm : at2 < now + 1
      · have HE : Hid (max at2 (now + 1) = now + 1) := by show _ = _; omega
        go_wp2
        go_ret2
        exact ⟨by rw [HE.out]; rfl, HW2.out⟩
      · have HE : Hid (max at2 (now + 1) = at2) := by show _ = _; omega
        go_wp2
        go_ret2
        exact ⟨by rw [HE.out]; rfl, HW2.out⟩
set_option maxHeartbeats 2000000 in
theorem next_step {M : QM} (hM : M.Fine) {C : LkC} (hC : C.Good) {S : LkS M.σ} {now : Int} (w : World) (h : LkW M C S w) (h2 : now ≤ 10000000) (hI : ∃ tI, 0 ≤ tI ∧ tI ≤ now ∧ M.inv tI S.put S.s) (hput : S.put ≤ C.items.length) :
    Calls Tryz.prog 41 #[.pointer (some ⟨C.bw, 0, none⟩), .int .i64 now] w fun e w' => e = .returned (.tuple #[.int .i64 (nextS M C.items now S).2.1, .bool (nextS M C.items now S).2.2]) ∧ LkW M C (nextS M C.items now S).1 w' := by
  have HM : Hid M.Fine := hM
  have HC : Hid C.Good := hC
  obtain ⟨F, sv, lv, hat⟩ := h
  have HA : Hid (LkAt M C S w F sv lv) := hat
  have HG : Hid (∀ W, Below w.heap.size w W → Calls Tryz.prog 56 #[.pointer (some ⟨C.bw, 0, none⟩), .int .i64 now] W fun e w' => e = .returned (.tuple #[.int .i64 (goesS M now S).2.1, .bool (goesS M now S).2.2]) ∧ LkW M C (goesS M now S).1 w') := fun W hW => goes_any HM.out HC.out W ⟨F, sv, lv, HA.out.below HM.out hW⟩ h2 hI hput
  have HPU : Hid ((goesS M now S).1.put = S.put) := by
    show _ = _
    unfold goesS
    split
    · rfl
    · split <;> rfl
  obtain ⟨c0, c1, c2, c3, c4, c5, c6, f4, f5, hbw, hbg⟩ := hat.cells
  have hlen := hC.len
  cases hx : C.items[S.put]? with
  | some x =>
    have hlt : S.put < C.items.length := (List.getElem?_eq_some_iff.1 hx).1
    have e0 : nextS M C.items now S = ((goesS M now S).1, if (goesS M now S).2.2 = true then min x.a (goesS M now S).2.1 else x.a, true) := by unfold nextS; rw [hx]
    rw [e0]
    have HX : Hid (C.items[S.put]? = some x) := hx
    have HLT : Hid (S.put < C.items.length) := hlt
    clear hx e0 hM hC hat hI
    generalize goesS M now S = G at *
    obtain ⟨S2, g2, ok2⟩ := G
    simp only at HG HPU ⊢
    obtain ⟨q, hq⟩ : ∃ q, C.items.length = q := ⟨_, rfl⟩
    have HQ : Hid (C.items.length = q) := hq
    rw [hq] at c3 hlt hlen
    clear hq
    go_enter Tryz.func41, Tryz.ntmps41
    go_wp2
    go_quiet (fail)
    go_wp2_with fail
    refine (HG.out _ ?_).mono ?_
    · exact ⟨rfl, rfl, rfl, Nat.le_refl _, fun _ _ => rfl⟩
    rintro e w2 ⟨rfl, hw2⟩
    have HW2 : Hid (LkW M C S2 w2) := hw2
    obtain ⟨F2, sv2, lv2, hA2⟩ := hw2
    clear c0 c1 c2 c3 c4 c5 c6 f4 f5 hbw hbg
    obtain ⟨c0, c1, c2, c3, c4, c5, c6, f4, f5, hbw, hbg⟩ := hA2.cells
    obtain ⟨xb, xo, hxe, hxl, hxf, x0, x1, x2, x3, x4⟩ := hA2.item HC.out HX.out
    rw [HQ.out, hxe] at c3
    rw [HPU.out] at c4
    clear hA2 hxe
    cases ok2 with
    | true =>
      by_cases hm : g2 < x.a
      · have HE : Hid (min x.a g2 = g2) := by show _ = _; omega
        go_wp2
        go_region
        all_goals
          go_wp2
          go_ret2
          exact ⟨by rw [HE.out]; rfl, HW2.out.below HM.out ⟨rfl, rfl, rfl, Nat.le_refl _, fun _ _ => rfl⟩⟩
      · have HE : Hid (min x.a g2 = x.a) := by show _ = _; omega
        go_wp2
        go_region
        all_goals
          go_wp2
          go_ret2
          exact ⟨by rw [HE.out]; rfl, HW2.out.below HM.out ⟨rfl, rfl, rfl, Nat.le_refl _, fun _ _ => rfl⟩⟩
    | false =>
      go_wp2
      go_quiet (fail)
      go_wp2
      go_ret2
      exact ⟨rfl, HW2.out.below HM.out ⟨rfl, rfl, rfl, Nat.le_refl _, fun _ _ => rfl⟩⟩
  | none =>
    have hlt : ¬ S.put < C.items.length := by have := List.getElem?_eq_none_iff.1 hx; omega
    have e0 : nextS M C.items now S = goesS M now S := by unfold nextS; rw [hx]
    rw [e0]
    clear hx e0 hM hC hat hI
    generalize goesS M now S = G at *
    obtain ⟨S2, g2, ok2⟩ := G
    simp only at HG HPU ⊢
    obtain ⟨q, hq⟩ : ∃ q, C.items.length = q := ⟨_, rfl⟩
    rw [hq] at c3 hlt hlen
    clear hq
    go_enter Tryz.func41, Tryz.ntmps41
    go_wp2
    go_quiet (fail)
    go_wp2_with fail
    refine (HG.out _ ?_).mono ?_
    · exact ⟨rfl, rfl, rfl, Nat.le_refl _, fun _ _ => rfl⟩
    rintro e w2 ⟨rfl, hw2⟩
    have HW2 : Hid (LkW M C S2 w2) := hw2
    clear hw2
    go_wp2
    go_ret2
    exact ⟨rfl, HW2.out⟩
end Go.Proofs.YtfakjedolecdcaaGreatDoor
