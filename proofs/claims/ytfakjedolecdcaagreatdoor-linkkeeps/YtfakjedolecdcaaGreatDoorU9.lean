/-
  package link with whatever queue: what comes is put in. Conditions: the queue's methods do what a model of it tells (a premise); the packets lie in memory, in order, none of them ahead of now.
  package link with whatever queue: one is taken out, unless something is on its way. Conditions: the queue's methods do what a model of it tells (a premise).
-/
import Derived.Test.YtfakjedolecdcaaGreatDoorU8
import Derived.Laws.ResultCell
namespace Go.Proofs.YtfakjedolecdcaaGreatDoor
open Go.RowKit Go.Extern.Stop Go.Stop Go.Extern

def hdIt (x : It) (n : Nat) : Hd := ⟨x.a, x.l, x.f, x.b, x.m, n⟩
/-- What comes by a time is put in. -/
def comeL (M : QM) (now : Int) : List It → M.σ → Nat → M.σ × Nat × List Int
  | [], s, n => (s, n, [])
  | x :: r, s, n => if x.a ≤ now then ((comeL M now r (M.put s now (hdIt x n)).1 (n + 1)).1, (comeL M now r (M.put s now (hdIt x n)).1 (n + 1)).2.1, (M.put s now (hdIt x n)).2.map Hd.n ++ (comeL M now r (M.put s now (hdIt x n)).1 (n + 1)).2.2) else (s, n, [])
def comeS (M : QM) (items : List It) (now : Int) (S : LkS M.σ) : LkS M.σ :=
  { S with s := (comeL M now (items.drop S.put) S.s S.put).1, put := (comeL M now (items.drop S.put) S.s S.put).2.1, lost := S.lost ++ (comeL M now (items.drop S.put) S.s S.put).2.2 }
/-- One is put in. -/
def putL (M : QM) (now : Int) (x : It) (S : LkS M.σ) : LkS M.σ :=
  { S with s := (M.put S.s now (hdIt x S.put)).1, put := S.put + 1, lost := S.lost ++ (M.put S.s now (hdIt x S.put)).2.map Hd.n }
theorem comeS_none {M : QM} {items : List It} {now : Int} {S : LkS M.σ} (h : items.length ≤ S.put) : comeS M items now S = S := by
  unfold comeS
  rw [List.drop_of_length_le h]
  simp [comeL]
theorem comeS_late {M : QM} {items : List It} {now : Int} {S : LkS M.σ} {x : It} (h : items[S.put]? = some x) (hx : ¬ x.a ≤ now) : comeS M items now S = S := by
  obtain ⟨hl, e⟩ := List.getElem?_eq_some_iff.1 h
  unfold comeS
  rw [List.drop_eq_getElem_cons hl, e]
  simp [comeL, hx]
theorem comeS_one {M : QM} {items : List It} {now : Int} {S : LkS M.σ} {x : It} (h : items[S.put]? = some x) (hx : x.a ≤ now) : comeS M items now S = comeS M items now (putL M now x S) := by
  obtain ⟨hl, e⟩ := List.getElem?_eq_some_iff.1 h
  unfold comeS
  rw [List.drop_eq_getElem_cons hl, e]
  simp [comeL, hx, putL]
def putAt (bw : Nat) (w : World) : Nat := match w.cell? ⟨bw, 4, none⟩ with
  | some (.int _ p) => p.toNat
  | _ => 0
theorem LkW.putAt {M : QM} {C : LkC} {S : LkS M.σ} {w : World} (h : LkW M C S w) : putAt C.bw w = S.put := by
  obtain ⟨F, sv, lv, h⟩ := h
  unfold Go.Proofs.YtfakjedolecdcaaGreatDoor.putAt
  rw [h.cells.2.2.2.2.1]
  simp
/-- What is so while what comes is put in. -/
structure ComeI (M : QM) (C : LkC) (now : Int) (S S' : LkS M.σ) : Prop where
  inv : ∃ tI, 0 ≤ tI ∧ tI ≤ now ∧ M.inv tI S'.put S'.s
  put : S'.put ≤ C.items.length
  ge : S.put ≤ S'.put
  lost : S'.lost.length ≤ S.lost.length + 1000000 * (S'.put - S.put)
  same : comeS M C.items now S' = comeS M C.items now S
  keep : S'.free = S.free ∧ S'.sent = S.sent ∧ S'.most = S.most
theorem ComeI.step {M : QM} (hM : M.Fine) {C : LkC} (hC : C.Good) {now : Int} (h2 : now ≤ 10000000) {S S' : LkS M.σ} (h : ComeI M C now S S') {x : It} (hx : C.items[S'.put]? = some x) (hle : x.a ≤ now) (hge : now ≤ x.a) : ComeI M C now S (putL M now x S') := by
  obtain ⟨tI, a, b, hi⟩ := h.inv
  have hl := (List.getElem?_eq_some_iff.1 hx).1
  have hlen := hC.len
  obtain ⟨i1, i2⟩ := hM.iP now (hdIt x S'.put) hi a b (by omega) (hC.ok x (List.mem_of_getElem? hx)) (by show x.a = now; omega) rfl (by omega)
  refine ⟨⟨now, by omega, Int.le_refl _, i1⟩, ?_, ?_, ?_, ?_, h.keep⟩
  · show S'.put + 1 ≤ _; omega
  · show S.put ≤ S'.put + 1; have := h.ge; omega
  · show (S'.lost ++ _).length ≤ _
    rw [List.length_append, List.length_map]
    have := h.lost
    have := h.ge
    have e : (putL M now x S').put = S'.put + 1 := rfl
    rw [e]
    omega
  · rw [← comeS_one hx hle]; exact h.same
/-- The queue changed. -/
theorem LkAt.queue {M : QM} {C : LkC} {S S' : LkS M.σ} {w w' : World} {F F' : Nat → Prop} {sv lv : Value} (h : LkAt M C S w F sv lv) (ho : Ot F w w') (hq : M.At w' F' S'.s) (hF : ∀ k, F' k → F k ∨ w.heap.size ≤ k) (e1 : S'.put = S.put) (e2 : S'.free = S.free) (e3 : S'.sent = S.sent) (e4 : S'.lost = S.lost) (e5 : S'.most = S.most) : LkAt M C S' w' F' sv lv := by
  have hw := lt_of_block h.wire
  have hg := lt_of_block h.log
  have hn : ∀ b, b < w.heap.size → ¬ F b → ¬ F' b := fun b hb hf hf' => by
    rcases hF b hf' with h1 | h1
    · exact hf h1
    · omega
  refine ⟨?_, ?_, hq, ?_, ?_, hn _ hw h.fw, hn _ hg h.fg, h.wg, h.wb, h.gb, ?_, ?_, ?_, ?_⟩
  · rw [ho.block _ hw h.fw, h.wire, e1, e2]
  · rw [ho.block _ hg h.fg, h.log, e5]
  · rw [e3]; exact h.sent.oth ho (fun b hb => (h.sn b hb).2.1)
  · rw [e4]; exact Seg.oth h.lost ho (fun b hb => (h.ln b hb).2.1)
  · intro b hb
    obtain ⟨a1, a2, a3⟩ := h.sn b hb
    exact ⟨a1, hn b (h.sent.lt hb) a2, a3⟩
  · intro b hb
    obtain ⟨a1, a2, a3⟩ := h.ln b hb
    exact ⟨a1, hn b (Seg.lt h.lost hb) a2, a3⟩
  · intro k hk
    rcases hF k hk with h1 | h1
    · exact h.fnew k h1
    · have := h.ot.size; exact Or.inr (by omega)
  · refine h.ot.trans' ho (fun i hi hlt => ?_)
    rcases h.fnew i hi with h1 | h1
    · exact h1
    · omega
/-- What is lost is told. -/
theorem LkAt.told {M : QM} (hM : M.Fine) {C : LkC} {S S' : LkS M.σ} {w w' : World} {F : Nat → Prop} {sv lv lv' : Value} (h : LkAt M C S w F sv lv) (hg : LgB w' C.bg sv lv' 0 S.most) (hi : Ins w' lv' S'.lost) (hn : ∀ k, lv'.ownBlock = some k → lv.ownBlock = some k ∨ w.heap.size ≤ k) (ho : Ot (fun k => k = C.bg ∨ lv.ownBlock = some k) w w') (e0 : S'.s = S.s) (e1 : S'.put = S.put) (e2 : S'.free = S.free) (e3 : S'.sent = S.sent) (e5 : S'.most = S.most) : LkAt M C S' w' F sv lv' := by
  have hw := lt_of_block h.wire
  have hgl := lt_of_block h.log
  have hlow := hM.low h.que
  refine ⟨?_, ?_, ?_, ?_, hi, h.fw, h.fg, h.wg, h.wb, h.gb, ?_, ?_, h.fnew, ?_⟩
  · rw [ho.block _ hw (fun e => by rcases e with e | e; exact h.wg e; exact (h.ln _ e).2.2.1 rfl), h.wire, e1, e2]
  · rw [e5]; exact hg
  · rw [e0]; exact hM.kept h.que (fun k hk => ho.block k (hlow k hk) (fun e => by rcases e with e | e; exact h.fg (e ▸ hk); exact (h.ln _ e).2.1 hk))
  · rw [e3]; exact h.sent.oth ho (fun b hb e => by rcases e with e | e; exact (h.sn b hb).2.2.2.1 e; exact (h.sn b hb).2.2.2.2 e)
  · intro b hb
    obtain ⟨a1, a2, a3, a4, a5⟩ := h.sn b hb
    refine ⟨a1, a2, a3, a4, fun e => ?_⟩
    rcases hn b e with h1 | h1
    · exact a5 h1
    · have := h.sent.lt hb; omega
  · intro b hb
    rcases hn b hb with h1 | h1
    · exact h.ln b h1
    · have := h.ot.size
      exact ⟨by omega, fun hf => by have := hlow b hf; omega, by omega, by omega⟩
  · refine h.ot.trans' ho (fun i hi hlt => ?_)
    rcases hi with e | e
    · have := h.gb; omega
    · have := (h.ln i e).1; omega
theorem wire_put {w : World} {b : Nat} {a0 a1 a2 a3 a4 a5 a6 : Value} {t : TypeId} {fr : Nat × Nat} (h : w.heap[b]? = some (.cells #[a0, a1, a2, a3, a4, a5, a6] t fr)) (v : Value) : (w.setCell ⟨b, 4, none⟩ v).heap[b]? = some (.cells #[a0, a1, a2, a3, v, a5, a6] t fr) := by
  rw [heap_setCell_here h v]
  simp
theorem wire_free {w : World} {b : Nat} {a0 a1 a2 a3 a4 a5 a6 : Value} {t : TypeId} {fr : Nat × Nat} (h : w.heap[b]? = some (.cells #[a0, a1, a2, a3, a4, a5, a6] t fr)) (v : Value) : (w.setCell ⟨b, 5, none⟩ v).heap[b]? = some (.cells #[a0, a1, a2, a3, a4, v, a6] t fr) := by
  rw [heap_setCell_here h v]
  simp
set_option maxRecDepth 20000 in
set_option maxHeartbeats 4000000 in
theorem come_any {M : QM} (hM : M.Fine) {C : LkC} (hC : C.Good) {S : LkS M.σ} {now : Int} (w : World) (h : LkW M C S w) (h2 : now ≤ 10000000) (hI : ∃ tI, 0 ≤ tI ∧ tI ≤ now ∧ M.inv tI S.put S.s) (hput : S.put ≤ C.items.length) (hc : ∀ j x, S.put ≤ j → C.items[j]? = some x → now ≤ x.a) (hl : S.lost.length ≤ 15000000000000) :
    Calls Tryz.prog 42 #[.pointer (some ⟨C.bw, 0, none⟩), .int .i64 now] w fun e w' => e = .returned (.tuple #[]) ∧ LkW M C (comeS M C.items now S) w' ∧ ComeI M C now S (comeS M C.items now S) ∧ ∀ x, C.items[(comeS M C.items now S).put]? = some x → now < x.a := by
  have HM : Hid M.Fine := hM
  have HC : Hid C.Good := hC
  have HW0 : Hid (LkW M C S w) := h
  have HI0 : Hid (ComeI M C now S S) := ⟨hI, hput, Nat.le_refl _, by omega, rfl, rfl, rfl, rfl⟩
  have HCO : Hid (∀ j x, S.put ≤ j → C.items[j]? = some x → now ≤ x.a) := hc
  have HLL : Hid (S.lost.length ≤ 15000000000000) := hl
  have HLN : Hid (C.items.length ≤ 100) := hC.len
  have hmP := hM.mP
  have heP := hM.eP
  have heL := entersLose
  clear h hI hput hc hl hC hM
  go_enter Tryz.func42, Tryz.ntmps42
  go_wp2
  go_loopw [4] (fun _ wr => ∃ S', LkW M C S' wr ∧ ComeI M C now S S') (fun _ wr => C.items.length - putAt C.bw wr)
  case atStart => exact ⟨S, HW0.out, HI0.out⟩
  case round =>
    obtain ⟨S', hw, hi⟩ := hrel
    have HW : Hid (LkW M C S' wr) := hw
    have HI : Hid (ComeI M C now S S') := hi
    obtain ⟨F, sv, lv, hat⟩ := hw
    have HA : Hid (LkAt M C S' wr F sv lv) := hat
    obtain ⟨c0, c1, c2, c3, c4, c5, c6, f4, f5, hbw, hbg⟩ := hat.cells
    have HQ : Hid (C.items.length ≤ 100) := HLN.out
    have HPA : Hid (putAt C.bw wr = S'.put) := HW.out.putAt
    have hq := HLN.out
    clear hi
    by_cases hlt : S'.put < C.items.length
    · obtain ⟨x, hx⟩ : ∃ x, C.items[S'.put]? = some x := ⟨_, List.getElem?_eq_getElem hlt⟩
      have HX : Hid (C.items[S'.put]? = some x) := hx
      obtain ⟨xb, xo, hxe, hxl, hxf, x0, x1, x2, x3, x4⟩ := hat.item HC.out hx
      have hge : now ≤ x.a := HCO.out _ _ HI.out.ge hx
      have HXL : Hid (xb < C.w0.heap.size ∧ ¬ C.F0 xb ∧ C.x = some ⟨xb, xo, none⟩) := ⟨hxl, hxf, hxe⟩
      have hxw : xb < wr.heap.size := by have := hat.ot.size; omega
      have hxne : xb ≠ C.bw := by have := hat.wb; omega
      rw [hxe] at c3
      clear hx hxl hxf hxe
      by_cases hle : x.a ≤ now
      · go_upto_region 5 with (fail)
        go_cut [29] (fun bv wx => bv = .bool true ∧ LkAt M C S' wx F sv lv)
        case first =>
          go_quiet (fail)
          go_wp2_with fail
          go_meet
          case rel => exact ⟨rfl, HA.out.below HM.out ⟨rfl, rfl, rfl, Nat.le_refl _, fun _ _ => rfl⟩⟩
        case rest =>
        obtain ⟨rfl, hatc⟩ := hcut
        clear c0 c1 c2 c3 c4 c5 c6 f4 f5 hbw hbg x0 x1 x2 x3 x4 hxw hxne HW HA HXL
        generalize wc = w1 at *
        have HA : Hid (LkAt M C S' w1 F sv lv) := hatc
        obtain ⟨c0, c1, c2, c3, c4, c5, c6, f4, f5, hbw, hbg⟩ := hatc.cells
        obtain ⟨xb, xo, hxe, hxl, hxf, x0, x1, x2, x3, x4⟩ := hatc.item HC.out HX.out
        have hxw : xb < w1.heap.size := by have := hatc.ot.size; omega
        have hxne : xb ≠ C.bw := by have := hatc.wb; omega
        rw [hxe] at c3
        clear hatc hxe hxf hxl
        obtain ⟨tI, t0, t1, hinv⟩ := HI.out.inv
        have hok : (hdIt x S'.put).ok = true := HC.out.ok x (List.mem_of_getElem? HX.out)
        have hxa : x.a = now := by omega
        have HXA : Hid (x.a = now) := hxa
        have hp100 : S'.put < 1000 := by have := HQ.out; omega
        have HPUT : Hid (∀ W, Ot (· = C.bw) w1 W → Calls Tryz.prog M.fP #[M.rP, .int .i64 now, .agg #[.int .i64 x.a, .int .i64 x.l, .int .i64 x.f, .int .i64 x.b, .int .i64 x.m, .int .i64 S'.put]] W fun e w' => ∃ u F', e = .returned u ∧ Hs w' u (M.put S'.s now (hdIt x S'.put)).2 ∧ M.At w' F' (M.put S'.s now (hdIt x S'.put)).1 ∧ (∀ k, F' k → F k ∨ W.heap.size ≤ k) ∧ (∀ k, u.ownBlock = some k → F k ∨ W.heap.size ≤ k) ∧ Ot F W w') := fun W hW => HM.out.cP now (hdIt x S'.put) (HM.out.kept HA.out.que (fun k hk => hW.block k (HM.out.low HA.out.que k hk) (fun e => HA.out.fw (e ▸ hk)))) hinv t0 t1 (by omega) hok hxa rfl (by omega)
        have hln := (HM.out.iP now (hdIt x S'.put) hinv t0 t1 (by omega) hok hxa rfl (by omega)).2
        have HST : Hid (ComeI M C now S (putL M now x S')) := HI.out.step HM.out HC.out h2 HX.out hle hge
        have HLB : Hid (S'.lost.length ≤ 16000000000000 ∧ (M.put S'.s now (hdIt x S'.put)).2.length ≤ 1000000) := ⟨by have := HI.out.lost; have := HLL.out; have := HQ.out; have := HI.out.put; omega, hln⟩
        clear hinv hok hln hxa
        go_upto_region 30 with (fail)
        go_cut [4] (fun p wx => p = .pointer (some ⟨w1.heap.size, 0, none⟩) ∧ ∃ n, wx = (w1.alloc (.cells #[.int .i64 x.a, .int .i64 x.l, .int .i64 x.f, .int .i64 x.b, .int .i64 x.m, .int .i64 S'.put] 76)).drewN n)
        case first =>
          go_region
          all_goals
            go_wp2_with fail
            go_meet
            case rel => exact ⟨rfl, 1, rfl⟩
        case rest =>
          obtain ⟨rfl, nd, hwc⟩ := hcut
          have d0 : wc.heap[w1.heap.size]? = some (.cells #[.int .i64 x.a, .int .i64 x.l, .int .i64 x.f, .int .i64 x.b, .int .i64 x.m, .int .i64 S'.put] 76 (0, 0)) := by rw [hwc]; exact new_block _ _
          have hsz : wc.heap.size = w1.heap.size + 1 := by rw [hwc]; simp
          have HB12 : Hid (Below w1.heap.size w1 wc) := by show Below _ _ _; rw [hwc]; exact (below_alloc_ (Below.refl _ _) _).trans ⟨rfl, rfl, rfl, Nat.le_refl _, fun _ _ => rfl⟩
          have hAc : LkAt M C S' wc F sv lv := HA.out.below HM.out HB12.out
          clear hwc c0 c1 c2 c3 c4 c5 c6 f4 f5 hbw hbg x0 x1 x2 x3 x4 hxw hxne
          generalize wc = w2 at *
          have HD0 : Hid (w2.heap[w1.heap.size]? = some (.cells #[.int .i64 x.a, .int .i64 x.l, .int .i64 x.f, .int .i64 x.b, .int .i64 x.m, .int .i64 S'.put] 76 (0, 0))) := d0
          have HAC : Hid (LkAt M C S' w2 F sv lv) := hAc
          obtain ⟨c0, c1, c2, c3, c4, c5, c6, f4, f5, hbw, hbg⟩ := hAc.cells
          have hbne : C.bw ≠ w1.heap.size := by have := (HA.out.cells).2.2.2.2.2.2.2.2.2.1; omega
          have HBNE : Hid (C.bw ≠ w1.heap.size) := hbne
          clear d0 hAc
          go_wp2
          generalize hw3e : w2.setCell ⟨C.bw, 4, none⟩ (.int .i64 ((S'.put : Int) + 1)) = w3
          have ho3 : Ot (· = C.bw) w2 w3 := by rw [← hw3e]; exact Ot.setCell (S := (· = C.bw)) (p := ⟨C.bw, 4, none⟩) (Ot.refl _ _) (Or.inl rfl) _
          have hw3 : w3.heap[C.bw]? = some (.cells #[.iface M.ty M.rv, .int .i64 C.n, .int .i64 C.t, .slice C.x C.items.length C.cap, .int .i64 ((S'.put + 1 : Nat) : Int), .int .i64 S'.free, loseV C.bg] 103 (0, 0)) := by
            have e : ((S'.put + 1 : Nat) : Int) = (S'.put : Int) + 1 := by omega
            rw [← hw3e, e]
            exact wire_put HAC.out.wire _
          clear hw3e
          have hA3 : LkAt M C { S' with put := S'.put + 1 } w3 F sv lv := HAC.out.setw (S' := { S' with put := S'.put + 1 }) HM.out ho3 hw3 rfl rfl rfl rfl
          have hd3 : w3.heap[w1.heap.size]? = some (.cells #[.int .i64 x.a, .int .i64 x.l, .int .i64 x.f, .int .i64 x.b, .int .i64 x.m, .int .i64 S'.put] 76 (0, 0)) := (ho3.block _ (by omega) (fun e => HBNE.out e.symm)).trans HD0.out
          have hot13 : Ot (· = C.bw) w1 w3 := by
            exact (Ot.of_below HB12.out).trans ho3
          clear c0 c1 c2 c3 c4 c5 c6 f4 f5 hbw hbg ho3 hw3
          have HA3 : Hid (LkAt M C { S' with put := S'.put + 1 } w3 F sv lv) := hA3
          obtain ⟨c0, c1, c2, c3, c4, c5, c6, f4, f5, hbw, hbg⟩ := hA3.cells
          obtain ⟨⟨g0, g1, g2, g3, g4, g5⟩, _⟩ := six hd3
          have HP3 : Hid (∀ W, Below w3.heap.size w3 W → Calls Tryz.prog M.fP #[M.rP, .int .i64 now, .agg #[.int .i64 x.a, .int .i64 x.l, .int .i64 x.f, .int .i64 x.b, .int .i64 x.m, .int .i64 S'.put]] W fun e w' => ∃ u F', e = .returned u ∧ Hs w' u (M.put S'.s now (hdIt x S'.put)).2 ∧ LkAt M C { S' with s := (M.put S'.s now (hdIt x S'.put)).1, put := S'.put + 1 } w' F' sv lv ∧ u.ownBlock ≠ some C.bg ∧ (∀ k, u.ownBlock = some k → lv.ownBlock ≠ some k)) := by
            intro W hW
            refine (HPUT.out W (hot13.trans (Ot.of_below hW))).mono ?_
            rintro e w4 ⟨u, F4, rfl, hu4, ha4, hf4, hn4, ho4⟩
            have hAW := HA3.out.below HM.out hW
            refine ⟨u, F4, rfl, hu4, hAW.queue (S' := { S' with s := (M.put S'.s now (hdIt x S'.put)).1, put := S'.put + 1 }) ho4 ha4 hf4 rfl rfl rfl rfl rfl, ?_, ?_⟩
            · intro e
              rcases hn4 _ e with h1 | h1
              · exact hAW.fg h1
              · have := lt_of_block hAW.log; omega
            · intro k hk hk2
              rcases hn4 _ hk with h1 | h1
              · exact (hAW.ln k hk2).2.1 h1
              · have := Seg.lt hAW.lost hk2; omega
          have HT3 : Hid (∀ w4 u F4, Hs w4 u (M.put S'.s now (hdIt x S'.put)).2 → LkAt M C { S' with s := (M.put S'.s now (hdIt x S'.put)).1, put := S'.put + 1 } w4 F4 sv lv → u.ownBlock ≠ some C.bg → (∀ k, u.ownBlock = some k → lv.ownBlock ≠ some k) → ∀ W, Below w4.heap.size w4 W → Calls Tryz.prog 40 #[u, .pointer (some ⟨C.bg, 0, none⟩)] W fun e w' => e = .returned (.tuple #[]) ∧ LkW M C (putL M now x S') w') := by
            intro w4 u F4 hu4 hA4 hn1 hn2 W hW
            have hAW := hA4.below HM.out hW
            refine (tellLost_any W hAW.log (Hs.below hu4 hW) hAW.lost hn1 hn2 (fun e => (hAW.ln _ e).2.2.2 rfl) HLB.out.2 (by have := HLB.out.1; show S'.lost.length ≤ _; omega)).mono ?_
            rintro e w5 ⟨rfl, lv5, hg5, hi5, hn5, ho5⟩
            exact ⟨rfl, F4, sv, lv5, hAW.told (S' := putL M now x S') HM.out hg5 hi5 hn5 ho5 rfl rfl rfl rfl rfl⟩
          clear hA3 hd3 hot13
          unfold loseV at c6
          go_region_with (first | (refine (HP3.out _ ?_).mono ?_; exact ⟨rfl, rfl, rfl, Nat.le_refl _, fun _ _ => rfl⟩; rintro e w4 ⟨u, F4, rfl, hu4, hA4, hn1, hn2⟩; have c66 := hA4.cells.2.2.2.2.2.2.1; unfold loseV at c66) | (go_at_call 40; refine (HT3.out w4 u F4 hu4 hA4 hn1 hn2 _ ?_).mono ?_; exact ⟨rfl, rfl, rfl, Nat.le_refl _, fun _ _ => rfl⟩; rintro e w5 ⟨rfl, hW5⟩))
          all_goals
            go_wp2_with fail
            go_roundw
            case rel => exact ⟨putL M now x S', hW5.below HM.out ⟨rfl, rfl, rfl, Nat.le_refl _, fun _ _ => rfl⟩, HST.out⟩
            case measure =>
              have e5 := hW5.putAt
              have e6 := HPA.out
              show C.items.length - putAt C.bw w5 < C.items.length - putAt C.bw wr
              rw [e5, e6]
              show _ - (S'.put + 1) < _
              omega
      · have HLE : Hid (¬ x.a ≤ now) := hle
        go_wp2
        go_quiet (fail)
        go_wp2
        go_end0
        have e := comeS_late (M := M) (now := now) HX.out (by have := HLE.out; omega)
        have hs := HI.out.same
        rw [e] at hs
        rw [← hs]
        exact ⟨rfl, HW.out.below HM.out ⟨rfl, rfl, rfl, Nat.le_refl _, fun _ _ => rfl⟩, HI.out, fun y hy => by rw [HX.out] at hy; obtain rfl := Option.some.inj hy; have := HLE.out; omega⟩
    · have HLT : Hid (C.items.length ≤ S'.put) := by show _ ≤ _; omega
      go_wp2
      go_quiet (fail)
      go_wp2
      go_end0
      have e := comeS_none (M := M) (now := now) HLT.out
      have hs := HI.out.same
      rw [e] at hs
      rw [← hs]
      exact ⟨rfl, HW.out.below HM.out ⟨rfl, rfl, rfl, Nat.le_refl _, fun _ _ => rfl⟩, HI.out, fun y hy => by rw [List.getElem?_eq_none HLT.out] at hy; cases hy⟩
end Go.Proofs.YtfakjedolecdcaaGreatDoor
namespace Go.Proofs.YtfakjedolecdcaaGreatDoor
open Go.RowKit Go.Extern.Stop Go.Stop Go.Extern

def Snt.val (s : Snt) : Value := .agg #[.int .i64 s.n, .int .i64 s.f, .int .i64 s.t, .int .i64 s.m]
theorem below_drew1 (w : World) : Below w.heap.size w w.drew := ⟨rfl, rfl, rfl, Nat.le_refl _, fun _ _ => rfl⟩
def snt0 : Snt := ⟨0, 0, 0, 0⟩
theorem infoSent : (Tryz.prog.info? 49).map (fun i => (i.zero, i.size, i.bytes)) = some (some (.agg #[.int .i64 0, .int .i64 0, .int .i64 0, .int .i64 0]), 4, 32) := by kernel_rfl
theorem sizeSent : (Tryz.prog.info? 49).map (·.size) = some 4 := by kernel_rfl
theorem load_sent {w : World} {b : Nat} {t : TypeId} {fr : Nat × Nat} {x : Snt} (h : w.heap[b]? = some (.cells #[.int .i64 x.n, .int .i64 x.f, .int .i64 x.t, .int .i64 x.m] t fr)) : (loadVar 49 ⟨b, 0, none⟩).run Tryz.prog w = .ok x.val w :=
  run_loadVar_row w b t 49 _ fr _ h Tryz.underlying49 rfl sizeSent
theorem four_set {w : World} {b : Nat} {t : TypeId} {p0 p1 p2 p3 : Value} (h : w.heap[b]? = some (.cells #[p0, p1, p2, p3] t (0, 0))) (a0 a1 a2 a3 : Value) :
    ((((w.setCell ⟨b, 0, none⟩ a0).setCell ⟨b, 1, none⟩ a1).setCell ⟨b, 2, none⟩ a2).setCell ⟨b, 3, none⟩ a3).heap[b]? = some (.cells #[a0, a1, a2, a3] t (0, 0)) := by
  rw [heap_setCell_here (heap_setCell_here (heap_setCell_here (heap_setCell_here h a0) a1) a2) a3]
  simp
theorem four {w : World} {b : Nat} {t : TypeId} {p0 p1 p2 p3 : Value} (h : w.heap[b]? = some (.cells #[p0, p1, p2, p3] t (0, 0))) : (w.cell? ⟨b, 0, none⟩ = some p0 ∧ w.cell? ⟨b, 1, none⟩ = some p1 ∧ w.cell? ⟨b, 2, none⟩ = some p2 ∧ w.cell? ⟨b, 3, none⟩ = some p3) ∧ w.frozen? ⟨b, 0, none⟩ = false ∧ w.frozen? ⟨b, 1, none⟩ = false ∧ w.frozen? ⟨b, 2, none⟩ = false ∧ w.frozen? ⟨b, 3, none⟩ = false := by
  refine ⟨⟨?_, ?_, ?_, ?_⟩, ?_, ?_, ?_, ?_⟩
  all_goals simp [World.cell?, World.frozen?, h]
/-- What goes at a time. -/
def sendS (M : QM) (n t now : Int) (S : LkS M.σ) : LkS M.σ × Option Snt :=
  if now < S.free then (S, none)
  else if (M.take S.s now).2.2.2 = true then ({ S with s := (M.take S.s now).1, lost := S.lost ++ (M.take S.s now).2.1.map Hd.n, free := now + tkL n t (M.take S.s now).2.2.1.l }, some ⟨(M.take S.s now).2.2.1.n, now, now + tkL n t (M.take S.s now).2.2.1.l, (M.take S.s now).2.2.1.m⟩)
  else ({ S with s := (M.take S.s now).1, lost := S.lost ++ (M.take S.s now).2.1.map Hd.n }, none)
def ans (o : Option Snt) : Value := .tuple #[(o.getD snt0).val, .bool o.isSome]
/-- Beside the wire a block is written that is none of its own. -/
theorem LkAt.aside {M : QM} (hM : M.Fine) {C : LkC} {S : LkS M.σ} {w w' : World} {F : Nat → Prop} {sv lv : Value} {b : Nat} (h : LkAt M C S w F sv lv) (ho : Ot (· = b) w w') (hw : b ≠ C.bw) (hg : b ≠ C.bg) (hf : ¬ F b) (hs : sv.ownBlock ≠ some b) (hl : lv.ownBlock ≠ some b) (hb : C.w0.heap.size ≤ b) : LkAt M C S w' F sv lv := by
  refine ⟨?_, ?_, ?_, ?_, ?_, h.fw, h.fg, h.wg, h.wb, h.gb, h.sn, h.ln, h.fnew, ?_⟩
  · rw [ho.block _ (lt_of_block h.wire) (fun e => hw e.symm), h.wire]
  · rw [ho.block _ (lt_of_block h.log) (fun e => hg e.symm), h.log]
  · exact hM.kept h.que (fun k hk => ho.block k (hM.low h.que k hk) (fun e => hf (e ▸ hk)))
  · exact h.sent.oth ho (fun k hk e => hs (e ▸ hk))
  · exact Seg.oth h.lost ho (fun k hk e => hl (e ▸ hk))
  · exact h.ot.trans' ho (fun i hi hlt => by omega)
set_option maxHeartbeats 2000000 in
theorem send_busy {M : QM} (hM : M.Fine) {C : LkC} {S : LkS M.σ} {now : Int} (w : World) (h : LkW M C S w) (hb : now < S.free) :
    Calls Tryz.prog 43 #[.pointer (some ⟨C.bw, 0, none⟩), .int .i64 now] w fun e w' => e = .returned (ans none) ∧ LkW M C S w' := by
  have HM : Hid M.Fine := hM
  have HW0 : Hid (LkW M C S w) := h
  obtain ⟨F, sv, lv, hat⟩ := h
  obtain ⟨c0, c1, c2, c3, c4, c5, c6, f4, f5, hbw, hbg⟩ := hat.cells
  clear hM hat
  go_enter Tryz.func43, Tryz.ntmps43
  go_wp2_with fail
  have HZ : Hid ((w.alloc (.cells #[.int .i64 0, .int .i64 0, .int .i64 0, .int .i64 0] 49)).heap[w.heap.size]? = some (.cells #[.int .i64 0, .int .i64 0, .int .i64 0, .int .i64 0] 49 (0, 0))) := new_block _ _
  refine (busy_any (free := S.free) now _ ?_).mono ?_
  · rw [World.cell?_alloc_lt _ _ _ hbw]; exact c5
  rintro e w' ⟨rfl, rfl⟩
  have hd : decide (now < S.free) = true := decide_eq_true hb
  go_wp2
  (try simp only [Exit.inBlock, Exit.then])
  refine bodyPost_ret (v := ans none) ?_ rfl ⟨rfl, HW0.out.below HM.out (below_alloc_ (Below.refl _ _) _)⟩
  rw [results_cell_tmp rfl]
  have hld := load_sent (x := snt0) (w := w.alloc (.cells #[.int .i64 0, .int .i64 0, .int .i64 0, .int .i64 0] 49)) HZ.out
  simp [asAddr, Result.andThen, hld, ans]
set_option maxRecDepth 20000 in
set_option maxHeartbeats 4000000 in
theorem send_free {M : QM} (hM : M.Fine) {C : LkC} (hC : C.Good) {S : LkS M.σ} {now : Int} (w : World) (h : LkW M C S w) (hb : ¬ now < S.free) (h2 : now ≤ 10000000) (hI : ∃ tI, 0 ≤ tI ∧ tI ≤ now ∧ M.inv tI S.put S.s) (hput : S.put ≤ C.items.length) (hl : S.lost.length ≤ 16000000000000) :
    Calls Tryz.prog 43 #[.pointer (some ⟨C.bw, 0, none⟩), .int .i64 now] w fun e w' => e = .returned (ans (sendS M C.n C.t now S).2) ∧ LkW M C (sendS M C.n C.t now S).1 w' := by
  have HM : Hid M.Fine := hM
  have HC : Hid C.Good := hC
  obtain ⟨F, sv, lv, hat⟩ := h
  have HA : Hid (LkAt M C S w F sv lv) := hat
  have hlen := hC.len
  obtain ⟨tI, t0, t1, hinv⟩ := hI
  have HR : Hid (okRate C.n C.t = true) := hC.rate
  have HT : Hid (∀ W, Below w.heap.size w W → Calls Tryz.prog M.fT #[M.rT, .int .i64 now] W fun e w' => ∃ u F', e = .returned (.tuple #[(M.take S.s now).2.2.1.val, u, .bool (M.take S.s now).2.2.2]) ∧ Hs w' u (M.take S.s now).2.1 ∧ LkAt M C { S with s := (M.take S.s now).1 } w' F' sv lv ∧ (u.ownBlock ≠ some C.bg ∧ (∀ k, u.ownBlock = some k → lv.ownBlock ≠ some k)) ∧ ∀ b, w.heap.size ≤ b → b < W.heap.size → w'.heap[b]? = W.heap[b]? ∧ ¬ F' b) := by
    intro W hW
    have hAW := HA.out.below HM.out hW
    refine (HM.out.cT now hAW.que hinv t0 t1 (by omega) (by omega)).mono ?_
    rintro e w4 ⟨u, F4, rfl, hu4, ha4, hf4, hn4, ho4⟩
    refine ⟨u, F4, rfl, hu4, hAW.queue (S' := { S with s := (M.take S.s now).1 }) ho4 ha4 hf4 rfl rfl rfl rfl rfl, ⟨?_, ?_⟩, ?_⟩
    · intro e
      rcases hn4 _ e with h1 | h1
      · exact hAW.fg h1
      · have := lt_of_block hAW.log; omega
    · intro k hk hk2
      rcases hn4 _ hk with h1 | h1
      · exact (hAW.ln k hk2).2.1 h1
      · have := Seg.lt hAW.lost hk2; omega
    · intro b h1 h2
      have hnf : ¬ F b := fun hf => by have := HM.out.low HA.out.que b hf; omega
      exact ⟨ho4.block b h2 hnf, fun hf => by rcases hf4 b hf with h3 | h3; exact hnf h3; omega⟩
  have hln := (HM.out.iT now hinv t0 t1 (by omega) (by omega)).2
  have HSS : Hid (sendS M C.n C.t now S = if (M.take S.s now).2.2.2 = true then ({ S with s := (M.take S.s now).1, lost := S.lost ++ (M.take S.s now).2.1.map Hd.n, free := now + tkL C.n C.t (M.take S.s now).2.2.1.l }, some ⟨(M.take S.s now).2.2.1.n, now, now + tkL C.n C.t (M.take S.s now).2.2.1.l, (M.take S.s now).2.2.1.m⟩) else ({ S with s := (M.take S.s now).1, lost := S.lost ++ (M.take S.s now).2.1.map Hd.n }, none)) := by show _ = _; unfold sendS; rw [if_neg hb]
  have hmT := hM.mT
  have heT := hM.eT
  have heL := entersLose
  have hV := Hd.val_eq
  have hn0 : 0 ≤ now := by omega
  generalize M.take S.s now = Tk at *
  obtain ⟨s2, L2, x, ok⟩ := Tk
  simp only at HT HSS hln
  have HLB : Hid (S.lost.length ≤ 16000000000000 ∧ L2.length ≤ 1000000) := ⟨hl, hln⟩
  obtain ⟨c0, c1, c2, c3, c4, c5, c6, f4, f5, hbw, hbg⟩ := hat.cells
  clear hM hat hC hinv hln
  go_enter Tryz.func43, Tryz.ntmps43
  go_wp2_with fail
  have HZ : Hid ((w.alloc (.cells #[.int .i64 0, .int .i64 0, .int .i64 0, .int .i64 0] 49)).heap[w.heap.size]? = some (.cells #[.int .i64 0, .int .i64 0, .int .i64 0, .int .i64 0] 49 (0, 0))) := new_block _ _
  have HB1 : Hid (Below w.heap.size w (w.alloc (.cells #[.int .i64 0, .int .i64 0, .int .i64 0, .int .i64 0] 49))) := below_alloc_ (Below.refl _ _) _
  have hs1 : (w.alloc (.cells #[.int .i64 0, .int .i64 0, .int .i64 0, .int .i64 0] 49)).heap.size = w.heap.size + 1 := by simp
  generalize w.alloc (.cells #[.int .i64 0, .int .i64 0, .int .i64 0, .int .i64 0] 49) = w1 at *
  clear c0 c1 c2 c3 c4 c5 c6 f4 f5
  obtain ⟨c0, c1, c2, c3, c4, c5, c6, f4, f5, _, _⟩ := (HA.out.below HM.out HB1.out).cells
  refine (busy_any (free := S.free) now _ c5).mono ?_
  rintro e w' ⟨rfl, rfl⟩
  have hd : decide (now < S.free) = false := by simp only [decide_eq_false_iff_not]; omega
  go_wp2_with fail
  refine (HT.out _ HB1.out).mono ?_
  rintro e w2 ⟨u, F2, rfl, hu2, hA2, hn2, hk2⟩
  have hz2 : w2.heap[w.heap.size]? = some (.cells #[.int .i64 0, .int .i64 0, .int .i64 0, .int .i64 0] 49 (0, 0)) := (hk2 _ (Nat.le_refl _) (by omega)).1.trans HZ.out
  have HA2 : Hid (LkAt M C { S with s := s2 } w2 F2 sv lv) := hA2
  have HU2 : Hid (Hs w2 u L2) := hu2
  have HN2 : Hid (u.ownBlock ≠ some C.bg ∧ (∀ k, u.ownBlock = some k → lv.ownBlock ≠ some k)) := hn2
  have HZ2 : Hid (w2.heap[w.heap.size]? = some (.cells #[.int .i64 0, .int .i64 0, .int .i64 0, .int .i64 0] 49 (0, 0))) := hz2
  have hs2 : w.heap.size < w2.heap.size := lt_of_block hz2
  have HLV : Hid (∀ k, lv.ownBlock = some k → k < w.heap.size) := fun k hk => Seg.lt HA.out.lost hk
  have HSV : Hid (∀ k, sv.ownBlock = some k → k < w.heap.size) := fun k hk => HA.out.sent.lt hk
  have HF2 : Hid (¬ F2 w.heap.size) := (hk2 _ (Nat.le_refl _) (by omega)).2
  clear c0 c1 c2 c3 c4 c5 c6 f4 f5 hk2 hn2 hu2 hz2
  obtain ⟨c0, c1, c2, c3, c4, c5, c6, f4, f5, hbw2, hbg2⟩ := hA2.cells
  clear hA2
  unfold loseV at c6
  go_wp2_with (go_at_call 40; fail)
  have hb23 : Below w2.heap.size w2 (w2.alloc (.cells #[.int .i64 x.a, .int .i64 x.l, .int .i64 x.f, .int .i64 x.b, .int .i64 x.m, .int .i64 x.n] 76)) := below_alloc_ (Below.refl _ _) _
  have hd3 : (w2.alloc (.cells #[.int .i64 x.a, .int .i64 x.l, .int .i64 x.f, .int .i64 x.b, .int .i64 x.m, .int .i64 x.n] 76)).heap[w2.heap.size]? = some (.cells #[.int .i64 x.a, .int .i64 x.l, .int .i64 x.f, .int .i64 x.b, .int .i64 x.m, .int .i64 x.n] 76 (0, 0)) := new_block _ _
  generalize w2.alloc (.cells #[.int .i64 x.a, .int .i64 x.l, .int .i64 x.f, .int .i64 x.b, .int .i64 x.m, .int .i64 x.n] 76) = w3 at *
  have hA3 := HA2.out.below HM.out hb23
  have hz3 := (hb23.block _ hs2).trans HZ2.out
  refine (tellLost_any w3 hA3.log (Hs.below HU2.out hb23) hA3.lost HN2.out.1 HN2.out.2 (fun e => (hA3.ln _ e).2.2.2 rfl) HLB.out.2 (by have := HLB.out.1; show S.lost.length ≤ _; omega)).mono ?_
  rintro e w4 ⟨rfl, lv4, hg4, hi4, hn4, ho4⟩
  have hA4 : LkAt M C { S with s := s2, lost := S.lost ++ L2.map Hd.n } w4 F2 sv lv4 := hA3.told (S' := { S with s := s2, lost := S.lost ++ L2.map Hd.n }) HM.out hg4 hi4 hn4 ho4 rfl rfl rfl rfl rfl
  have hz4 : w4.heap[w.heap.size]? = some (.cells #[.int .i64 0, .int .i64 0, .int .i64 0, .int .i64 0] 49 (0, 0)) := (ho4.block _ (lt_of_block hz3) (fun e => by rcases e with e | e; omega; have := HLV.out _ e; omega)).trans hz3
  have hd4 : w4.heap[w2.heap.size]? = some (.cells #[.int .i64 x.a, .int .i64 x.l, .int .i64 x.f, .int .i64 x.b, .int .i64 x.m, .int .i64 x.n] 76 (0, 0)) := (ho4.block _ (lt_of_block hd3) (fun e => by rcases e with e | e; omega; have := HLV.out _ e; omega)).trans hd3
  have HL4 : Hid (∀ k, lv4.ownBlock = some k → k ≠ w.heap.size ∧ k ≠ w2.heap.size) := fun k hk => by
    rcases hn4 k hk with h1 | h1
    · have := HLV.out _ h1; omega
    · have := lt_of_block hd3; omega
  have HA4 : Hid (LkAt M C { S with s := s2, lost := S.lost ++ L2.map Hd.n } w4 F2 sv lv4) := hA4
  have HZ4 : Hid _ := hz4
  have HD4 : Hid _ := hd4
  clear c0 c1 c2 c3 c4 c5 c6 f4 f5 hA3 hz3 hg4 hi4 hn4 ho4 hd3 hb23 hbw2 hbg2
  obtain ⟨c0, c1, c2, c3, c4, c5, c6, f4, f5, hbw4, hbg4⟩ := hA4.cells
  obtain ⟨⟨z0, z1, z2, z3⟩, y0, y1, y2, y3⟩ := four hz4
  obtain ⟨⟨k0, k1, k2, k3, k4, k5⟩, _⟩ := six hd4
  have hz4l := lt_of_block hz4
  have hd4l := lt_of_block hd4
  clear hA4 hz4 hd4
  have hwb : C.w0.heap.size ≤ w.heap.size := HA.out.ot.size
  cases ok with
  | false =>
    go_wp2
    (try simp only [Exit.inBlock, Exit.then])
    rw [HSS.out]
    refine bodyPost_ret (v := ans none) ?_ rfl ⟨rfl, F2, sv, lv4, ?_⟩
    · rw [results_cell_tmp rfl]
      have hld := load_sent (x := snt0) (four_set HZ4.out (.int .i64 0) (.int .i64 0) (.int .i64 0) (.int .i64 0))
      simp [asAddr, Result.andThen, hld, ans]
    · refine HA4.out.aside (b := w.heap.size) HM.out ?_ (by omega) (by omega) HF2.out (fun e => by have := HSV.out _ e; omega) (fun e => (HL4.out _ e).1 rfl) hwb
      repeat' (first | with_reducible exact Ot.refl _ _ | with_reducible refine Ot.setCell ?_ (by simp) _)
  | true =>
    have htk := tkL_le (x := x.l) HR.out
    have ewr : IntKind.i64.wrap (now + tkL C.n C.t x.l) = now + tkL C.n C.t x.l := by rw [IntKind.wrap_i64]; omega
    go_upto_region 32 with (fail)
    go_cut [42] (fun _ wx => LkAt M C { S with s := s2, lost := S.lost ++ L2.map Hd.n, free := now + tkL C.n C.t x.l } wx F2 sv lv4 ∧ wx.heap[w.heap.size]? = some (.cells #[.int .i64 0, .int .i64 0, .int .i64 0, .int .i64 0] 49 (0, 0)) ∧ wx.heap[w2.heap.size]? = some (.cells #[.int .i64 x.a, .int .i64 x.l, .int .i64 x.f, .int .i64 x.b, .int .i64 x.m, .int .i64 x.n] 76 (0, 0)))
    case first =>
      go_region_with (go_at_call 14; refine (takes_both C.n C.t x.l _ HR.out).mono ?_; rintro e w5 ⟨rfl, hb5⟩; have hb55 : Below w4.heap.size w4 w5 := (below_drew1 w4).trans hb5; obtain ⟨_, _, _, _, _, q5, _, _, g5, _, _⟩ := (HA4.out.below HM.out hb55).cells)
      all_goals
        go_wp2_with fail
        go_meet
        case rel =>
          try rw [ewr]
          have hA5 := HA4.out.below HM.out hb55
          have hl5 := hA5.cells.2.2.2.2.2.2.2.2.2
          have ho6 : Ot (· = C.bw) w5 (w5.setCell ⟨C.bw, 5, none⟩ (.int .i64 (now + tkL C.n C.t x.l))) := Ot.setCell (S := (· = C.bw)) (p := ⟨C.bw, 5, none⟩) (Ot.refl _ _) (Or.inl rfl) _
          refine ⟨hA5.setw (S' := { S with s := s2, lost := S.lost ++ L2.map Hd.n, free := now + tkL C.n C.t x.l }) HM.out ho6 (wire_free hA5.wire _) rfl rfl rfl rfl, ?_, ?_⟩
          · exact (ho6.block _ (by have := hb55.size; omega) (fun e => by omega)).trans ((hb55.block _ hz4l).trans HZ4.out)
          · exact (ho6.block _ (by have := hb55.size; omega) (fun e => by omega)).trans ((hb55.block _ hd4l).trans HD4.out)
    case rest =>
    obtain ⟨hA5, hz5, hd5⟩ := hcut
    have HA5 : Hid _ := hA5
    have HZ5 : Hid _ := hz5
    clear c0 c1 c2 c3 c4 c5 c6 f4 f5 z0 z1 z2 z3 y0 y1 y2 y3 k0 k1 k2 k3 k4 k5 hbw4 hbg4 hz4l hd4l
    obtain ⟨c0, c1, c2, c3, c4, c5, c6, f4, f5, hbw5, hbg5⟩ := hA5.cells
    obtain ⟨⟨z0, z1, z2, z3⟩, y0, y1, y2, y3⟩ := four hz5
    obtain ⟨⟨k0, k1, k2, k3, k4, k5⟩, _⟩ := six hd5
    have hz5l := lt_of_block hz5
    have hd5l := lt_of_block hd5
    have hne1 : w.heap.size ≠ C.bw := by omega
    have hne2 : w.heap.size ≠ w2.heap.size := by omega
    clear hA5 hz5 hd5
    simp only at c5
    go_wp2
    go_region
    all_goals
      go_wp2
      (try simp only [Exit.inBlock, Exit.then])
      rw [HSS.out]
      refine bodyPost_ret (v := ans (some ⟨x.n, now, now + tkL C.n C.t x.l, x.m⟩)) ?_ rfl ⟨rfl, F2, sv, lv4, ?_⟩
      · rw [results_cell_tmp rfl]
        have hld := load_sent (w := (((((wc.setCell ⟨w.heap.size, 0, none⟩ (.int .i64 x.n)).setCell ⟨w.heap.size, 1, none⟩ (.int .i64 now)).setCell ⟨w.heap.size, 2, none⟩ (.int .i64 (now + tkL C.n C.t x.l))).setCell ⟨w.heap.size, 3, none⟩ (.int .i64 x.m)).drew)) (x := ⟨x.n, now, now + tkL C.n C.t x.l, x.m⟩) (four_set HZ5.out (.int .i64 x.n) (.int .i64 now) (.int .i64 (now + tkL C.n C.t x.l)) (.int .i64 x.m))
        simp [asAddr, Result.andThen, hld, ans]
      · refine HA5.out.aside (b := w.heap.size) HM.out ?_ hne1 (by omega) HF2.out (fun e => by have := HSV.out _ e; omega) (fun e => (HL4.out _ e).1 rfl) hwb
        refine Ot.drew ?_
        repeat' (first | with_reducible exact Ot.refl _ _ | with_reducible refine Ot.setCell ?_ (by simp) _)
end Go.Proofs.YtfakjedolecdcaaGreatDoor
