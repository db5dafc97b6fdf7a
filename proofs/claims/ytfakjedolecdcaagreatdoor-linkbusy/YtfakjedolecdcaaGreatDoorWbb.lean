/-
  LinkBusy's two runs: who comes first, and one of four texts. Conditions: what errors and strconv have laid; the rate and the packets may be.
-/
import Derived.Test.YtfakjedolecdcaaGreatDoorGvd
namespace Go.Proofs.YtfakjedolecdcaaGreatDoor
open Go.RowKit Go.Extern.Stop Go.Stop Go.Extern

def pk4 (a : Int) : Nat := ((a % 18446744073709551616) % 4).toNat
theorem pk4_lt (a : Int) : pk4 a < 4 := by unfold pk4; omega
theorem pick4_any (a : Int) (w : World) : Calls Tryz.prog 15 #[.int .i64 a, .int .i64 4] w fun e w' => e = .returned (.int .i64 (pk4 a)) ∧ w' = w := by
  have h1 : ((4 : Int) == 0) = false := by decide
  have hz : wrap64 ((IntKind.u64.wrap a).tmod 4) = (pk4 a : Int) := by
    rw [IntKind.wrap_u64, Int.tmod_eq_emod_of_nonneg (by omega)]
    unfold pk4 wrap64
    omega
  have HZ : Hid (wrap64 ((IntKind.u64.wrap a).tmod 4) = (pk4 a : Int)) := hz
  clear hz
  go_enter Tryz.func15, Tryz.ntmps15
  go_wp2
  go_ret
  exact ⟨by show Ending.returned (.int .i64 (wrap64 ((IntKind.u64.wrap a).tmod 4))) = _; rw [HZ.out], rfl⟩
def txt4 : Nat → ByteArray
  | 0 => textB3
  | 1 => textS
  | 2 => textR
  | _ => textH
theorem parse4 (p : Nat) (w : World) (hG : Glob w) : Calls Tryz.prog 7 #[.string (txt4 p), .slice none 0 0] w fun e w' => Qd w w' e ∧ Below w.heap.size w w' := by
  match p with
  | 0 => exact parseB3 w hG
  | 1 => exact parseS w hG
  | 2 => exact parseR w hG
  | p + 3 => exact parseH w hG
/-- What the run of who comes first gives. -/
def RunA (items : List It) (n t : Int) (w w' : World) (sent : List Snt) (sv : Value) : Prop := Seg w' 49 4 sv sent.length (flt Snt.cs sent) ∧ (∀ (i : Nat) (s : Snt), sent[i]? = some s → s.f = bgA items n t i ∧ s.t = frA items n t (i + 1)) ∧ sent.length ≤ items.length ∧ Below w.heap.size w w'
theorem runA_yes (n t : Int) (x : Option Addr) (cap : Nat) (items : List It) (w : World) (hG : Glob w) (hL : Laid w) (hr : okRate n t = true) (hl : okL items) (hit : ItemsAt w x items) (hm : items.length ≤ 60) :
    Calls Tryz.prog 11 #[.string ⟨#[102, 105, 102, 111, 32, 49, 48, 48, 48, 32, 49, 48, 48, 48, 48, 48, 48]⟩, .agg #[.int .i64 n, .int .i64 t], .slice x items.length cap, .int .i64 9000000] w fun e w' => ∃ (sent : List Snt) (sx lx : Option Addr) (sc lc : Nat) (wt ms : Int), e = .returned (.tuple #[.agg #[.slice sx sent.length sc, .slice lx 0 lc, .int .i64 wt, .int .i64 ms], .bool true]) ∧ RunA items n t w w' sent (.slice sx sent.length sc) := by
  refine (runF_yes n t x cap items 9000000 w hG hL hr hl hit (by unfold maxLen; omega) (by decide) (by decide)).mono ?_
  rintro e w' ⟨q, k, sv, lv, rfl, hR⟩
  obtain ⟨S, hS, h1, h2, h3, h4, h5⟩ := lw_end hl hr (by decide) hR.on hR.off
  have hsent := hR.sent
  have hlost := hR.lost
  have e1 : (itL (FifoM q 1000 1000000 false) items n t ([] : List Hd) k).1.sent = S.sent := congrArg LkS.sent hS
  have e2 : (itL (FifoM q 1000 1000000 false) items n t ([] : List Hd) k).1.lost = S.lost := congrArg LkS.lost hS
  rw [e1] at hsent
  rw [e2, h1] at hlost
  obtain ⟨sx, sc, rfl⟩ : ∃ x c, sv = .slice x S.sent.length c := by
    rcases Seg.form hsent with ⟨h, h0⟩ | ⟨b, o, c, h, _⟩
    · exact ⟨none, 0, by rw [h, h0.1]⟩
    · exact ⟨_, _, h⟩
  obtain ⟨lx, lc, rfl⟩ : ∃ x c, lv = .slice x 0 c := by
    rcases Seg.form hlost with ⟨h, _⟩ | ⟨b, o, c, h, _⟩
    · exact ⟨none, 0, h⟩
    · exact ⟨_, _, h⟩
  exact ⟨S.sent, sx, lx, sc, lc, _, _, rfl, hsent, fun i s hs => ⟨(h2 i s hs).2.1, (h2 i s hs).2.2.1⟩, h3, hR.below⟩
theorem runB_yes (p : Nat) (n t : Int) (x : Option Addr) (cap : Nat) (items : List It) (w : World) (hG : Glob w) (hL : Laid w) (hr : okRate n t = true) (hl : okL items) (hit : ItemsAt w x items) (hm : items.length ≤ 60) :
    Calls Tryz.prog 11 #[.string (txt4 p), .agg #[.int .i64 n, .int .i64 t], .slice x items.length cap, .int .i64 9000000] w fun e w' => ∃ sv lv wt ms, e = .returned (.tuple #[.agg #[sv, lv, .int .i64 wt, .int .i64 ms], .bool true]) ∧ RunG items n t 9000000 w w' sv lv :=
  runG_yes (txt4 p) n t x cap items 9000000 w (fun w1 h1 => parse4 p w1 (hG.below h1)) hL hr hl hit hm (by decide) (by decide)
theorem lie4 {w : World} {b : Nat} {a0 a1 a2 a3 : Value} {T : TypeId} (h : w.heap[b]? = some (.cells #[a0, a1, a2, a3] T (0, 0))) : w.cell? ⟨b, 0, none⟩ = some a0 ∧ w.cell? ⟨b, 1, none⟩ = some a1 ∧ w.cell? ⟨b, 2, none⟩ = some a2 ∧ w.cell? ⟨b, 3, none⟩ = some a3 ∧ w.frozen? ⟨b, 0, none⟩ = false ∧ w.frozen? ⟨b, 1, none⟩ = false ∧ w.frozen? ⟨b, 2, none⟩ = false ∧ w.frozen? ⟨b, 3, none⟩ = false := by
  refine ⟨?_, ?_, ?_, ?_, ?_, ?_, ?_, ?_⟩ <;> simp [World.cell?, World.frozen?, h]
theorem lie2 {w : World} {b : Nat} {a0 a1 : Value} {T : TypeId} (h : w.heap[b]? = some (.cells #[a0, a1] T (0, 0))) : w.cell? ⟨b, 0, none⟩ = some a0 ∧ w.cell? ⟨b, 1, none⟩ = some a1 := by
  constructor <;> simp [World.cell?, h]
/-- All of the second run behind it. -/
def EndB (items : List It) (n t : Int) (wc wx : World) (b2 : Nat) : Prop := ∃ (sv lv : Value) (wt ms : Int), wx.heap[b2]? = some (.cells #[sv, lv, .int .i64 wt, .int .i64 ms] 41 (0, 0)) ∧ wc.heap.size ≤ b2 ∧ RunG items n t 9000000 wc wx sv lv
theorem RunG.from {items : List It} {n t : Int} {wq W W5 : World} {sv lv : Value} (hg : RunG items n t 9000000 W W5 sv lv) (hW : Below wq.heap.size wq W) : RunG items n t 9000000 wq W5 sv lv := by
  obtain ⟨sent, sx, lx, sc, lc, e1, e2, h1, h2, h3, h4, h5⟩ := hg
  exact ⟨sent, sx, lx, sc, lc, e1, e2, h1, fun b hb => Nat.le_trans hW.size (h2 b hb), h3, h4, hW.trans (h5.mono hW.size)⟩
theorem EndB.after {items : List It} {n t : Int} {wq W5 : World} {sv lv : Value} {wt ms : Int} (hg : RunG items n t 9000000 wq W5 sv lv) : EndB items n t wq (W5.alloc (.cells #[sv, lv, .int .i64 wt, .int .i64 ms] 41)) W5.heap.size := by
  obtain ⟨sent, sx, lx, sc, lc, e1, e2, h1, h2, h3, h4, h5⟩ := hg
  exact ⟨sv, lv, wt, ms, new_block _ _, h5.size, sent, sx, lx, sc, lc, e1, e2, h1.alloc _, h2, h3, h4, h5.alloc h5.size _⟩
theorem EndB.ahead {items : List It} {n t : Int} {wq W5 : World} {sv lv : Value} {wt ms : Int} {b2 : Nat} {z0 z1 z2 z3 : Value} (hg : RunG items n t 9000000 wq W5 sv lv) (hb2 : wq.heap.size ≤ b2) (hx5 : W5.heap[b2]? = some (.cells #[z0, z1, z2, z3] 41 (0, 0))) :
    EndB items n t wq ((((W5.setCell ⟨b2, 0, none⟩ sv).setCell ⟨b2, 1, none⟩ lv).setCell ⟨b2, 2, none⟩ (.int .i64 wt)).setCell ⟨b2, 3, none⟩ (.int .i64 ms)) b2 := by
  obtain ⟨sent, sx, lx, sc, lc, e1, e2, h1, h2, h3, h4, h5⟩ := hg
  have hot : Ot (fun k => k = b2) W5 ((((W5.setCell ⟨b2, 0, none⟩ sv).setCell ⟨b2, 1, none⟩ lv).setCell ⟨b2, 2, none⟩ (.int .i64 wt)).setCell ⟨b2, 3, none⟩ (.int .i64 ms)) := by
    repeat' (first | with_reducible exact Ot.refl _ _ | with_reducible refine Ot.setCell ?_ (by simp) _)
  refine ⟨sv, lv, wt, ms, ?_, hb2, sent, sx, lx, sc, lc, e1, e2, h1.oth hot (fun b hb' e => ?_), h2, h3, h4, h5.trans (hot.below h5.size (fun k hk => by omega))⟩
  · rw [heap_setCell_here (heap_setCell_here (heap_setCell_here (heap_setCell_here hx5 _) _) _) _]
    simp
  · rcases h1.2 with ⟨h0, _⟩ | ⟨g, off, cap, cur, h0, hc, _⟩
    · rw [h0] at hb'; cases hb'
    · rw [h0] at hb'
      cases hb'
      rw [show g = b2 from e, hx5] at hc
      cases hc
theorem EndB.drew {items : List It} {n t : Int} {wq W : World} {b2 : Nat} (h : EndB items n t wq W b2) : EndB items n t wq W.drew b2 := by
  obtain ⟨sv, lv, wt, ms, h0, hb, sent, sx, lx, sc, lc, e1, e2, h1, h2, h3, h4, h5⟩ := h
  exact ⟨sv, lv, wt, ms, h0, hb, sent, sx, lx, sc, lc, e1, e2, h1.below (Below.drew (Below.refl _ _)), h2, h3, h4, h5.drew⟩
set_option maxRecDepth 100000 in
set_option maxHeartbeats 8000000 in
theorem busy_yes (n t : Int) (x : Option Addr) (cap : Nat) (items : List It) (ls : Int) (w : World) (hG : Glob w) (hL : Laid w) (hit : ItemsAt w x items) (h40 : items.length ≤ 40) (hr : okRate n t = true) (hl : okL items) :
    Calls Tryz.prog 5 #[.agg #[.int .i64 n, .int .i64 t], .slice x items.length cap, .int .i64 ls] w fun e w' => e = .returned (.bool true) ∧ Below w.heap.size w w' := by
  have HRN : Hid (∀ w1, Below w.heap.size w w1 → Calls Tryz.prog 11 #[.string ⟨#[102, 105, 102, 111, 32, 49, 48, 48, 48, 32, 49, 48, 48, 48, 48, 48, 48]⟩, .agg #[.int .i64 n, .int .i64 t], .slice x items.length cap, .int .i64 9000000] w1 fun e w' => ∃ (sent : List Snt) (sx lx : Option Addr) (sc lc : Nat) (wt ms : Int), e = .returned (.tuple #[.agg #[.slice sx sent.length sc, .slice lx 0 lc, .int .i64 wt, .int .i64 ms], .bool true]) ∧ RunA items n t w1 w' sent (.slice sx sent.length sc)) := fun w1 h1 => runA_yes n t x cap items w1 (hG.below h1) (hL.below h1) hr hl (hit.below h1) (by omega)
  have HRB : Hid (∀ w1 p, Below w.heap.size w w1 → Calls Tryz.prog 11 #[.string (txt4 p), .agg #[.int .i64 n, .int .i64 t], .slice x items.length cap, .int .i64 9000000] w1 fun e w' => ∃ sv lv wt ms, e = .returned (.tuple #[.agg #[sv, lv, .int .i64 wt, .int .i64 ms], .bool true]) ∧ RunG items n t 9000000 w1 w' sv lv) := fun w1 p h1 => runB_yes p n t x cap items w1 (hG.below h1) (hL.below h1) hr hl (hit.below h1) (by omega)
  have HLT : Hid (∀ w1, Below w.heap.size w w1 → Calls Tryz.prog 12 #[] w1 fun e w' => e = .returned (.bool true) ∧ Below w1.heap.size w1 w') := fun w1 h1 => linked_true w1 (hL.below h1)
  have HPT : Hid (∀ w1, Below w.heap.size w w1 → Calls Tryz.prog 8 #[] w1 fun e w' => e = .returned (.bool true) ∧ Below w1.heap.size w1 w') := fun w1 h1 => planted_true w1 (hG.below h1)
  have a1 : decide ((40 : Int) < (items.length : Int)) = false := by simp; omega
  have HOKR : Hid (okRate n t = true) := hr
  have HB0 : Hid (Below w.heap.size w (w.alloc (.cells #[.int .i64 n, .int .i64 t] 37))) := below_alloc_ (Below.refl _ _) _
  have HX0 : Hid ((w.alloc (.cells #[.int .i64 n, .int .i64 t] 37)).heap[w.heap.size]? = some (.cells #[.int .i64 n, .int .i64 t] 37 (0, 0))) := new_block _ _
  clear hG hL hit hr hl
  go_enter Tryz.func5, Tryz.ntmps5
  go_wp2_with (go_at_call 11; fail)
  refine (HRN.out _ HB0.out).mono ?_
  rintro e w1 ⟨sA, sx, lx, sc, lc, wt, ms, rfl, hSA, hfA, hlA, hb1⟩
  have HB1 : Hid (Below w.heap.size w w1) := HB0.out.trans (hb1.mono HB0.out.size)
  have HX1 : Hid (w1.heap[w.heap.size]? = some (.cells #[.int .i64 n, .int .i64 t] 37 (0, 0))) := (hb1.block _ (lt_of_block HX0.out)).trans HX0.out
  obtain ⟨NA, HNA⟩ : ∃ NA, Hid (sA.length = NA) := ⟨_, rfl⟩
  rw [HNA.out] at hSA hlA ⊢
  have HSA : Hid (Seg w1 49 4 (.slice sx NA sc) NA (flt Snt.cs sA)) := hSA
  have HFA : Hid (∀ (i : Nat) (s : Snt), sA[i]? = some s → s.f = bgA items n t i ∧ s.t = frA items n t (i + 1)) := hfA
  have HLA : Hid (NA ≤ items.length) := hlA
  clear hSA hfA hlA hb1 HRN
  go_wp2_with (go_at_call 12; fail)
  have hba : Below w1.heap.size w1 (w1.alloc (.cells #[.slice sx NA sc, .slice lx 0 lc, .int .i64 wt, .int .i64 ms] 41)) := below_alloc_ (Below.refl _ _) _
  have hxa : (w1.alloc (.cells #[.slice sx NA sc, .slice lx 0 lc, .int .i64 wt, .int .i64 ms] 41)).heap[w1.heap.size]? = some (.cells #[.slice sx NA sc, .slice lx 0 lc, .int .i64 wt, .int .i64 ms] 41 (0, 0)) := new_block _ _
  have HBA : Hid (Below w.heap.size w (w1.alloc (.cells #[.slice sx NA sc, .slice lx 0 lc, .int .i64 wt, .int .i64 ms] 41))) := HB1.out.trans (hba.mono HB1.out.size)
  obtain ⟨wa, hwa⟩ : ∃ wa, w1.alloc (.cells #[.slice sx NA sc, .slice lx 0 lc, .int .i64 wt, .int .i64 ms] 41) = wa := ⟨_, rfl⟩
  rw [hwa] at hba hxa HBA ⊢
  have HXA : Hid (wa.heap[w1.heap.size]? = some (.cells #[.slice sx NA sc, .slice lx 0 lc, .int .i64 wt, .int .i64 ms] 41 (0, 0))) := hxa
  have HXR : Hid (wa.heap[w.heap.size]? = some (.cells #[.int .i64 n, .int .i64 t] 37 (0, 0))) := (hba.block _ (lt_of_block HX1.out)).trans HX1.out
  have HSAa : Hid (Seg wa 49 4 (.slice sx NA sc) NA (flt Snt.cs sA)) := HSA.out.below hba
  clear hwa hba hxa
  refine (HLT.out _ HBA.out).mono ?_
  rintro e w2 ⟨rfl, hb2⟩
  have HB2 : Hid (Below wa.heap.size wa w2) := hb2
  clear hb2
  go_wp2_with (go_at_call 8; fail)
  refine (HPT.out _ (HBA.out.trans (HB2.out.mono HBA.out.size))).mono ?_
  rintro e w3 ⟨rfl, hb3⟩
  have HB3 : Hid (Below wa.heap.size wa w3) := HB2.out.trans (hb3.mono HB2.out.size)
  clear hb3
  go_upto_region 8 with (fail)
  have hbt : Below w3.heap.size w3 (w3.alloc (.cells #[.string ⟨#[98, 97, 110, 100, 115, 32, 40, 102, 105, 102, 111, 32, 49, 48, 48, 48, 32, 49, 48, 48, 48, 48, 48, 48, 44, 32, 102, 105, 102, 111, 32, 49, 48, 48, 48, 32, 49, 48, 48, 48, 48, 48, 48, 44, 32, 102, 105, 102, 111, 32, 49, 48, 48, 48, 32, 49, 48, 48, 48, 48, 48, 48, 41]⟩, .string ⟨#[104, 97, 115, 104, 101, 100, 32, 55, 32, 51, 32, 49, 48, 48, 48]⟩, .string ⟨#[114, 111, 117, 110, 100, 115, 32, 49, 48, 48, 48, 32, 40, 57, 48, 48, 32, 53, 48, 48, 32, 50, 48, 48, 48, 41]⟩, .string ⟨#[104, 101, 97, 100, 32, 49, 48, 48, 48, 32, 49, 48, 48, 48, 48, 48, 48]⟩] 9)) := below_alloc_ (Below.refl _ _) _
  have hxt : (w3.alloc (.cells #[.string ⟨#[98, 97, 110, 100, 115, 32, 40, 102, 105, 102, 111, 32, 49, 48, 48, 48, 32, 49, 48, 48, 48, 48, 48, 48, 44, 32, 102, 105, 102, 111, 32, 49, 48, 48, 48, 32, 49, 48, 48, 48, 48, 48, 48, 44, 32, 102, 105, 102, 111, 32, 49, 48, 48, 48, 32, 49, 48, 48, 48, 48, 48, 48, 41]⟩, .string ⟨#[104, 97, 115, 104, 101, 100, 32, 55, 32, 51, 32, 49, 48, 48, 48]⟩, .string ⟨#[114, 111, 117, 110, 100, 115, 32, 49, 48, 48, 48, 32, 40, 57, 48, 48, 32, 53, 48, 48, 32, 50, 48, 48, 48, 41]⟩, .string ⟨#[104, 101, 97, 100, 32, 49, 48, 48, 48, 32, 49, 48, 48, 48, 48, 48, 48]⟩] 9)).heap[w3.heap.size]? = some (.cells #[.string ⟨#[98, 97, 110, 100, 115, 32, 40, 102, 105, 102, 111, 32, 49, 48, 48, 48, 32, 49, 48, 48, 48, 48, 48, 48, 44, 32, 102, 105, 102, 111, 32, 49, 48, 48, 48, 32, 49, 48, 48, 48, 48, 48, 48, 44, 32, 102, 105, 102, 111, 32, 49, 48, 48, 48, 32, 49, 48, 48, 48, 48, 48, 48, 41]⟩, .string ⟨#[104, 97, 115, 104, 101, 100, 32, 55, 32, 51, 32, 49, 48, 48, 48]⟩, .string ⟨#[114, 111, 117, 110, 100, 115, 32, 49, 48, 48, 48, 32, 40, 57, 48, 48, 32, 53, 48, 48, 32, 50, 48, 48, 48, 41]⟩, .string ⟨#[104, 101, 97, 100, 32, 49, 48, 48, 48, 32, 49, 48, 48, 48, 48, 48, 48]⟩] 9 (0, 0)) := new_block _ _
  obtain ⟨wq, hwq⟩ : ∃ wq, w3.alloc (.cells #[.string ⟨#[98, 97, 110, 100, 115, 32, 40, 102, 105, 102, 111, 32, 49, 48, 48, 48, 32, 49, 48, 48, 48, 48, 48, 48, 44, 32, 102, 105, 102, 111, 32, 49, 48, 48, 48, 32, 49, 48, 48, 48, 48, 48, 48, 44, 32, 102, 105, 102, 111, 32, 49, 48, 48, 48, 32, 49, 48, 48, 48, 48, 48, 48, 41]⟩, .string ⟨#[104, 97, 115, 104, 101, 100, 32, 55, 32, 51, 32, 49, 48, 48, 48]⟩, .string ⟨#[114, 111, 117, 110, 100, 115, 32, 49, 48, 48, 48, 32, 40, 57, 48, 48, 32, 53, 48, 48, 32, 50, 48, 48, 48, 41]⟩, .string ⟨#[104, 101, 97, 100, 32, 49, 48, 48, 48, 32, 49, 48, 48, 48, 48, 48, 48]⟩] 9) = wq := ⟨_, rfl⟩
  rw [hwq] at hbt hxt ⊢
  have HBQ : Hid (Below wa.heap.size wa wq) := HB3.out.trans (hbt.mono HB3.out.size)
  have HXT : Hid (wq.heap[w3.heap.size]? = some (.cells #[.string ⟨#[98, 97, 110, 100, 115, 32, 40, 102, 105, 102, 111, 32, 49, 48, 48, 48, 32, 49, 48, 48, 48, 48, 48, 48, 44, 32, 102, 105, 102, 111, 32, 49, 48, 48, 48, 32, 49, 48, 48, 48, 48, 48, 48, 44, 32, 102, 105, 102, 111, 32, 49, 48, 48, 48, 32, 49, 48, 48, 48, 48, 48, 48, 41]⟩, .string ⟨#[104, 97, 115, 104, 101, 100, 32, 55, 32, 51, 32, 49, 48, 48, 48]⟩, .string ⟨#[114, 111, 117, 110, 100, 115, 32, 49, 48, 48, 48, 32, 40, 57, 48, 48, 32, 53, 48, 48, 32, 50, 48, 48, 48, 41]⟩, .string ⟨#[104, 101, 97, 100, 32, 49, 48, 48, 48, 32, 49, 48, 48, 48, 48, 48, 48]⟩] 9 (0, 0))) := hxt
  clear hwq hbt hxt
  have hp4 := pk4_lt ls
  have HPK := pick4_any ls
  obtain ⟨p, hp⟩ : ∃ p, pk4 ls = p := ⟨_, rfl⟩
  rw [hp] at hp4 HPK
  clear hp
  have HTX : Hid (wq.cell? ⟨w3.heap.size, p, none⟩ = some (.string (txt4 p))) := by
    have h := HXT.out
    show wq.cell? _ = _
    match p, hp4 with
    | 0, _ => simp only [World.cell?, h]; rfl
    | 1, _ => simp only [World.cell?, h]; rfl
    | 2, _ => simp only [World.cell?, h]; rfl
    | 3, _ => simp only [World.cell?, h]; rfl
  have HRQ : Hid (∀ W, Below wq.heap.size wq W → Calls Tryz.prog 11 #[.string (txt4 p), .agg #[.int .i64 n, .int .i64 t], .slice x items.length cap, .int .i64 9000000] W fun e w' => ∃ (sx lx : Option Addr) (sn sc lc : Nat) (wt ms : Int), e = .returned (.tuple #[.agg #[.slice sx sn sc, .slice lx 0 lc, .int .i64 wt, .int .i64 ms], .bool true]) ∧ Hid (RunG items n t 9000000 wq w' (.slice sx sn sc) (.slice lx 0 lc)) ∧ Hid (Below wq.heap.size wq w') ∧ Hid (Below W.heap.size W w')) := fun W hb => (HRB.out W p (HBA.out.trans ((HBQ.out.trans (hb.mono HBQ.out.size)).mono HBA.out.size))).mono (by
    rintro e w' ⟨sv, lv, wt, ms, rfl, hg⟩
    have hg' := hg
    obtain ⟨sent, sx, lx, sc, lc, rfl, rfl, _, _, _, _, h5⟩ := hg
    exact ⟨sx, lx, _, sc, lc, wt, ms, rfl, hg'.from hb, hb.trans (h5.mono hb.size), h5⟩)
  have HSS : Hid (∀ W, Below wq.heap.size wq W → W.cell? ⟨w.heap.size, 0, none⟩ = some (.int .i64 n) ∧ W.cell? ⟨w.heap.size, 1, none⟩ = some (.int .i64 t) ∧ W.cell? ⟨w3.heap.size, p, none⟩ = some (.string (txt4 p)) ∧ Below wq.heap.size wq W) := fun W hb => by
    have h1 := (hb.block _ (lt_of_block ((HBQ.out.block _ (lt_of_block HXR.out)).trans HXR.out))).trans ((HBQ.out.block _ (lt_of_block HXR.out)).trans HXR.out)
    obtain ⟨r0, r1⟩ := lie2 h1
    exact ⟨r0, r1, (hb.cell (p := ⟨w3.heap.size, p, none⟩) (World.block_lt_of_cell? wq _ HTX.out)).trans HTX.out, hb⟩
  have hpi : (p : Int) < 4 := by omega
  clear HRB HB1 HX1 HX0 HB0 HSA
  go_cut [11, 12] (fun v11 v12 wx => ∃ b2 : Nat, v11 = .pointer (some ⟨b2, 0, none⟩) ∧ v12 = .bool true ∧ Hid (EndB items n t wq wx b2))
  case first =>
    go_region_held3 (fun W => W.cell? ⟨w.heap.size, 0, none⟩ = some (.int .i64 n) ∧ W.cell? ⟨w.heap.size, 1, none⟩ = some (.int .i64 t) ∧ W.cell? ⟨w3.heap.size, p, none⟩ = some (.string (txt4 p)) ∧ Below wq.heap.size wq W)
      ((refine HSS.out _ ?_; (repeat (first | (with_reducible exact Below.refl _ _) | (with_reducible exact HW5.out) | (with_reducible refine Below.drew ?_) | (refine Below.setCell ?_ (by exact Nat.le_refl _) _) | (with_reducible refine below_alloc_ ?_ _)))))
      (first
        | (go_at_call 15; refine (HPK _).mono ?_; rintro e Wp ⟨rfl, rfl⟩)
        | (go_at_call 11; refine (HRQ.out _ (by (repeat (first | (with_reducible exact Below.refl _ _) | (with_reducible refine Below.drew ?_) | (with_reducible refine below_alloc_ ?_ _))))).mono ?_; rintro e W5 ⟨sx5, lx5, sn5, sc5, lc5, wt5, ms5, rfl, HG5, HW5, HY5⟩; (try (have hx5 := (HY5.out.block wq.heap.size (by simp)).trans (new_block wq.drew (.cells #[.slice none 0 0, .slice none 0 0, .int .i64 0, .int .i64 0] 41)); obtain ⟨k0, k1, k2, k3, f0, f1, f2, f3⟩ := lie4 hx5; have HX5 : Hid _ := hx5; have hxl := lt_of_block hx5; clear hx5))))
    all_goals
      go_wp2
      go_meet
      case rel => first | exact ⟨_, rfl, rfl, (EndB.after HG5.out)⟩ | exact ⟨_, rfl, rfl, (EndB.ahead HG5.out (Nat.le_refl _) HX5.out)⟩ | exact ⟨_, rfl, rfl, (EndB.after HG5.out).drew⟩
  case rest =>
  obtain ⟨b2, rfl, rfl, HE⟩ := hcut
  obtain ⟨svB, lvB, wtB, msB, hxb, hb2, sB, sxB, lxB, scB, lcB, rfl, rfl, hSB, hnB, hlB, hfB, hbB⟩ := HE.out
  obtain ⟨NB, HNB⟩ : ∃ NB, Hid (sB.length = NB) := ⟨_, rfl⟩
  rw [HNB.out] at hxb hSB hlB hfB
  have hxa := (hbB.block _ (lt_of_block ((HBQ.out.block _ (lt_of_block HXA.out)).trans HXA.out))).trans ((HBQ.out.block _ (lt_of_block HXA.out)).trans HXA.out)
  have HSA2 : Hid (Seg wc 49 4 (.slice sx NA sc) NA (flt Snt.cs sA)) := (HSAa.out.below HBQ.out).below hbB
  have HSB2 : Hid (Seg wc 49 4 (.slice sxB NB scB) NB (flt Snt.cs sB)) := hSB
  have HFB : Hid (frA items n t items.length ≤ 9000000 → NB = items.length ∧ spn sB = spC items n t items.length) := hfB
  have HBC : Hid (Below w.heap.size w wc) := HBA.out.trans ((HBQ.out.trans (hbB.mono HBQ.out.size)).mono HBA.out.size)
  have HCA : Hid (∀ W, Below wc.heap.size wc W → W.cell? ⟨w1.heap.size, 0, none⟩ = some (.slice sx NA sc) ∧ W.cell? ⟨w1.heap.size, 1, none⟩ = some (.slice lx 0 lc) ∧ W.cell? ⟨w1.heap.size, 2, none⟩ = some (.int .i64 wt) ∧ W.cell? ⟨w1.heap.size, 3, none⟩ = some (.int .i64 ms)) := fun W hb => by
    obtain ⟨k0, k1, k2, k3, _⟩ := lie4 ((hb.block _ (lt_of_block hxa)).trans hxa)
    exact ⟨k0, k1, k2, k3⟩
  have HCB : Hid (∀ W, Below wc.heap.size wc W → W.cell? ⟨b2, 0, none⟩ = some (.slice sxB NB scB) ∧ W.cell? ⟨b2, 1, none⟩ = some (.slice lxB 0 lcB) ∧ W.cell? ⟨b2, 2, none⟩ = some (.int .i64 wtB) ∧ W.cell? ⟨b2, 3, none⟩ = some (.int .i64 msB)) := fun W hb => by
    obtain ⟨k0, k1, k2, k3, _⟩ := lie4 ((hb.block _ (lt_of_block hxb)).trans hxb)
    exact ⟨k0, k1, k2, k3⟩
  have HS8 : Hid (∀ W, Below wc.heap.size wc W → W.cell? ⟨w1.heap.size, 0, none⟩ = some (.slice sx NA sc) ∧ W.cell? ⟨w1.heap.size, 1, none⟩ = some (.slice lx 0 lc) ∧ W.cell? ⟨w1.heap.size, 2, none⟩ = some (.int .i64 wt) ∧ W.cell? ⟨w1.heap.size, 3, none⟩ = some (.int .i64 ms) ∧ W.cell? ⟨b2, 0, none⟩ = some (.slice sxB NB scB) ∧ W.cell? ⟨b2, 1, none⟩ = some (.slice lxB 0 lcB) ∧ W.cell? ⟨b2, 2, none⟩ = some (.int .i64 wtB) ∧ W.cell? ⟨b2, 3, none⟩ = some (.int .i64 msB)) := fun W hb => by
    obtain ⟨p0, p1, p2, p3⟩ := HCA.out W hb
    obtain ⟨q0, q1, q2, q3⟩ := HCB.out W hb
    exact ⟨p0, p1, p2, p3, q0, q1, q2, q3⟩
  obtain ⟨a0, a1', a2, a3⟩ := HCA.out wc (Below.refl _ _)
  obtain ⟨b0, b1, b2', b3⟩ := HCB.out wc (Below.refl _ _)
  have hla := lt_of_block hxa
  have hlb := lt_of_block hxb
  clear hxa hxb hb2 hSB hnB hfB hbB HE HSS HRQ HTX HXT HXA HXR HSAa HBQ HB2 HB3 HPK hp4 hpi
  go_wp2
  go_loopg [13] NA (fun g v13 wx => ∃ i : Nat, i + g = NA ∧ v13 = .int .i64 i ∧ Hid (∀ j, j < i → frA items n t (j + 1) ≤ 9000000) ∧ wx = wc)
  case atStart => exact ⟨0, by omega, rfl, fun j hj => by omega, rfl⟩
  case round =>
    obtain ⟨i, hig, rfl, HTO, hwx⟩ := hrel
    subst hwx
    by_cases hi : i < NA
    · have hi1 : (i : Int) < NA := by omega
      have hlA := HLA.out
      obtain ⟨s, hs⟩ : ∃ s, sA[i]? = some s := ⟨_, List.getElem?_eq_getElem (by have := HNA.out; omega)⟩
      obtain ⟨bS, oS, hsx, hbS, _, c2⟩ := sent_at HSA2.out hs hi
      subst hsx
      rw [(HFA.out i s hs).2] at c2
      obtain ⟨st, HST⟩ : ∃ st, Hid (frA items n t (i + 1) = st) := ⟨_, rfl⟩
      rw [HST.out] at c2
      clear hs
      by_cases hto : 9000000 < st
      · go_wp2
        go_ret
        exact ⟨rfl, HBC.out⟩
      · have hto' : ¬ 9000000 < st := hto
        go_wp2
        go_roundg (gk - 1)
        case measure => omega
        case rel => exact ⟨i + 1, by omega, by go_num, fun j hj => by
          by_cases e : j = i
          · subst e; show frA items n t (j + 1) ≤ 9000000; rw [HST.out]; omega
          · exact HTO.out j (by omega), rfl⟩
    · obtain rfl : i = NA := by omega
      have hi1 : ¬ (i : Int) < i := by omega
      by_cases hN : i = items.length
      · have hfu : frA items n t items.length ≤ 9000000 := by
          by_cases h0 : items.length = 0
          · rw [h0]; show (0 : Int) ≤ 9000000; decide
          · have := HTO.out (items.length - 1) (by omega)
            rw [show items.length - 1 + 1 = items.length by omega] at this
            exact this
        obtain ⟨hNB, hspB⟩ := HFB.out hfu
        have hspA : spn sA = spC items n t items.length := by
          have := spn_fifo HFA.out
          rw [HNA.out, hN] at this
          exact this
        obtain ⟨SP, HSPE⟩ : ∃ SP, Hid (spC items n t items.length = SP) := ⟨_, rfl⟩
        rw [HSPE.out] at hspA hspB
        have hlA := HLA.out
        have HSPA : Hid (∀ W, Below wr.heap.size wr W → Calls Tryz.prog 16 #[.agg #[.slice sx i sc, .slice lx 0 lc, .int .i64 wt, .int .i64 ms]] W fun e w' => ∃ v, e = .returned v ∧ Hid (w'.ownsRow W.heap.size 3 1 v SP.length (iC SP)) ∧ Hid (Below wr.heap.size wr w') ∧ Hid (Below W.heap.size W w')) := fun W hb => by
          have := spans_any sx sc sA (.slice lx 0 lc) wt ms W (by rw [HNA.out]; exact HSA2.out.below hb) (by rw [HNA.out]; omega)
          rw [HNA.out, hspA] at this
          exact this.mono fun e w' ⟨v, h1, h2, h3⟩ => ⟨v, h1, h2, hb.trans (h3.mono hb.size), h3⟩
        have HSPB : Hid (∀ W, Below wr.heap.size wr W → Calls Tryz.prog 16 #[.agg #[.slice sxB NB scB, .slice lxB 0 lcB, .int .i64 wtB, .int .i64 msB]] W fun e w' => ∃ v, e = .returned v ∧ Hid (w'.ownsRow W.heap.size 3 1 v SP.length (iC SP)) ∧ Hid (Below wr.heap.size wr w') ∧ Hid (Below W.heap.size W w')) := fun W hb => by
          have := spans_any sxB scB sB (.slice lxB 0 lcB) wtB msB W (by rw [HNB.out]; exact HSB2.out.below hb) (by rw [HNB.out]; omega)
          rw [HNB.out, hspB] at this
          exact this.mono fun e w' ⟨v, h1, h2, h3⟩ => ⟨v, h1, h2, hb.trans (h3.mono hb.size), h3⟩
        have d1 : ((i : Int) != (items.length : Int)) = false := by rw [hN]; simp
        have d2 : ((NB : Int) == (items.length : Int)) = true := by rw [hNB]; simp
        have HU : Hid (0 = 0) := rfl
        clear hN hfu hNB hspA hspB hlA
        go_wp2_with fail
        go_region_held3 (fun W => W.cell? ⟨w1.heap.size, 0, none⟩ = some (.slice sx i sc) ∧ W.cell? ⟨w1.heap.size, 1, none⟩ = some (.slice lx 0 lc) ∧ W.cell? ⟨w1.heap.size, 2, none⟩ = some (.int .i64 wt) ∧ W.cell? ⟨w1.heap.size, 3, none⟩ = some (.int .i64 ms) ∧ W.cell? ⟨b2, 0, none⟩ = some (.slice sxB NB scB) ∧ W.cell? ⟨b2, 1, none⟩ = some (.slice lxB 0 lcB) ∧ W.cell? ⟨b2, 2, none⟩ = some (.int .i64 wtB) ∧ W.cell? ⟨b2, 3, none⟩ = some (.int .i64 msB))
          (first | (with_reducible exact HS8.out _ HW8.out) | (with_reducible exact HS8.out _ HW7.out) | (with_reducible exact HS8.out _ HW6.out) | (with_reducible exact HS8.out _ (Below.refl _ _).drew))
          (first
            | (have hu := HU.out; clear hu HU; go_at_call 16; refine (HSPA.out _ (Below.refl _ _).drew).mono ?_; rintro e W6 ⟨va, rfl, HVA, HW6, -⟩)
            | (go_at_call 16; refine (HSPB.out _ HW6.out).mono ?_; rintro e W7 ⟨vb, rfl, HVB, HW7, HY7⟩)
            | (go_at_call 17; refine (sameI_any SP va vb _ _ _ (ownW_below HVA.out HY7.out) HVB.out).mono ?_; rintro e W8 ⟨rfl, hb8⟩; have HW8 : Hid (Below wr.heap.size wr W8) := HW7.out.trans (hb8.mono HW7.out.size); clear hb8))
        all_goals
          go_wp2
          go_ret
          exact ⟨rfl, HBC.out.trans (HW8.out.mono HBC.out.size)⟩
      · have d1 : ((i : Int) != (items.length : Int)) = true := by simp; omega
        clear hN
        go_wp2
        go_ret
        exact ⟨rfl, HBC.out⟩
end Go.Proofs.YtfakjedolecdcaaGreatDoor
