/-
  millracekeep.BookCrashes: true. Conditions: the arguments lie in memory; what strconv and bytealg lay is laid.
-/
import Derived.Test.YtheadpemckoljaaGreatDoorJr
namespace Go.Proofs.YtheadpemckoljaaGreatDoor
open Go.RowKit Go.Extern.Stop Go.Stop Go.Extern Go.Maps Go.WideMaps

/-- The error of a crash that keeps more than there is. -/
def crE (a N : Nat) : Value := if a ≤ N then .nilIface else .iface 37 (.int .i64 2)
theorem crash_both (b : Nat) (cm : Option Nat) (jv : Value) (sure : Nat) (a : Nat) (es : List Ent) (w : World) (h : BkAt w b cm jv sure es) :
    Calls Tryz.prog 20 #[.pointer (some ⟨b, 0, none⟩), .int .i64 (a : Nat), .slice none 0 0] w fun e w' => ∃ v, e = .returned (.tuple #[v, crE a ((jour es).length - sure)]) ∧ Below w.heap.size w w' := by
  have hs := h.sr
  unfold crE
  by_cases ha : a ≤ (jour es).length - sure
  · rw [if_pos ha]
    exact (crash_yes b cm jv sure a es (.slice none 0 0) [] w h (bt_nil _) (by omega) (by decide)).mono fun e w' ⟨v, he, _, hb⟩ => ⟨v, he, hb⟩
  · rw [if_neg ha]
    exact (crash_no b cm jv sure a es (.slice none 0 0) w h (Or.inr (by omega))).mono fun e w' ⟨he, hb⟩ => ⟨_, he, hb⟩
theorem slice_to (a : Option Addr) (n c N : Nat) (h : N ≤ c) (w : World) : (Instr.slice 25 (.slice a n c) none (some (.int .i64 (N : Int))) none).run Tryz.prog w = .ok (.slice a N c) w := by
  obtain ⟨i, hi, hz, hs, hy⟩ := info3 infoByte
  simp [Instr.slice, run_underlying Tryz.underlying25, Instr.sliceBounds, Instr.sliceBound, asIntOf, sizeOf, typeInfo, hi, h]
  intro _
  cases a <;> simp [Addr.add]
theorem DtAt.take {w : World} {p : Option Addr} {c : Nat} {d : List UInt8} (h : DtAt w p c d) {N : Nat} (hN : N ≤ d.length) : DtAt w p c (d.take N) := by
  have hc := h.cap
  refine ⟨fun j x hx => ?_, h.nil, by rw [List.length_take]; omega, h.max⟩
  rw [List.getElem?_take] at hx
  split at hx
  · exact h.lie j x hx
  · simp at hx
theorem inv_drop {B : Nat} {w0 W : World} {b : Nat} {cm : Option Nat} {jv : Value} {sure : Nat} {es : List Ent} {lv nv : Value} {ln nn : Nat} {lx nx : List Value} (h : Inv B w0 W b cm jv sure es lv nv ln nn lx nx) : jourF 0 es = jour es ∧ (∀ e ∈ es, EntOk e) ∧ sure ≤ (jour es).length := ⟨rfl, h.bk.ok, h.bk.sr⟩
set_option maxRecDepth 100000 in
set_option maxHeartbeats 8000000 in
theorem bookCrashes_any (nx mx bx : Option Addr) (nc mc bc : Nat) (ss : List (List UInt8)) (ns : List Int) (bs : List Bool) (keep : Int) (w : World) (hG : GlobB w)
    (h1 : SlV w nx (ss.map encStr)) (h2 : SlV w mx (ns.map (Value.int .i64))) (h3 : SlV w bx (bs.map Value.bool)) (hsz : ∀ s ∈ ss, s.length ≤ maxLen) :
    Calls Tryz.prog 5 #[.slice nx ss.length nc, .slice mx ns.length mc, .slice bx bs.length bc, .int .i64 keep] w fun e w' => e = .returned (.bool true) ∧ Below w.heap.size w w' := by
  have HG : Hid (GlobB w) := hG
  by_cases g1 : 60 < ss.length
  · have k1 : (60 : Int) < ss.length := by omega
    clear hG h1 h2 h3 hsz
    go_enter Tryz.func5, Tryz.ntmps5
    go_wp2
    go_ret
    exact ⟨rfl, Below.refl _ _⟩
  have k1 : ¬ (60 : Int) < ss.length := by omega
  have HWR := written_any nx mx bx nc mc bc ss ns bs w hG.tab h1 h2 h3 (by omega) hsz
  clear hG h1 h2 h3 hsz
  go_enter Tryz.func5, Tryz.ntmps5
  go_wp2_with fail
  refine HWR.mono ?_
  rintro e w1 ⟨es, q, lx, lc, kx, kc, rfl, cm, jv, hq, h60, hi1⟩
  have HI1 : Hid (Inv w.heap.size w w1 w.heap.size cm jv (jour (es.take q)).length es (.slice lx es.length lc) (.slice kx es.length kc) es.length es.length (encS es) (encN es)) := hi1
  have hok := hi1.bk.ok
  have hsr := hi1.bk.sr
  have hjl := jourF_len es 0 hok (by omega)
  replace hjl : (jour es).length ≤ 4800 := by unfold jour; omega
  have HOK : Hid (∀ e ∈ es, EntOk e) := hok
  obtain ⟨S, HSE⟩ : ∃ S, Hid ((jour (es.take q)).length = S) := ⟨_, rfl⟩
  rw [HSE.out] at HI1 hsr
  obtain ⟨N, HN⟩ : ∃ N, Hid ((jour es).length - S = N) := ⟨_, rfl⟩
  have hN : S + N = (jour es).length := by have := HN.out; omega
  have HNJ : Hid (S + N = (jour es).length) := hN
  have hN5 : N ≤ 4800 := by omega
  have HCR : Hid (∀ W (a : Nat), Below w1.heap.size w1 W → Calls Tryz.prog 20 #[.pointer (some ⟨w.heap.size, 0, none⟩), .int .i64 (a : Nat), .slice none 0 0] W fun e w' => ∃ v, e = .returned (.tuple #[v, crE a N]) ∧ Below w1.heap.size w1 w') := fun W a hb => by
    have := crash_both w.heap.size cm jv S a es W (HI1.out.below hb).bk
    rw [HN.out] at this
    exact this.mono fun e w' ⟨v, he, h⟩ => ⟨v, he, hb.trans (h.mono hb.size)⟩
  clear hi1 hok hsr hjl hN HWR
  go_wp2_with fail
  refine (HCR.out w1 1 (Below.refl _ _)).mono ?_
  rintro e w2 ⟨v0, rfl, hb2⟩
  have HB2 : Hid (Below w1.heap.size w1 w2) := hb2
  clear hb2
  go_wp2
  go_loopg [13, 15] N (fun g v13 v15 wx => ∃ a : Nat, a + g = N ∧ v13 = .int .i64 a ∧ v15 = crE (a + 1) N ∧ Hid (Below w1.heap.size w1 wx))
  case atStart => exact ⟨0, by omega, rfl, rfl, HB2.out⟩
  case round =>
    obtain ⟨a, hag, rfl, rfl, HB⟩ := hrel
    by_cases ha : a + 1 ≤ N
    · have e1 : crE (a + 1) N = .nilIface := if_pos ha
      have a1 : (a : Int) < 5000 := by omega
      rw [e1]
      clear e1
      have hw1 : IntKind.i64.wrap ((a : Int) + 1) = ((a + 1 : Nat) : Int) := by rw [IntKind.wrap_i64]; omega
      have hw2 : IntKind.i64.wrap (((a + 1 : Nat) : Int) + 1) = ((a + 2 : Nat) : Int) := by rw [IntKind.wrap_i64]; omega
      go_wp2_with fail
      refine (HCR.out wr (a + 2) HB.out).mono ?_
      rintro e w3 ⟨v3, rfl, hb3⟩
      go_wp2
      go_roundg (gk - 1)
      case measure => omega
      case rel => exact ⟨a + 1, by omega, rfl, rfl, hb3⟩
    · obtain rfl : a = N := by omega
      have e1 : crE (a + 1) a = .iface 37 (.int .i64 2) := if_neg (by omega)
      rw [e1]
      clear e1 ha
      have hw1 : IntKind.i64.wrap ((a : Int) + 1) = ((a + 1 : Nat) : Int) := by rw [IntKind.wrap_i64]; omega
      have hp := pck_lt keep (show 0 < a + 1 by omega)
      have HPI := pick_any keep (a + 1) (by omega) (by omega) wr
      obtain ⟨p, HP⟩ : ∃ p, Hid (pck keep (a + 1) = p) := ⟨_, rfl⟩
      rw [HP.out] at HPI hp
      have HIR : Hid (Inv w.heap.size w wr w.heap.size cm jv S es (.slice lx es.length lc) (.slice kx es.length kc) es.length es.length (encS es) (encN es)) := HI1.out.below HB.out
      have hSp : S + p ≤ (jour es).length := by have := HNJ.out; omega
      have HSP : Hid (S + p ≤ (jour es).length) := hSp
      have hjl : S + p ≤ 4800 := by
        have h1 := jourF_len es 0 HOK.out (by omega)
        have h2 : (jour es).length ≤ 4800 := by unfold jour; omega
        omega
      clear hSp
      go_wp2_with fail
      refine HPI.mono ?_
      rintro e w3 ⟨rfl, hw3⟩
      have HI3 : Hid (Inv w.heap.size w w3 w.heap.size cm jv S es (.slice lx es.length lc) (.slice kx es.length kc) es.length es.length (encS es) (encN es)) := by rw [hw3]; exact HIR.out
      clear hw3 HPI
      have HCY := crash_yes w.heap.size cm jv S p es (.slice none 0 0) [] w3 HI3.out.bk (bt_nil _) HSP.out (by decide)
      go_wp2_with fail
      refine HCY.mono ?_
      rintro e w4 ⟨v4, rfl, hr4, hb4⟩
      rw [List.append_nil] at hr4
      obtain ⟨D, HD⟩ : ∃ D, Hid ((jour es).take (S + p) = D) := ⟨_, rfl⟩
      rw [HD.out] at hr4
      obtain ⟨x4, c4, rfl, -, hd4⟩ := dt_own hr4
      have hDl : D.length = S + p := by
        have := HSP.out
        rw [← HD.out, List.length_take]
        omega
      have HDL : Hid (D.length = S + p) := hDl
      obtain ⟨r, hr, hol, hjr, hmax⟩ := openL_take HOK.out (by omega) (S + p)
      rw [HD.out] at hol
      have hqr : q ≤ r := hmax q hq (by rw [HSE.out]; omega)
      have HI4 : Hid (Inv w.heap.size w w4 w.heap.size cm jv S es (.slice lx es.length lc) (.slice kx es.length kc) es.length es.length (encS es) (encN es)) := HI3.out.below hb4
      have HD4 : Hid (DtAt w4 x4 c4 D) := hd4
      have HOP := open_any x4 c4 D w4 (HG.out.below HI4.out.bel) hd4 (by omega)
      rw [hol] at HOP
      have hcap : D.length ≤ c4 := hd4.cap
      clear hr4 hb4 hd4 hol hjr hmax HCY hDl
      go_wp2_with fail
      refine HOP.mono ?_
      rintro e w5 ⟨cm5, jv5, rfl, k5, -, hop, hb5⟩
      obtain ⟨K, HK⟩ : ∃ K, Hid ((jour (es.take r)).length = K) := ⟨_, rfl⟩
      have hKD : K ≤ D.length := by have := hop.len; rw [HK.out] at this; exact this
      have HDK : Hid (D.take K = jour (es.take r)) := by
        obtain ⟨s, hs⟩ := hop.pre
        show _ = _
        rw [hs, ← HK.out]
        exact List.take_left
      rw [HK.out] at k5
      rw [HK.out]
      have HI5 : Hid (Inv w.heap.size w w5 w.heap.size cm jv S es (.slice lx es.length lc) (.slice kx es.length kc) es.length es.length (encS es) (encN es)) := HI4.out.below hb5
      have HK5 : Hid (BkAt w5 w4.heap.size cm5 jv5 K (es.take r)) := k5
      have HD5 : Hid (DtAt w5 x4 c4 D) := HD4.out.below hb5
      have hrl : (es.take r).length = r := by rw [List.length_take]; omega
      have HLN : Hid (∀ W, Below w5.heap.size w5 W → Calls Tryz.prog 16 #[.pointer (some ⟨w4.heap.size, 0, none⟩)] W fun e w' => e = .returned (.int .i64 (r : Nat)) ∧ Below W.heap.size W w') := fun W hb => by
        have := lines_any w4.heap.size cm5 jv5 K _ W (HK5.out.below hb)
        rw [hrl] at this
        exact this
      have hk1 : ¬ (D.length : Int) < K := by omega
      have hk2 : ¬ (r : Int) < q := by omega
      have hk3 : ((K : Int) == K) = true := by simp
      have hsl : ∀ W : World, (Instr.slice 25 (.slice x4 D.length c4) none (some (.int .i64 (K : Int))) none).run Tryz.prog W = .ok (.slice x4 K c4) W := fun W => slice_to x4 D.length c4 K (by omega) W
      clear k5 hop hb5 HOP hrl
      have HBO := booked_any w5 (HG.out.below HI5.out.bel)
      go_wp2_with fail
      refine HBO.mono ?_
      rintro e w6 ⟨rfl, hb6⟩
      have HB6 : Hid (Below w5.heap.size w5 w6) := hb6
      clear hb6 HBO
      go_wp2_with fail
      refine (HLN.out w6 HB6.out).mono ?_
      rintro e w7 ⟨rfl, hb7⟩
      have HB7 : Hid (Below w5.heap.size w5 w7) := HB6.out.trans (hb7.mono HB6.out.size)
      clear hb7
      go_wp2_with fail
      refine (HLN.out w7 HB7.out).mono ?_
      rintro e w8 ⟨rfl, hb8⟩
      have HB8 : Hid (Below w5.heap.size w5 w8) := HB7.out.trans (hb8.mono HB7.out.size)
      clear hb8
      have HHA := has_any w4.heap.size cm5 jv5 K es r w.heap.size lx kx lc kc w8 (HK5.out.below HB8.out) hr (HI5.out.below HB8.out).ls (HI5.out.below HB8.out).ns h60
      go_wp2_with fail
      refine HHA.mono ?_
      rintro e w9 ⟨rfl, hb9⟩
      have HB9 : Hid (Below w5.heap.size w5 w9) := HB8.out.trans (hb9.mono HB8.out.size)
      clear hb9 HHA
      have HO2 := open_any x4 c4 (jour (es.take r)) w9 (HG.out.below (HI5.out.below HB9.out).bel) (by have := (HD5.out.below HB9.out).take hKD; rw [HDK.out] at this; exact this) (by rw [HK.out]; have := HDL.out; omega)
      rw [openL_jour (fun e he => HOK.out e (List.mem_of_mem_take he)) (by rw [List.length_take]; omega), HK.out] at HO2
      go_wp2_with fail
      refine HO2.mono ?_
      rintro e w10 ⟨cm10, jv10, rfl, k10, -, -, hb10⟩
      have HB10 : Hid (Below w5.heap.size w5 w10) := HB9.out.trans (hb10.mono HB9.out.size)
      have HK10 : Hid (BkAt w10 w9.heap.size cm10 jv10 K (es.take r)) := k10
      clear k10 hb10 HO2
      go_wp2_with fail
      refine (HLN.out w10 HB10.out).mono ?_
      rintro e w11 ⟨rfl, hb11⟩
      have HB11 : Hid (Below w5.heap.size w5 w11) := HB10.out.trans (hb11.mono HB10.out.size)
      have HHA := has_any w9.heap.size cm10 jv10 K es r w.heap.size lx kx lc kc w11 (HK10.out.below hb11) hr (HI5.out.below HB11.out).ls (HI5.out.below HB11.out).ns h60
      clear hb11
      go_wp2_with fail
      refine HHA.mono ?_
      rintro e w12 ⟨rfl, hb12⟩
      go_wp2
      go_ret
      exact ⟨rfl, ((HI5.out.below HB11.out).below hb12).bel⟩
end Go.Proofs.YtheadpemckoljaaGreatDoor
