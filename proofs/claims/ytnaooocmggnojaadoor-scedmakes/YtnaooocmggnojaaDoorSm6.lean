/-
  The law ScedMakes, walked. Conditions: the flows lie in memory, errors.errorType is laid.
-/
import Derived.Test.YtnaooocmggnojaaDoorSm5
import Derived.Test.YtnaooocmggnojaaDoorSf2
import Derived.Test.YtnaooocmggnojaaDoorSm2
namespace Go.Proofs.YtnaooocmggnojaaDoor
open Go.RowKit Go.Extern.Stop Go.Stop Go.Extern

/-! ### Which numbers of ticks may be -/
def tkOk (ticks : Int) (f : Flw) : Prop := (f.n : Int) ≤ ticks ∧ ticks < f.m
theorem rch_lt {F : Nat → Flw} {ticks : Int} : ∀ k, ticks < (F 0).m → (∀ j, j < k → ticks < (F j).m) → ticks < rch F k := by
  intro k
  induction k with
  | zero => intro h0 _; exact h0
  | succ k ih =>
    intro h0 h
    have h1 := ih h0 (fun j hj => h j (by omega))
    have h2 := h k (by omega)
    show ticks < ((min (rch F k) (F k).m : Nat) : Int)
    omega
theorem tk_range {m : Nat} {F : Nat → Flw} {ticks : Int} (hok : FsOk m F) {j : Nat} (hj : j < m) (h : ¬ tkOk ticks (F j)) : ticks < (F 0).n ∨ (rch F m : Int) ≤ ticks := by
  have h1 := (hok.ok j hj).ln
  have h2 := rch_le (F := F) m j hj
  unfold tkOk at h
  omega
theorem tk_all {m : Nat} {F : Nat → Flw} {ticks : Int} (hok : FsOk m F) (h : ∀ j, j < m → tkOk ticks (F j)) : ((F 0).n : Int) ≤ ticks ∧ ticks < rch F m := by
  have h0 := h 0 hok.lo
  exact ⟨h0.1, rch_lt m h0.2 (fun j hj => (h j hj).2)⟩
theorem PlanR.rows {w : World} {m Tk : Nat} {C : Nat → Nat → Int} {K : Nat → Nat} {P : Nat → Nat → Int} {sv prv thv : Value} (h : PlanR w m Tk C K P sv prv thv) : ∃ (x : Option Addr) (c pb po pc tb tf tc : Nat) (px tx : Nat → Option Addr) (pk tk : Nat → Nat), sv = .slice x Tk c ∧ Row w x Tk (pik P C m) ∧ Tk ≤ maxLen ∧ prv = .slice (some ⟨pb, po, none⟩) m pc ∧ thv = .slice (some ⟨tb, tf, none⟩) m tc ∧ Rows2 w pb po m px pk K P ∧ Rows2 w tb tf m tx tk K (thr P C m Tk) := by
  obtain ⟨x, c, e1, r1, l1⟩ := h.sn
  obtain ⟨pb, po, pc, tb, tf, tc, px, tx, pk, tk, e2, e3, hr⟩ := h.ex
  exact ⟨x, c, pb, po, pc, tb, tf, tc, px, tx, pk, tk, e1, r1, l1, e2, e3, fun i hi => ⟨(hr i hi).1, (hr i hi).2.2.1⟩, fun i hi => ⟨(hr i hi).2.1, (hr i hi).2.2.2⟩⟩
theorem Rows2.below {w w' : World} {pb po m : Nat} {px : Nat → Option Addr} {pk K : Nat → Nat} {P : Nat → Nat → Int} (h : Rows2 w pb po m px pk K P) (hb : Below w.heap.size w w') : Rows2 w' pb po m px pk K P := fun i hi => ⟨(hb.cell (World.block_lt_of_cell? w _ (h i hi).1)).trans (h i hi).1, (h i hi).2.below hb⟩

set_option maxRecDepth 100000 in
set_option maxHeartbeats 16000000 in
theorem lmakes_any (x : Option Addr) (cap m : Nat) (ticks : Int) (F : Nat → Flw) (w : World) (hL : Laid w) (hm : m ≤ maxLen) (hs : m * 48 ≤ 140737488355328) (hA : FlArg w x m F) :
    Calls Tryd.prog 4 #[.slice x m cap, .int .i64 ticks] w fun e w' => e = .returned (.bool true) ∧ Below w.heap.size w w' := by
  have HA : Hid (FlArg w x m F) := hA
  have HL : Hid (Laid w) := hL
  have HM : Hid (m ≤ maxLen) := hm
  have HFL : Hid (Calls Tryd.prog 5 #[.slice x m cap] w fun e w' => ∃ (y : Option Addr) (cy : Nat) (ok : Bool), e = .returned (.tuple #[.slice y m cy, .bool ok]) ∧ FlArg w' y m F ∧ (ok = true → m ≤ 20) ∧ Below w.heap.size w w') := lflows_any x cap m F w hm hs hA
  clear hA hL hm hs
  go_enter Tryd.func4, Tryd.ntmps4
  go_wp2_with fail
  refine HFL.out.mono ?_
  rintro e w1 ⟨y, cy, ok, rfl, hfa, hm20, hb1⟩
  have HFA : Hid (FlArg w1 y m F) := hfa
  have HB1 : Hid (Below w.heap.size w w1) := hb1
  clear hfa hb1
  cases ok with
  | false =>
    go_wp2
    go_ret
    exact ⟨rfl, HB1.out⟩
  | true =>
    have hm2 := hm20 rfl
    clear hm20
    go_wp2_with fail
    refine (rscedA y cy m F w1 HFA.out).mono ?_
    rintro e w2 ⟨rfl, hb2⟩
    have HB2 : Hid (Below w.heap.size w w2) := below_after HB1.out hb2
    have HFA2 : Hid (FlArg w2 y m F) := HFA.out.below hb2
    clear hb2
    obtain ⟨E, HE⟩ : ∃ E, Hid (scedE m F = E) := ⟨_, rfl⟩
    rw [HE.out]
    have HCK : Hid (∀ W, Below w.heap.size w W → Calls Tryd.prog 9 #[.slice x m cap] W fun e w' => e = .returned (errV E) ∧ Below W.heap.size W w') := fun W hW => by
      have := checkA x cap m F W HM.out (HA.out.below hW)
      rw [HE.out] at this
      exact this
    by_cases hz : E = 0
    · subst hz
      have hok := scedE_zero.1 HE.out
      obtain ⟨b, off, rfl, hF⟩ : ∃ b off, x = some ⟨b, off, none⟩ ∧ FlsAt w b off m F := by
        rcases HA.out with h | h
        · have := hok.lo; omega
        · exact h
      obtain ⟨b', off', rfl, hF'⟩ : ∃ b off, y = some ⟨b, off, none⟩ ∧ FlsAt w2 b off m F := by
        rcases HFA2.out with h | h
        · have := hok.lo; omega
        · exact h
      have HF : Hid (FlsAt w b off m F) := hF
      have HF' : Hid (FlsAt w2 b' off' m F) := hF'
      have HOK : Hid (FsOk m F) := hok
      clear hok hF hF' HCK
      go_wp2
      go_loopw [7, 8, 9, 10] (fun ev cv iv _ wr => w2 = wr ∧ ∃ (k : Nat) (cs : Int), k ≤ m ∧ iv = .int .i64 k ∧ cv = .int .i64 cs ∧ ((ev = .int .i64 0 ∧ Hid (∀ j, j < k → tkOk ticks (F j))) ∨ (ev = .int .i64 2 ∧ Hid (ticks < (F 0).n ∨ (rch F m : Int) ≤ ticks)))) (fun _ _ i _ _ => m - (intOf i).toNat)
      case atStart => exact ⟨rfl, 0, 0, Nat.zero_le _, rfl, rfl, Or.inl ⟨rfl, fun j hj => by omega⟩⟩
      case round =>
        obtain ⟨rfl, k, cs, hk, rfl, rfl, hev⟩ := hrel
        rcases hev with ⟨rfl, HALL⟩ | ⟨rfl, HRG⟩
        · by_cases hlt : k < m
          · obtain ⟨c0, c1, hfw⟩ := HF'.out k hlt
            have hb'l := lt_of_cell c0
            simp only at hb'l
            have HTT : Hid (tkOk ticks (F k) ∨ (¬ tkOk ticks (F k))) := Classical.em _
            have HRR : Hid (¬ tkOk ticks (F k) → ticks < (F 0).n ∨ (rch F m : Int) ≤ ticks) := fun h => tk_range HOK.out hlt h
            have HRC' := hfw.rc
            have hln := hfw.ln
            have hlm := hfw.lm
            have htk : tkOk ticks (F k) ↔ ((F k).n : Int) ≤ ticks ∧ ticks < (F k).m := Iff.rfl
            unfold maxLen at hln hlm
            clear hfw
            obtain ⟨TO, HTOE⟩ : ∃ TO : Prop, Hid (tkOk ticks (F k) = TO) := ⟨_, rfl⟩
            rw [HTOE.out] at HTT HRR htk
            have HTOE' : Hid (TO → tkOk ticks (F k)) := fun h => by rw [HTOE.out]; exact h
            obtain ⟨x, cx, n, c, y, cy2, mm, p, hFk⟩ : ∃ x cx n c y cy2 mm p, F k = ⟨x, cx, n, c, y, cy2, mm, p⟩ := ⟨_, _, _, _, _, _, _, _, rfl⟩
            rw [hFk] at c0 c1 HRC' hln hlm htk
            simp only at c0 c1 HRC' hln hlm htk
            have HRC : Hid (Row w2 x n c) := HRC'
            clear HRC' hFk
            by_cases q1 : ticks < n
            · have HRG : Hid (ticks < (F 0).n ∨ (rch F m : Int) ≤ ticks) := HRR.out (fun h => by have := htk.1 h; omega)
              clear htk HRR HTT HTOE HTOE'
              go_wp2
              go_loopw [8, 10] (fun cv kv wq => w2 = wq ∧ ∃ (kk : Nat) (cs : Int), kk ≤ n ∧ kv = .int .i64 kk ∧ cv = .int .i64 cs) (fun _ i _ => n - (intOf i).toNat)
              case atStart => exact ⟨rfl, 0, cs, Nat.zero_le _, rfl, rfl⟩
              case round =>
                obtain ⟨rfl, kk, ct, hkk, rfl, rfl⟩ := hrel
                by_cases hl2 : kk < n
                · obtain ⟨rb, ro, rfl⟩ := HRC.out.some (by omega)
                  have d0 := HRC.out.at hl2
                  have hrb := lt_of_cell d0
                  simp only at hrb
                  generalize c kk = ck at *
                  go_wp2
                  go_roundw
                  case rel => exact ⟨by first | rfl | trivial, kk + 1, _, by omega, by go_num, rfl⟩
                  case measure => simp [intOf]; omega
                · obtain rfl : kk = n := by omega
                  go_wp2
                  go_roundw
                  case rel => exact ⟨by first | rfl | trivial, k + 1, _, by omega, by go_num, rfl, Or.inr ⟨rfl, HRG.out⟩⟩
                  case measure => simp [intOf]; omega
            · by_cases q2 : (mm : Int) ≤ ticks
              · have HRG : Hid (ticks < (F 0).n ∨ (rch F m : Int) ≤ ticks) := HRR.out (fun h => by have := htk.1 h; omega)
                clear htk HRR HTT HTOE HTOE'
                go_wp2
                go_loopw [8, 10] (fun cv kv wq => w2 = wq ∧ ∃ (kk : Nat) (cs : Int), kk ≤ n ∧ kv = .int .i64 kk ∧ cv = .int .i64 cs) (fun _ i _ => n - (intOf i).toNat)
                case atStart => exact ⟨rfl, 0, cs, Nat.zero_le _, rfl, rfl⟩
                case round =>
                  obtain ⟨rfl, kk, ct, hkk, rfl, rfl⟩ := hrel
                  by_cases hl2 : kk < n
                  · obtain ⟨rb, ro, rfl⟩ := HRC.out.some (by omega)
                    have d0 := HRC.out.at hl2
                    have hrb := lt_of_cell d0
                    simp only at hrb
                    generalize c kk = ck at *
                    go_wp2
                    go_roundw
                    case rel => exact ⟨by first | rfl | trivial, kk + 1, _, by omega, by go_num, rfl⟩
                    case measure => simp [intOf]; omega
                  · obtain rfl : kk = n := by omega
                    go_wp2
                    go_roundw
                    case rel => exact ⟨by first | rfl | trivial, k + 1, _, by omega, by go_num, rfl, Or.inr ⟨rfl, HRG.out⟩⟩
                    case measure => simp [intOf]; omega
              · have HTO : Hid (tkOk ticks (F k)) := HTOE'.out (htk.2 ⟨by omega, by omega⟩)
                clear htk HRR HTT HTOE HTOE'
                go_wp2
                go_loopw [8, 10] (fun cv kv wq => w2 = wq ∧ ∃ (kk : Nat) (cs : Int), kk ≤ n ∧ kv = .int .i64 kk ∧ cv = .int .i64 cs) (fun _ i _ => n - (intOf i).toNat)
                case atStart => exact ⟨rfl, 0, cs, Nat.zero_le _, rfl, rfl⟩
                case round =>
                  obtain ⟨rfl, kk, ct, hkk, rfl, rfl⟩ := hrel
                  by_cases hl2 : kk < n
                  · obtain ⟨rb, ro, rfl⟩ := HRC.out.some (by omega)
                    have d0 := HRC.out.at hl2
                    have hrb := lt_of_cell d0
                    simp only at hrb
                    generalize c kk = ck at *
                    go_wp2
                    go_roundw
                    case rel => exact ⟨by first | rfl | trivial, kk + 1, _, by omega, by go_num, rfl⟩
                    case measure => simp [intOf]; omega
                  · obtain rfl : kk = n := by omega
                    go_wp2
                    go_roundw
                    case rel => exact ⟨by first | rfl | trivial, k + 1, _, by omega, by go_num, rfl, Or.inl ⟨rfl, fun j hj => by by_cases e : j = k; subst e; exact HTO.out; exact HALL.out j (by omega)⟩⟩
                    case measure => simp [intOf]; omega
          · obtain rfl : k = m := by omega
            obtain ⟨Tk, rfl⟩ : ∃ Tk : Nat, ticks = Tk := ⟨ticks.toNat, by have := (tk_all HOK.out HALL.out).1; omega⟩
            have HTK : Hid ((F 0).n ≤ Tk ∧ Tk < rch F k) := by have := tk_all HOK.out HALL.out; exact ⟨by omega, by omega⟩
            by_cases h60 : (60 : Int) < Tk
            · go_wp2
              go_ret
              exact ⟨rfl, HB2.out⟩
            by_cases hc60 : 60 < cs
            · go_wp2
              go_ret
              exact ⟨rfl, HB2.out⟩
            have HK1 : Hid (∀ i, i < k → kF F Tk i ≤ 1000) := fun i hi => by have := ((cmOk HOK.out : CmOk k Tk (cF F) (kF F Tk)).k i hi).2; omega
            go_wp2_with fail
            refine (rmake_any b' off' cy k Tk F w2 HF'.out HOK.out HTK.out.1 HTK.out.2).mono ?_
            rintro e w3 ⟨sv, prv, thv, rfl, hpr, hb3⟩
            have HB3 : Hid (Below w.heap.size w w3) := below_after HB2.out hb3
            obtain ⟨x3, c3, pb3, po3, pc3, tb3, tf3, tc3, px3, tx3, pk3, tk3, rfl, r3, l3, rfl, rfl, hp3, ht3⟩ := hpr.rows
            have HR3 : Hid (Row w3 x3 Tk (pik (pF F Tk) (cF F) k) ∧ Rows2 w3 pb3 po3 k px3 pk3 (kF F Tk) (pF F Tk) ∧ Rows2 w3 tb3 tf3 k tx3 tk3 (kF F Tk) (thr (pF F Tk) (cF F) k Tk)) := ⟨r3, hp3, ht3⟩
            have HL3 : Hid (Tk ≤ maxLen) := l3
            clear hpr hb3 r3 l3 hp3 ht3
            go_wp2_with fail
            refine (make_any b off cap k Tk F w3 (HF.out.below HB3.out) HOK.out HTK.out.1 HTK.out.2).mono ?_
            rintro e w4 ⟨sv, prv, thv, rfl, hpr, hb4⟩
            obtain ⟨x4, c4, pb4, po4, pc4, tb4, tf4, tc4, px4, tx4, pk4, tk4, rfl, r4, l4, rfl, rfl, hp4, ht4⟩ := hpr.rows
            obtain ⟨W4, HW4⟩ : ∃ W4, Hid (w4.alloc (.cells #[.slice x4 Tk c4, .slice (some ⟨pb4, po4, none⟩) k pc4, .slice (some ⟨tb4, tf4, none⟩) k tc4] 43) = W4) := ⟨_, rfl⟩
            have HB4 : Hid (Below w.heap.size w W4) := by show Below _ _ _; rw [← HW4.out]; exact below_alloc_ (below_after HB3.out hb4) _
            have HA4 : Hid (Below w4.heap.size w4 W4) := by show Below _ _ _; rw [← HW4.out]; exact below_alloc_ (Below.refl _ _) _
            have HP4 : Hid (W4.heap[w4.heap.size]? = some (.cells #[.slice x4 Tk c4, .slice (some ⟨pb4, po4, none⟩) k pc4, .slice (some ⟨tb4, tf4, none⟩) k tc4] 43 (0, 0))) := by show _ = _; rw [← HW4.out]; exact new_block_ rfl
            have HR4 : Hid ((Row W4 x4 Tk (pik (pF F Tk) (cF F) k) ∧ Rows2 W4 pb4 po4 k px4 pk4 (kF F Tk) (pF F Tk) ∧ Rows2 W4 tb4 tf4 k tx4 tk4 (kF F Tk) (thr (pF F Tk) (cF F) k Tk)) ∧ Row W4 x3 Tk (pik (pF F Tk) (cF F) k) ∧ Rows2 W4 pb3 po3 k px3 pk3 (kF F Tk) (pF F Tk) ∧ Rows2 W4 tb3 tf3 k tx3 tk3 (kF F Tk) (thr (pF F Tk) (cF F) k Tk)) := ⟨⟨r4.below HA4.out, hp4.below HA4.out, ht4.below HA4.out⟩, (HR3.out.1.below hb4).below HA4.out, (HR3.out.2.1.below hb4).below HA4.out, (HR3.out.2.2.below hb4).below HA4.out⟩
            clear hpr hb4 r4 l4 hp4 ht4 HR3
            go_wp2_with fail
            rw [HW4.out]
            refine (bare_nil W4 (HL.out.below HB4.out)).mono ?_
            rintro e w5 ⟨rfl, hb5⟩
            have HB5 : Hid (Below w.heap.size w w5) := below_after HB4.out hb5
            have HP5 : Hid (w5.heap[w4.heap.size]? = some (.cells #[.slice x4 Tk c4, .slice (some ⟨pb4, po4, none⟩) k pc4, .slice (some ⟨tb4, tf4, none⟩) k tc4] 43 (0, 0))) := (hb5.block _ (lt_of_block HP4.out)).trans HP4.out
            have HR5 : Hid ((Row w5 x4 Tk (pik (pF F Tk) (cF F) k) ∧ Rows2 w5 pb4 po4 k px4 pk4 (kF F Tk) (pF F Tk) ∧ Rows2 w5 tb4 tf4 k tx4 tk4 (kF F Tk) (thr (pF F Tk) (cF F) k Tk)) ∧ Row w5 x3 Tk (pik (pF F Tk) (cF F) k) ∧ Rows2 w5 pb3 po3 k px3 pk3 (kF F Tk) (pF F Tk) ∧ Rows2 w5 tb3 tf3 k tx3 tk3 (kF F Tk) (thr (pF F Tk) (cF F) k Tk)) := ⟨⟨HR4.out.1.1.below hb5, HR4.out.1.2.1.below hb5, HR4.out.1.2.2.below hb5⟩, HR4.out.2.1.below hb5, HR4.out.2.2.1.below hb5, HR4.out.2.2.2.below hb5⟩
            clear hb5 HR4
            obtain ⟨⟨k0, k1, k2⟩, _, hpl⟩ := plan_cells HP5.out
            go_wp2_with fail
            refine (lsame_any x4 x3 c4 c3 Tk (pik (pF F Tk) (cF F) k) w5 HL3.out HR5.out.1.1 HR5.out.2.1).mono ?_
            rintro e w6 ⟨rfl, q6, rfl⟩
            go_wp2_with fail
            refine (slists_any pb4 po4 pc4 pb3 po3 pc3 k px4 px3 pk4 pk3 (kF F Tk) (pF F Tk) _ (by omega) HK1.out (HR5.out.1.2.1.drewN _) (HR5.out.2.2.1.drewN _)).mono ?_
            rintro e w7 ⟨rfl, q7, rfl⟩
            go_wp2_with fail
            refine (slists_any tb4 tf4 tc4 tb3 tf3 tc3 k tx4 tx3 tk4 tk3 (kF F Tk) (thr (pF F Tk) (cF F) k Tk) _ (by omega) HK1.out (by exact HR5.out.1.2.2.drewN _) (by exact HR5.out.2.2.2.drewN _)).mono ?_
            rintro e w8 ⟨rfl, q8, rfl⟩
            go_wp2
            go_ret
            exact ⟨rfl, by repeat' (first | with_reducible exact HB5.out | with_reducible refine below_drewN ?_ _)⟩
        · have HMK : Hid (∀ W, Below w.heap.size w W → Calls Tryd.prog 12 #[.slice (some ⟨b, off, none⟩) m cap, .int .i64 ticks] W fun e w' => e = .returned (.tuple #[noPlan, .iface 26 (.int .i64 2)]) ∧ Below W.heap.size W w') := fun W hW => by
            have := make_range b off cap m ticks F W (HF.out.below hW) HOK.out HRG.out
            rw [errV_not (by decide)] at this
            exact this
          by_cases hkm : k < m
          · skip
            go_wp2_with fail
            refine (HMK.out w2 HB2.out).mono ?_
            unfold noPlan
            rintro e w3 ⟨rfl, hb3⟩
            obtain ⟨W3, HW3⟩ : ∃ W3, Hid (w3.alloc (.cells #[.slice none 0 0, .slice none 0 0, .slice none 0 0] 43) = W3) := ⟨_, rfl⟩
            have HB3 : Hid (Below w.heap.size w W3) := by show Below _ _ _; rw [← HW3.out]; exact below_alloc_ (below_after HB2.out hb3) _
            have HP3 : Hid (W3.heap[w3.heap.size]? = some (.cells #[.slice none 0 0, .slice none 0 0, .slice none 0 0] 43 (0, 0))) := by show _ = _; rw [← HW3.out]; exact new_block_ rfl
            clear hb3
            go_wp2_with fail
            rw [HW3.out]
            refine (bare_no 2 W3 (HL.out.below HB3.out) (by decide)).mono ?_
            rintro e w4 ⟨rfl, hb4⟩
            have HB4 : Hid (Below w.heap.size w w4) := below_after HB3.out hb4
            have HP4 : Hid (w4.heap[w3.heap.size]? = some (.cells #[.slice none 0 0, .slice none 0 0, .slice none 0 0] 43 (0, 0))) := (hb4.block _ (lt_of_block HP3.out)).trans HP3.out
            clear hb4
            obtain ⟨⟨k0, k1, k2⟩, _, hpl⟩ := plan_cells HP4.out
            go_wp2_with fail
            refine (lsame_any none none 0 0 0 (fun _ => 0) w4 (Nat.zero_le _) (Or.inl rfl) (Or.inl rfl)).mono ?_
            rintro e w5 ⟨rfl, q5, rfl⟩
            go_wp2_with fail
            refine (slists_nil _).mono ?_
            rintro e w6 ⟨rfl, q6, rfl⟩
            go_wp2_with fail
            refine (slists_nil _).mono ?_
            rintro e w7 ⟨rfl, q7, rfl⟩
            go_wp2
            go_ret
            exact ⟨rfl, by repeat' (first | with_reducible exact HB4.out | with_reducible refine below_drewN ?_ _)⟩
          · skip
            go_wp2_with fail
            refine (HMK.out w2 HB2.out).mono ?_
            unfold noPlan
            rintro e w3 ⟨rfl, hb3⟩
            obtain ⟨W3, HW3⟩ : ∃ W3, Hid (w3.alloc (.cells #[.slice none 0 0, .slice none 0 0, .slice none 0 0] 43) = W3) := ⟨_, rfl⟩
            have HB3 : Hid (Below w.heap.size w W3) := by show Below _ _ _; rw [← HW3.out]; exact below_alloc_ (below_after HB2.out hb3) _
            have HP3 : Hid (W3.heap[w3.heap.size]? = some (.cells #[.slice none 0 0, .slice none 0 0, .slice none 0 0] 43 (0, 0))) := by show _ = _; rw [← HW3.out]; exact new_block_ rfl
            clear hb3
            go_wp2_with fail
            rw [HW3.out]
            refine (bare_no 2 W3 (HL.out.below HB3.out) (by decide)).mono ?_
            rintro e w4 ⟨rfl, hb4⟩
            have HB4 : Hid (Below w.heap.size w w4) := below_after HB3.out hb4
            have HP4 : Hid (w4.heap[w3.heap.size]? = some (.cells #[.slice none 0 0, .slice none 0 0, .slice none 0 0] 43 (0, 0))) := (hb4.block _ (lt_of_block HP3.out)).trans HP3.out
            clear hb4
            obtain ⟨⟨k0, k1, k2⟩, _, hpl⟩ := plan_cells HP4.out
            go_wp2_with fail
            refine (lsame_any none none 0 0 0 (fun _ => 0) w4 (Nat.zero_le _) (Or.inl rfl) (Or.inl rfl)).mono ?_
            rintro e w5 ⟨rfl, q5, rfl⟩
            go_wp2_with fail
            refine (slists_nil _).mono ?_
            rintro e w6 ⟨rfl, q6, rfl⟩
            go_wp2_with fail
            refine (slists_nil _).mono ?_
            rintro e w7 ⟨rfl, q7, rfl⟩
            go_wp2
            go_ret
            exact ⟨rfl, by repeat' (first | with_reducible exact HB4.out | with_reducible refine below_drewN ?_ _)⟩
    · have hz' : (E == 0) = false := by simpa using hz
      have HZ : Hid (E ≠ 0) := hz
      have HMK : Hid (∀ W, Below w.heap.size w W → Calls Tryd.prog 12 #[.slice x m cap, .int .i64 ticks] W fun e w' => e = .returned (.tuple #[noPlan, .iface 26 (.int .i64 E)]) ∧ Below W.heap.size W w') := fun W hW => by
        have := make_no x cap m ticks E W HZ.out (fun V hV => HCK.out V (below_after hW hV))
        rw [errV_not HZ.out] at this
        exact this
      go_wp2
      -- E
      go_loopw [7, 8, 9, 10] (fun ev cv iv _ wr => w2 = wr ∧ iv = .int .i64 0 ∧ ev = .int .i64 E ∧ cv = .int .i64 0) (fun _ _ _ _ _ => 0)
      case atStart => exact ⟨rfl, rfl, rfl, rfl⟩
      case round =>
        obtain ⟨rfl, rfl, rfl, rfl⟩ := hrel
        by_cases hkm : 0 < m
        · skip
          go_wp2_with fail
          refine (HMK.out w2 HB2.out).mono ?_
          unfold noPlan
          rintro e w3 ⟨rfl, hb3⟩
          obtain ⟨W3, HW3⟩ : ∃ W3, Hid (w3.alloc (.cells #[.slice none 0 0, .slice none 0 0, .slice none 0 0] 43) = W3) := ⟨_, rfl⟩
          have HB3 : Hid (Below w.heap.size w W3) := by show Below _ _ _; rw [← HW3.out]; exact below_alloc_ (below_after HB2.out hb3) _
          have HP3 : Hid (W3.heap[w3.heap.size]? = some (.cells #[.slice none 0 0, .slice none 0 0, .slice none 0 0] 43 (0, 0))) := by show _ = _; rw [← HW3.out]; exact new_block_ rfl
          clear hb3
          go_wp2_with fail
          rw [HW3.out]
          refine (bare_no E W3 (HL.out.below HB3.out) HZ.out).mono ?_
          rintro e w4 ⟨rfl, hb4⟩
          have HB4 : Hid (Below w.heap.size w w4) := below_after HB3.out hb4
          have HP4 : Hid (w4.heap[w3.heap.size]? = some (.cells #[.slice none 0 0, .slice none 0 0, .slice none 0 0] 43 (0, 0))) := (hb4.block _ (lt_of_block HP3.out)).trans HP3.out
          clear hb4
          obtain ⟨⟨k0, k1, k2⟩, _, hpl⟩ := plan_cells HP4.out
          go_wp2_with fail
          refine (lsame_any none none 0 0 0 (fun _ => 0) w4 (Nat.zero_le _) (Or.inl rfl) (Or.inl rfl)).mono ?_
          rintro e w5 ⟨rfl, q5, rfl⟩
          go_wp2_with fail
          refine (slists_nil _).mono ?_
          rintro e w6 ⟨rfl, q6, rfl⟩
          go_wp2_with fail
          refine (slists_nil _).mono ?_
          rintro e w7 ⟨rfl, q7, rfl⟩
          go_wp2
          go_ret
          exact ⟨rfl, by repeat' (first | with_reducible exact HB4.out | with_reducible refine below_drewN ?_ _)⟩
        · skip
          go_wp2_with fail
          refine (HMK.out w2 HB2.out).mono ?_
          unfold noPlan
          rintro e w3 ⟨rfl, hb3⟩
          obtain ⟨W3, HW3⟩ : ∃ W3, Hid (w3.alloc (.cells #[.slice none 0 0, .slice none 0 0, .slice none 0 0] 43) = W3) := ⟨_, rfl⟩
          have HB3 : Hid (Below w.heap.size w W3) := by show Below _ _ _; rw [← HW3.out]; exact below_alloc_ (below_after HB2.out hb3) _
          have HP3 : Hid (W3.heap[w3.heap.size]? = some (.cells #[.slice none 0 0, .slice none 0 0, .slice none 0 0] 43 (0, 0))) := by show _ = _; rw [← HW3.out]; exact new_block_ rfl
          clear hb3
          go_wp2_with fail
          rw [HW3.out]
          refine (bare_no E W3 (HL.out.below HB3.out) HZ.out).mono ?_
          rintro e w4 ⟨rfl, hb4⟩
          have HB4 : Hid (Below w.heap.size w w4) := below_after HB3.out hb4
          have HP4 : Hid (w4.heap[w3.heap.size]? = some (.cells #[.slice none 0 0, .slice none 0 0, .slice none 0 0] 43 (0, 0))) := (hb4.block _ (lt_of_block HP3.out)).trans HP3.out
          clear hb4
          obtain ⟨⟨k0, k1, k2⟩, _, hpl⟩ := plan_cells HP4.out
          go_wp2_with fail
          refine (lsame_any none none 0 0 0 (fun _ => 0) w4 (Nat.zero_le _) (Or.inl rfl) (Or.inl rfl)).mono ?_
          rintro e w5 ⟨rfl, q5, rfl⟩
          go_wp2_with fail
          refine (slists_nil _).mono ?_
          rintro e w6 ⟨rfl, q6, rfl⟩
          go_wp2_with fail
          refine (slists_nil _).mono ?_
          rintro e w7 ⟨rfl, q7, rfl⟩
          go_wp2
          go_ret
          exact ⟨rfl, by repeat' (first | with_reducible exact HB4.out | with_reducible refine below_drewN ?_ _)⟩
end Go.Proofs.YtnaooocmggnojaaDoor
