/-
  millracekeep.CurveConforms is true at every bucket and every packets; nothing that was there before is otherwise. Conditions: errors.errorType holds its handle; the packets lie in memory.
-/
import Derived.Test.YtebahbcmlhdleaaDoorPoured
import Derived.Test.YtebahbcmlhdleaaDoorBkCf
import Derived.Test.YtebahbcmlhdleaaDoorCvBurst
import Derived.Test.YtebahbcmlhdleaaDoorCvK1
import Derived.Deep.OwnRows
namespace Go.Proofs.YtebahbcmlhdleaaDoor
open Go.RowKit Go.Extern.Stop Go.Stop Go.Extern

set_option maxRecDepth 20000 in
set_option maxHeartbeats 1000000 in
theorem cconf_no (n t R : Int) (x : Option Addr) (cap : Nat) (xs : List It) (w : World) (h : ¬ (okB n t R ∧ okL xs)) (hL : Laid w) (hI : ItemsAt w x xs) (hm : xs.length ≤ maxLen) :
    Calls Tryd.prog 4 #[.agg #[.int .i64 n, .int .i64 t, .int .i64 R], .slice x xs.length cap] w fun e w' => e = .returned (.bool true) ∧ Below w.heap.size w w' := by
  have hC : ∀ W : World, Laid W → ItemsAt W x xs → Calls Tryd.prog 11 #[.agg #[.int .i64 n, .int .i64 t, .int .i64 R], .slice x xs.length cap] W fun e w' => ∃ t' u', e = .returned (.tuple #[.slice none 0 0, .iface t' u']) ∧ Below W.heap.size W w' := by
    intro W hL hI
    by_cases hb : okB n t R
    · exact (conform_nol n t R x cap xs W hb (fun hl => h ⟨hb, hl⟩) hL hI hm).mono (by rintro e w' ⟨t', u', rfl, _, hb⟩; exact ⟨_, _, rfl, hb⟩)
    · exact (conform_nob n t R _ W hb).mono (by rintro e w' ⟨rfl, hb⟩; exact ⟨_, _, rfl, hb⟩)
  have HC : Hid (∀ W : World, Laid W → ItemsAt W x xs → Calls Tryd.prog 11 #[.agg #[.int .i64 n, .int .i64 t, .int .i64 R], .slice x xs.length cap] W fun e w' => ∃ t' u', e = .returned (.tuple #[.slice none 0 0, .iface t' u']) ∧ Below W.heap.size W w') := hC
  have HL : Hid (Laid w) := hL
  have HI : Hid (ItemsAt w x xs) := hI
  clear hC hL hI hm h
  generalize xs.length = m at *
  go_enter Tryd.func4, Tryd.ntmps4
  go_wp2_with fail
  have hB0 : Below w.heap.size w (w.alloc (.cells #[.int .i64 n, .int .i64 t, .int .i64 R] 37)) := (Below.refl _ _).alloc (Nat.le_refl _) _
  refine (HC.out _ (HL.out.below hB0) (HI.out.below hB0)).mono ?_
  rintro e w1 ⟨t1, u1, rfl, hb1⟩
  have B1 : Hid (Below w.heap.size w w1) := hB0.trans (hb1.mono (by simp))
  clear hb1 hB0
  go_wp2_with fail
  refine (poured_true _).mono ?_
  rintro e w2 ⟨rfl, hb2⟩
  have B2 : Hid (Below w.heap.size w w2) := B1.out.trans (hb2.mono B1.out.size)
  clear hb2
  go_wp2_with fail
  refine (curved_true _).mono ?_
  rintro e w3 ⟨rfl, hb3⟩
  have B3 : Hid (Below w.heap.size w w3) := B2.out.trans (hb3.mono B2.out.size)
  clear hb3
  go_wp2_with fail
  refine (poured_true _).mono ?_
  rintro e w4 ⟨rfl, hb4⟩
  have B4 : Hid (Below w.heap.size w w4) := B3.out.trans (hb4.mono B3.out.size)
  clear hb4
  go_wp2_with fail
  refine (curved_true _).mono ?_
  rintro e w5 ⟨rfl, hb5⟩
  have B5 : Hid (Below w.heap.size w w5) := B4.out.trans (hb5.mono B4.out.size)
  clear hb5
  go_wp2
  go_ret
  exact ⟨rfl, B5.out⟩

theorem zeros120 : Tryd.zeroCells43 = Array.replicate 120 (.int .i64 0) := by kernel_rfl
theorem row120 (w : World) : (w.alloc (.cells Tryd.zeroCells43 43)).rowIs w.heap.size 43 120 (fun _ => .int .i64 0) := by
  rw [zeros120]
  have := World.rowIs_alloc w (Array.replicate 120 (.int .i64 0)) 43 (fun _ => .int .i64 0) (fun i hi => by simp at hi; simp [hi])
  simpa using this
theorem slice120 (b M : Nat) (h : M ≤ 119) (w : World) : (Instr.sliceAt 43 (.pointer (some ⟨b, 0, none⟩)) none (some (.int .i64 ((M : Int) + 1))) none).run Tryd.prog w = .ok (.slice (some ⟨b, 0, none⟩) (M + 1) 120) w := by
  have hl : Tryd.prog.arrayLen 43 = 120 := by kernel_rfl
  have he : Tryd.prog.underlying 43 = some (.array (Tryd.prog.arrayLen 43) (Tryd.prog.elem 43)) := by kernel_rfl
  have hs : (sizeOf (Tryd.prog.elem 43)).run Tryd.prog w = .ok 1 w := by kernel_rfl
  have ht : ((M : Int) + 1).toNat = M + 1 := by omega
  rw [run_sliceAt_array_h w 43 ⟨b, 0, none⟩ he .i64 _ (by omega) (by rw [hl]; omega), hs]
  simp [slicedAt, hl, ht, Result.andThen, Addr.add]
theorem burst_120 (n t R : Int) (w : World) (h : okB n t R) :
    Calls Tryd.prog 7 #[.agg #[.int .i64 n, .int .i64 t], .int .i64 R, .int .i64 120] w fun e w' => ∃ s, e = .returned (.tuple #[.slice (some ⟨s, 0, none⟩) 121 121, .nilIface]) ∧ Row w' (some ⟨s, 0, none⟩) 121 (bur n t R) ∧ Below w.heap.size w w' := burst_ok n t R 120 121 w h (by omega) rfl
set_option maxRecDepth 20000 in
set_option maxHeartbeats 8000000 in
theorem cconf_yes (n t R : Int) (x : Option Addr) (cap : Nat) (xs : List It) (w : World) (h : okB n t R) (hl : okL xs) (hL : Laid w) (hI : ItemsAt w x xs) :
    Calls Tryd.prog 4 #[.agg #[.int .i64 n, .int .i64 t, .int .i64 R], .slice x xs.length cap] w fun e w' => e = .returned (.bool true) ∧ Below w.heap.size w w' := by
  obtain ⟨hF, h100⟩ := hl.fine
  have HL : Hid (Laid w) := hL
  have HI : Hid (ItemsAt w x xs) := hI
  have H : Hid (okB n t R) := h
  have HN : Hid (okL xs) := hl
  have HF : Hid (Fine xs) := hF
  have HFIT : Hid (∀ M, Fit M (tk n t R xs xs.length) (bur n t R)) := fun M => fit_bur hF h.1.1 h.2.1.1 h.2.2.1 h100 M
  have HOK : Hid (okC 121 (bur n t R)) := okC_bur h.1 h.2.1.1 h.2.2 121 (by omega) (by omega)
  clear hL hI h hl hF
  go_enter Tryd.func4, Tryd.ntmps4
  go_wp2_with fail
  have hB0 : Below w.heap.size w (w.alloc (.cells #[.int .i64 n, .int .i64 t, .int .i64 R] 37)) := (Below.refl _ _).alloc (Nat.le_refl _) _
  refine (conform_yes n t R x cap xs _ H.out HN.out (HL.out.below hB0) (HI.out.below hB0)).mono ?_
  rintro e w1 ⟨g1, rfl, hg1, hr1, hb1⟩
  have R1 : Hid (RowB w1 g1 xs.length (bok n t R xs)) := hr1
  have KC : Hid (w1.cell? ⟨w.heap.size, 0, none⟩ = some (.int .i64 n) ∧ w1.cell? ⟨w.heap.size, 1, none⟩ = some (.int .i64 t) ∧ w1.cell? ⟨w.heap.size, 2, none⟩ = some (.int .i64 R)) := ⟨by rw [hb1.cell (by simp)]; simp, by rw [hb1.cell (by simp)]; simp, by rw [hb1.cell (by simp)]; simp⟩
  have B1 : Hid (Below w.heap.size w w1) := hB0.trans (hb1.mono (by simp))
  clear hr1 hb1 hB0 hg1
  go_wp2_with fail
  refine (poured_true _).mono ?_
  rintro e w2 ⟨rfl, hb2⟩
  have B12 : Hid (Below w1.heap.size w1 w2) := hb2
  clear hb2
  go_wp2_with fail
  refine (curved_true _).mono ?_
  rintro e w3 ⟨rfl, hb3⟩
  have B13 : Hid (Below w1.heap.size w1 w3) := B12.out.trans (hb3.mono B12.out.size)
  clear hb3
  generalize hn : xs.length = m at *
  have HNN : Hid (xs.length = m) := hn
  clear hn
  have B3 : Hid (Below w.heap.size w w3) := B1.out.trans (B13.out.mono B1.out.size)
  have R3 : Hid (RowB w3 g1 m (bok n t R xs)) := R1.out.kept (S := fun _ => False) (Oth.of_below B13.out) id
  have KC3 : Hid (w3.cell? ⟨w.heap.size, 0, none⟩ = some (.int .i64 n) ∧ w3.cell? ⟨w.heap.size, 1, none⟩ = some (.int .i64 t) ∧ w3.cell? ⟨w.heap.size, 2, none⟩ = some (.int .i64 R)) := ⟨by rw [B13.out.cell (World.block_lt_of_cell? _ _ KC.out.1)]; exact KC.out.1, by rw [B13.out.cell (World.block_lt_of_cell? _ _ KC.out.2.1)]; exact KC.out.2.1, by rw [B13.out.cell (World.block_lt_of_cell? _ _ KC.out.2.2)]; exact KC.out.2.2⟩
  clear R1 KC B12
  go_wp2
  go_loopw [8, 9] (fun v i wr => ∃ (k M : Nat), k ≤ m ∧ M ≤ 119 ∧ i = .int .i64 k ∧ v = .int .i64 M ∧ wr.rowIs w3.heap.size 43 120 (fun u => .int .i64 (tk n t R xs k u)) ∧ Below w3.heap.size w3 wr) (fun _ i _ => m - (intOf i).toNat)
  case atStart => exact ⟨0, 0, Nat.zero_le _, Nat.zero_le _, rfl, rfl, row120 w3, (Below.refl _ _).alloc (Nat.le_refl _) _⟩
  case round =>
    obtain ⟨k, M, hk, hM, rfl, rfl, hrow, hbel⟩ := hrel
    have HO : Hid (wr.rowIs w3.heap.size 43 120 (fun u => .int .i64 (tk n t R xs k u))) := hrow
    have HB : Hid (Below w3.heap.size w3 wr) := hbel
    clear hrow hbel
    by_cases hlt : k < m
    · obtain ⟨y, hy⟩ : ∃ y, xs[k]? = some y := ⟨_, List.getElem?_eq_getElem (by have := HNN.out; omega)⟩
      have hfy := (HF.out k y hy).1
      have hI := HI.out.below B3.out
      rcases hI with he | ⟨b, off, rfl, hI⟩
      · exfalso; rw [he] at hy; simp at hy
      obtain ⟨k0, k1, _, _, _⟩ := hI k y hy
      have hblt := World.block_lt_of_cell? _ _ k0
      have hbne : ¬ b = w3.heap.size := by simp only at hblt; omega
      have hbne' : ¬ w3.heap.size = b := by simp only at hblt; omega
      have c0 : wr.cell? ⟨b, off + k * 5, none⟩ = some (.int .i64 y.a) := by rw [HB.out.cell (World.block_lt_of_cell? _ _ k0)]; exact k0
      have c1 : wr.cell? ⟨b, off + k * 5 + 1, none⟩ = some (.int .i64 y.l) := by rw [HB.out.cell (World.block_lt_of_cell? _ _ k1)]; exact k1
      clear k0 k1 hblt
      have c2 : wr.cell? ⟨g1, k, none⟩ = some (.bool (bok n t R xs k)) := (R3.out.kept (S := fun _ => False) (Oth.of_below HB.out) id) k hlt
      have tb := tk_bd (n := n) (t := t) (R := R) HF.out k (by have := HNN.out; omega) y.a.toNat
      have HY : Hid (xs[k]? = some y) := hy
      clear hI hy
      cases hbk : bok n t R xs k with
      | false =>
        have HT : Hid (∀ u, tk n t R xs (k + 1) u = tk n t R xs k u) := fun u => tk_no HY.out hbk u
        rw [hbk] at c2
        clear hbk
        go_wp2
        go_roundw
        case rel => exact ⟨k + 1, M, by omega, hM, by go_num, rfl, HO.out.congr fun u _ => by rw [HT.out u], HB.out⟩
        case measure => simp [intOf]; omega
      | true =>
        have HT : Hid (∀ u, tk n t R xs (k + 1) u = if u = y.a.toNat then tk n t R xs k u + y.l else tk n t R xs k u) := fun u => tk_yes HY.out hbk u
        rw [hbk] at c2
        clear hbk
        by_cases h120 : y.a < 120
        · obtain ⟨a, ha⟩ : ∃ a : Nat, y.a = a := ⟨y.a.toNat, by omega⟩
          have hat : y.a.toNat = a := by omega
          have ha120 : a < 120 := by omega
          have hai : (a : Int) < 120 := by omega
          have c3 : wr.cell? ⟨w3.heap.size, a, none⟩ = some (.int .i64 (tk n t R xs k a)) := World.rowIs.cell HO.out ha120
          have c4 := World.rowIs.frozen HO.out a
          have HT' : Hid (∀ u, tk n t R xs (k + 1) u = if u = a then tk n t R xs k a + y.l else tk n t R xs k u) := fun u => by
            rw [HT.out u, hat]
            by_cases e : u = a
            · subst e; rfl
            · rw [if_neg e, if_neg e]
          rw [hat] at tb
          rw [ha] at c0
          have hln := hfy.2.2
          clear h120 hfy ha hat HT
          obtain ⟨v, hv⟩ : ∃ v, tk n t R xs k a = v := ⟨_, rfl⟩
          have HV : Hid (tk n t R xs k a = v) := hv
          rw [hv] at c3 tb
          generalize y.l = l at *
          clear hv
          have e0 : IntKind.i64.wrap (v + l) = v + l := by rw [IntKind.wrap_i64]; omega
          by_cases hmx : M < a
          · have hmi : (M : Int) < a := by omega
            go_wp2
            go_region
            all_goals
              go_wp2
              go_roundw
              case rel =>
                refine ⟨k + 1, a, by omega, by omega, by go_num, rfl, ?_, ?_⟩
                · refine World.rowIs.drew ((World.rowIs.set HO.out a _).congr fun u _ => ?_)
                  rw [HT'.out u, HV.out]
                  by_cases e : u = a
                  · rw [if_pos e, if_pos e]
                  · rw [if_neg e, if_neg e]
                · exact (HB.out.setCell (Nat.le_refl _) _).drew
              case measure => simp [intOf]; omega
          · have hmi : (a : Int) ≤ M := by omega
            go_wp2
            go_region
            all_goals
              go_wp2
              go_roundw
              case rel =>
                refine ⟨k + 1, M, by omega, by omega, by go_num, rfl, ?_, ?_⟩
                · refine World.rowIs.drew ((World.rowIs.set HO.out a _).congr fun u _ => ?_)
                  rw [HT'.out u, HV.out]
                  by_cases e : u = a
                  · rw [if_pos e, if_pos e]
                  · rw [if_neg e, if_neg e]
                · exact (HB.out.setCell (Nat.le_refl _) _).drew
              case measure => simp [intOf]; omega
        · have h120' : 120 ≤ y.a := by omega
          have HT' : Hid (∀ u, u < 120 → tk n t R xs (k + 1) u = tk n t R xs k u) := fun u hu => by rw [HT.out u, if_neg (by omega)]
          clear HT
          go_wp2
          go_roundw
          case rel => exact ⟨k + 1, M, by omega, hM, by go_num, rfl, HO.out.congr fun u hu => by rw [HT'.out u hu], HB.out⟩
          case measure => simp [intOf]; omega
    · obtain rfl : k = m := by omega
      have q0 : wr.cell? ⟨w.heap.size, 0, none⟩ = some (.int .i64 n) := by rw [HB.out.cell (World.block_lt_of_cell? _ _ KC3.out.1)]; exact KC3.out.1
      have q1 : wr.cell? ⟨w.heap.size, 1, none⟩ = some (.int .i64 t) := by rw [HB.out.cell (World.block_lt_of_cell? _ _ KC3.out.2.1)]; exact KC3.out.2.1
      have q2 : wr.cell? ⟨w.heap.size, 2, none⟩ = some (.int .i64 R) := by rw [HB.out.cell (World.block_lt_of_cell? _ _ KC3.out.2.2)]; exact KC3.out.2.2
      have B4 : Hid (Below w.heap.size w wr) := B3.out.trans (HB.out.mono B3.out.size)
      have RT : Hid (Row wr (some ⟨w3.heap.size, 0, none⟩) 120 (tk n t R xs k)) := Or.inr ⟨_, 0, rfl, fun i hi => by rw [Nat.zero_add]; exact World.rowIs.cell HO.out hi⟩
      go_wp2_with fail
      refine (burst_120 n t R wr H.out).mono ?_
      rintro e w5 ⟨s, rfl, hr5, hb5⟩
      have R5 : Hid (Row w5 (some ⟨s, 0, none⟩) 121 (bur n t R)) := hr5
      have RT5 : Hid (Row w5 (some ⟨w3.heap.size, 0, none⟩) 120 (tk n t R xs k)) := RT.out.below hb5
      have B5 : Hid (Below w.heap.size w w5) := B4.out.trans (hb5.mono B4.out.size)
      clear hr5 hb5 q0 q1 q2
      have HFT := fits_any (some ⟨w3.heap.size, 0, none⟩) (some ⟨s, 0, none⟩) 120 121 (M + 1) 121 (tk n t R xs k) (bur n t R) w5 (RT5.out.take (by omega)) R5.out HOK.out (by omega) (by omega)
      have hfit := HFIT.out (M + 1)
      rw [fitsE_zero.2 hfit] at HFT
      have HFT' : Hid (Calls Tryd.prog 14 #[.slice (some ⟨w3.heap.size, 0, none⟩) (M + 1) 120, .slice (some ⟨s, 0, none⟩) 121 121] w5 fun e w'' => e = .returned (.tuple #[.bool true, .nilIface]) ∧ w'' = w5) := HFT
      clear HFT hfit
      have hsl := slice120 w3.heap.size M hM
      go_wp2_with fail
      refine HFT'.out.mono ?_
      rintro e w6 ⟨rfl, rfl⟩
      go_wp2
      go_ret
      exact ⟨rfl, B5.out⟩
theorem cconf_any (n t R : Int) (x : Option Addr) (cap : Nat) (xs : List It) (w : World) (hL : Laid w) (hI : ItemsAt w x xs) (hm : xs.length ≤ maxLen) :
    Calls Tryd.prog 4 #[.agg #[.int .i64 n, .int .i64 t, .int .i64 R], .slice x xs.length cap] w fun e w' => e = .returned (.bool true) ∧ Below w.heap.size w w' := by
  by_cases h : okB n t R ∧ okL xs
  · exact cconf_yes n t R x cap xs w h.1 h.2 hL hI
  · exact cconf_no n t R x cap xs w h hL hI hm
end Go.Proofs.YtebahbcmlhdleaaDoor
