/-
  millracekeep.BucketShaped is true at every bucket, every packets and every number; nothing that was there before is otherwise. Conditions: errors.errorType holds its handle; the packets lie in memory; a nil slice has no room.
-/
import Derived.Test.YtbghhnafpflmdabDoorPoured
import Derived.Test.YtbghhnafpflmdabDoorBkCf
import Derived.Test.YtbghhnafpflmdabDoorBkShape
import Derived.Test.YtbghhnafpflmdabDoorFlat
import Derived.Laws.AppendOwnNone
namespace Go.Proofs.YtbghhnafpflmdabDoor
open Go.RowKit Go.Extern.Stop Go.Stop Go.Extern

theorem shape_bad (n t R : Int) (x : Option Addr) (cap : Nat) (xs : List It) (w : World) (h : ¬ (okB n t R ∧ okL xs ∧ Goes n t R xs xs.length)) (hL : Laid w) (hI : ItemsAt w x xs) (hm : xs.length ≤ maxLen) :
    Calls Tryd.prog 11 #[.agg #[.int .i64 n, .int .i64 t, .int .i64 R], .slice x xs.length cap] w fun e w' => ∃ t' u', e = .returned (.tuple #[.slice none 0 0, .iface t' u']) ∧ Below w.heap.size w w' := by
  by_cases hb : okB n t R
  · by_cases hl : okL xs
    · refine (shape_ok n t R x cap xs w hb hl hL hI).mono ?_
      rintro e w' ⟨⟨v, rfl, hg, _⟩ | ⟨rfl, _⟩, hb'⟩
      · exact absurd ⟨hb, hl, hg⟩ h
      · exact ⟨_, _, rfl, hb'⟩
    · exact (shape_nol n t R x cap xs w hb hl hL hI hm).mono (by rintro e w' ⟨t', u', rfl, _, hb⟩; exact ⟨_, _, rfl, hb⟩)
  · exact (shape_nob n t R _ w hb).mono (by rintro e w' ⟨rfl, hb⟩; exact ⟨_, _, rfl, hb⟩)
theorem shape_good (n t R : Int) (x : Option Addr) (cap : Nat) (xs : List It) (w : World) (h : okB n t R) (hl : okL xs) (hG : Goes n t R xs xs.length) (hL : Laid w) (hI : ItemsAt w x xs) :
    Calls Tryd.prog 11 #[.agg #[.int .i64 n, .int .i64 t, .int .i64 R], .slice x xs.length cap] w fun e w' => ∃ v, e = .returned (.tuple #[v, .nilIface]) ∧ w'.ownsRow w.heap.size 3 1 v xs.length (toldI (goes n t R xs) xs.length) ∧ Below w.heap.size w w' := by
  refine (shape_ok n t R x cap xs w h hl hL hI).mono ?_
  rintro e w' ⟨⟨v, rfl, _, ho⟩ | ⟨rfl, hg⟩, hb'⟩
  · exact ⟨v, rfl, ho, hb'⟩
  · exact absurd hG hg

set_option maxRecDepth 50000 in
set_option maxHeartbeats 1000000 in
theorem shaped_err (n t R : Int) (x : Option Addr) (cap : Nat) (xs : List It) (wh : Int) (w : World) (h : ¬ (okB n t R ∧ okL xs ∧ Goes n t R xs xs.length)) (hL : Laid w) (hI : ItemsAt w x xs) (hm : xs.length ≤ maxLen) :
    Calls Tryd.prog 5 #[.agg #[.int .i64 n, .int .i64 t, .int .i64 R], .slice x xs.length cap, .int .i64 wh] w fun e w' => e = .returned (.bool true) ∧ Below w.heap.size w w' := by
  have hB0 : Below w.heap.size w (w.alloc (.cells #[.int .i64 n, .int .i64 t, .int .i64 R] 25)) := (Below.refl _ _).alloc (Nat.le_refl _) _
  have HC := shape_bad n t R x cap xs _ h (hL.below hB0) (hI.below hB0) hm
  clear hL hI hm h
  generalize xs.length = m at *
  go_enter Tryd.func5, Tryd.ntmps5
  go_wp2_with fail
  refine HC.mono ?_
  clear HC
  rintro e w1 ⟨t1, u1, rfl, hb1⟩
  have hB1 : Below w.heap.size w w1 := hB0.trans (hb1.mono (by simp))
  go_wp2_with fail
  refine (poured_true _).mono ?_
  rintro e w3 ⟨rfl, hb3⟩
  have hB3 : Below w.heap.size w w3 := hB1.trans (hb3.mono hB1.size)
  go_wp2_with fail
  refine (poured_true _).mono ?_
  rintro e w4 ⟨rfl, hb4⟩
  go_wp2
  go_ret
  exact ⟨rfl, hB3.trans (hb4.mono hB3.size)⟩

theorem Laid.below' {w w' : World} (h : Laid w) (hb : Below w.heap.size w w') : Laid w' := h.below hb
theorem infoIt : (Tryd.prog.info? 36).map (fun i => (i.zero, i.size, i.bytes)) = some (some (.agg #[.int .i64 0, .int .i64 0, .int .i64 0, .int .i64 0, .int .i64 0]), 5, 40) := by kernel_rfl

def pickN (a n : Int) : Int := (a % 18446744073709551616) % n
theorem pickL_any (a : Int) (m : Nat) (w : World) (h0 : 1 ≤ m) (h1 : m ≤ 100) : Calls Tryd.prog 12 #[.int .i64 a, .int .i64 m] w fun e w' => e = .returned (.int .i64 (pickN a m)) ∧ w' = w := by
  have hz : ¬ (m : Int) = 0 := by omega
  have hu : IntKind.u64.wrap (m : Int) = (m : Int) := by rw [IntKind.wrap_u64]; omega
  have he : wrap64 ((IntKind.u64.wrap a).tmod (m : Int)) = pickN a m := by
    unfold pickN
    rw [IntKind.wrap_u64, Int.tmod_eq_emod_of_nonneg (by omega)]
    have h1 := Int.emod_nonneg (a % 18446744073709551616) hz
    have h2 := Int.emod_lt_of_pos (a % 18446744073709551616) (by omega : (0 : Int) < m)
    generalize a % 18446744073709551616 % (m : Int) = r at *
    unfold wrap64; omega
  have HE : Hid (wrap64 ((IntKind.u64.wrap a).tmod (m : Int)) = pickN a m) := he
  clear he
  go_enter Tryd.func12, Tryd.ntmps12
  go_wp2
  go_ret
  refine ⟨?_, rfl⟩
  rw [← HE.out]; rfl

set_option maxRecDepth 50000 in
set_option maxHeartbeats 8000000 in
theorem shaped_yes (n t R : Int) (b off cap : Nat) (xs : List It) (wh : Int) (w : World) (h : okB n t R) (hl : okL xs) (hG : Goes n t R xs xs.length) (hL : Laid w) (hI : Items w b off xs) (hne : xs ≠ []) :
    Calls Tryd.prog 5 #[.agg #[.int .i64 n, .int .i64 t, .int .i64 R], .slice (some ⟨b, off, none⟩) xs.length cap, .int .i64 wh] w fun e w' => e = .returned (.bool true) ∧ Below w.heap.size w w' := by
  obtain ⟨i0, hi, hz0, hz1, hz2⟩ := info_parts infoIt
  obtain ⟨hF, h100⟩ := hl.fine
  have hpos : 0 < xs.length := List.length_pos_iff.2 hne
  have HL : Hid (Laid w) := hL
  have HI : Hid (Items w b off xs) := hI
  have H : Hid (okB n t R) := h
  have HN : Hid (okL xs) := hl
  have HF : Hid (Fine xs) := hF
  have HG : Hid (Goes n t R xs xs.length) := hG
  have hB0 : Below w.heap.size w (w.alloc (.cells #[.int .i64 n, .int .i64 t, .int .i64 R] 25)) := (Below.refl _ _).alloc (Nat.le_refl _) _
  have hk : ∀ {a b : World} {B p o : Nat} {v : Value}, Below B a b → p < B → a.cell? ⟨p, o, none⟩ = some v → b.cell? ⟨p, o, none⟩ = some v := fun hb hp hc => (hb.cell hp).trans hc
  have HC := shape_good n t R (some ⟨b, off, none⟩) cap xs _ h hl hG (hL.below hB0) (Or.inr ⟨b, off, rfl, hI.below hB0⟩)
  clear hL hI h hl hF hG
  go_enter Tryd.func5, Tryd.ntmps5
  go_wp2_with fail
  refine HC.mono ?_
  clear HC
  rintro e w1 ⟨v, rfl, ho1, hb1⟩
  obtain ⟨gt, capt, rfl⟩ : ∃ gt capt, v = .slice (some ⟨gt, 0, none⟩) xs.length capt := by
    rcases ho1.2 with ⟨_, h0⟩ | ⟨g, cp, _, hv, _⟩
    · omega
    · exact ⟨g, cp, hv⟩
  have hrt := rowI_of_owns ho1
  have c0 : w1.cell? ⟨w.heap.size, 0, none⟩ = some (.int .i64 n) := by rw [hb1.cell (by simp)]; simp
  have c1 : w1.cell? ⟨w.heap.size, 1, none⟩ = some (.int .i64 t) := by rw [hb1.cell (by simp)]; simp
  have c2 : w1.cell? ⟨w.heap.size, 2, none⟩ = some (.int .i64 R) := by rw [hb1.cell (by simp)]; simp
  have hB1 : Below w.heap.size w w1 := hB0.trans (hb1.mono (by simp))
  have HK1 : Hid (w1.cell? ⟨w.heap.size, 0, none⟩ = some (.int .i64 n) ∧ w1.cell? ⟨w.heap.size, 1, none⟩ = some (.int .i64 t) ∧ w1.cell? ⟨w.heap.size, 2, none⟩ = some (.int .i64 R) ∧ RowI w1 gt xs.length (goes n t R xs)) := ⟨c0, c1, c2, hrt⟩
  clear ho1 c0 c1 c2 hrt hb1
  go_wp2_with fail
  refine (poured_true _).mono ?_
  rintro e w2 ⟨rfl, hb2⟩
  have hB2 : Below w.heap.size w w2 := hB1.trans (hb2.mono hB1.size)
  have HK2 : Hid (w2.cell? ⟨w.heap.size, 0, none⟩ = some (.int .i64 n) ∧ w2.cell? ⟨w.heap.size, 1, none⟩ = some (.int .i64 t) ∧ w2.cell? ⟨w.heap.size, 2, none⟩ = some (.int .i64 R) ∧ RowI w2 gt xs.length (goes n t R xs)) := ⟨hk hb2 (lt_of_cell HK1.out.1) HK1.out.1, hk hb2 (lt_of_cell HK1.out.2.1) HK1.out.2.1, hk hb2 (lt_of_cell HK1.out.2.2.1) HK1.out.2.2.1, HK1.out.2.2.2.kept (S := fun _ => False) (Oth.of_below hb2) id⟩
  have HI2 : Hid (Items w2 b off xs) := HI.out.below hB2
  have HLb : Hid (Laid w2) := HL.out.below hB2
  clear hb2 hB1 hB0
  have HFA : Hid (∀ (j : Nat) (u : Value), (flat xs)[j]? = some u → (w2.alloc (.cells #[] 36)).cell? ((⟨b, off, none⟩ : Addr).add j) = some u) := flat_add (HI2.out.below ((Below.refl _ _).alloc (Nat.le_refl _) _))
  go_wp2_with (at_builtin; refine wpList_append_own _ rfl (.tmp 38) (.tmp 39) 26 rfl w2.heap.size 36 i0 (.agg #[.int .i64 0, .int .i64 0, .int .i64 0, .int .i64 0, .int .i64 0]) 5 40 Tryd.underlying26 hi hz0 hz1 hz2 rfl (by decide) (.slice (some ⟨w2.heap.size, 0, none⟩) 0 0) 0 [] rfl (World.ownsRow_made w2 #[] 0 (Nat.le_refl _) (by simp) (by simp)) ⟨b, off, none⟩ xs.length cap (flat xs) rfl (flat_length xs) HFA.out (flat_one xs) (by unfold maxLen; omega) (by omega) (by simp) ?_; intro v3 w3 hown3 hgrow3 hnil3)
  simp only [Nat.zero_add, List.nil_append] at hown3
  obtain ⟨g, capm, rfl⟩ : ∃ g capm, v3 = .slice (some ⟨g, 0, none⟩) xs.length capm := by
    rcases hown3.2 with ⟨_, h0⟩ | ⟨g, cp, _, hv, _⟩
    · omega
    · exact ⟨g, cp, hv⟩
  have HO3 : Hid (OwnIt w3 w2.heap.size g capm xs) := hown3
  have hb3 : Below w2.heap.size w2 w3 := ((Below.refl _ _).alloc (Nat.le_refl _) _).grown hgrow3 (by simp) (fun k e => by cases e; exact Nat.le_refl _)
  have hgb : w2.heap.size ≤ g := by obtain ⟨_, h, _⟩ := HO3.out.parts; exact h
  have hcm : xs.length ≤ capm := by obtain ⟨_, _, _, h, _⟩ := HO3.out.parts; exact h
  clear hown3 hgrow3 hnil3 HFA
  go_loopw [10] (fun i wr => ∃ k : Nat, k ≤ xs.length ∧ i = .int .i64 k ∧ OwnIt wr w2.heap.size g capm (mvd n t R xs k) ∧ Below w2.heap.size w2 wr) (fun i _ => xs.length - (intOf i).toNat)
  case atStart => exact ⟨0, Nat.zero_le _, rfl, by rw [mvd_zero]; exact HO3.out, hb3⟩
  case round =>
    clear hb3
    obtain ⟨k, hk', rfl, hown, hbr⟩ := hrel
    have HO : Hid (OwnIt wr w2.heap.size g capm (mvd n t R xs k)) := hown
    have HBR : Hid (Below w2.heap.size w2 wr) := hbr
    clear hown hbr
    by_cases hlt : k < xs.length
    · obtain ⟨x, hx⟩ : ∃ x, xs[k]? = some x := ⟨_, List.getElem?_eq_getElem hlt⟩
      have HX : Hid (xs[k]? = some x) := hx
      obtain ⟨d0, _⟩ := HI2.out k x hx
      have c0 : wr.cell? ⟨b, off + k * 5, none⟩ = some (.int .i64 x.a) := hk HBR.out (lt_of_cell d0) d0
      have tk := HK2.out.2.2.2 k hlt
      have t0 : wr.cell? ⟨gt, k, none⟩ = some (.int .i64 (goes n t R xs k)) := hk HBR.out (lt_of_cell tk) tk
      have hmk := mvd_at (n := n) (t := t) (R := R) (m := k) hx
      rw [if_neg (Nat.lt_irrefl k)] at hmk
      have HMK : Hid ((mvd n t R xs k)[k]? = some x) := hmk
      obtain ⟨m0, _⟩ := HO.out.items k x hmk
      rw [Nat.zero_add] at m0
      have f0 := HO.out.free (k * 5)
      have hgb1 := goes_bounds (n := n) (t := t) (R := R) HF.out H.out.1.1 hx
      have hgx := HG.out k x hlt hx
      have hg1 : decide (goes n t R xs k < x.a) = false := by simp; omega
      have hg2 : decide (1000000000 < goes n t R xs k) = false := by simp; omega
      have hgS : ¬ goes n t R xs k < (sst n t R xs k).2 := by omega
      have HGS : Hid (¬ goes n t R xs k < (sst n t R xs k).2) := hgS
      clear hx d0 tk hmk hgb1 hgx hgS
      have HRel : Hid (OwnIt (wr.setCell ⟨g, k * 5, none⟩ (.int .i64 (goes n t R xs k))) w2.heap.size g capm (mvd n t R xs (k + 1))) := by
        unfold Hid; rw [mvd_set HX.out]; exact HO.out.set HMK.out _
      generalize goes n t R xs k = G at *
      by_cases hk0 : k = 0
      · have hd : decide (0 < k) = false := by simp; omega
        clear hk0
        go_wp2
        refine wp_region_quiet_lit (by kernel_rfl) (by kernel_rfl) ?_
        generalize hA : ({ tmps := _, defers := _ } : Act) = A
        iterate 33 ((refine wpQuiet_step (fun K hK => ?_)); subst hA; go_simp; (generalize hA : ({ tmps := _, defers := _ } : Act) = A); (refine hK _ ?_); clear hK K)
        subst hA
        refine wpQuiet_nil ?_
        intro _ hw'
        obtain ⟨nq, hw''⟩ := hw'
        subst hw''
        go_wp2
        go_roundw
        case rel => exact ⟨k + 1, by omega, by go_num, HRel.out.kept rfl, (below_drewN HBR.out _).setCell hgb _⟩
        case measure => simp [intOf]; omega
      · obtain ⟨k1, hk1⟩ : ∃ k1, k = k1 + 1 := ⟨k - 1, by omega⟩
        have tk1 := HK2.out.2.2.2 k1 (by omega)
        have t1 : wr.cell? ⟨gt, k1, none⟩ = some (.int .i64 (goes n t R xs k1)) := hk HBR.out (lt_of_cell tk1) tk1
        have hsp : (sst n t R xs k).2 = goes n t R xs k1 := by rw [hk1]; exact sst_prev (by omega)
        have hg3 : decide (G < goes n t R xs k1) = false := by
          have := HGS.out
          rw [hsp] at this
          simp; omega
        have hd : decide (0 < k) = true := by simp; omega
        have hk2 : (k1 : Int) < (xs.length : Int) := by omega
        have hwk : IntKind.i64.wrap ((k : Int) - 1) = (k1 : Int) := by
          rw [hk1, show (((k1 + 1 : Nat) : Int) - 1) = (k1 : Int) by omega]; rw [IntKind.wrap_i64]; omega
        clear hk0 hsp tk1 hk1 HGS
        generalize goes n t R xs k1 = G1 at *
        go_wp2
        refine wp_region_quiet_lit (by kernel_rfl) (by kernel_rfl) ?_
        generalize hA : ({ tmps := _, defers := _ } : Act) = A
        iterate 33 ((refine wpQuiet_step (fun K hK => ?_)); subst hA; go_simp; (generalize hA : ({ tmps := _, defers := _ } : Act) = A); (refine hK _ ?_); clear hK K)
        subst hA
        refine wpQuiet_nil ?_
        intro _ hw'
        obtain ⟨nq, hw''⟩ := hw'
        subst hw''
        go_wp2
        go_roundw
        case rel => exact ⟨k + 1, by omega, by go_num, HRel.out.kept rfl, (below_drewN HBR.out _).setCell hgb _⟩
        case measure => simp [intOf]; omega
    · have hke : k = xs.length := by omega
      subst hke
      have HCF := conform_yes n t R (some ⟨g, 0, none⟩) capm (mvd n t R xs xs.length) wr H.out (okL_mvd HN.out H.out.1.1 HG.out) (HLb.out.below' HBR.out) (Or.inr ⟨g, 0, rfl, HO.out.items⟩)
      rw [mvd_length] at HCF
      have e0 := hk HBR.out (lt_of_cell HK2.out.1) HK2.out.1
      have e1 := hk HBR.out (lt_of_cell HK2.out.2.1) HK2.out.2.1
      have e2 := hk HBR.out (lt_of_cell HK2.out.2.2.1) HK2.out.2.2.1
      go_wp2_with fail
      refine HCF.mono ?_
      rintro e w5 ⟨gx, rfl, hgx, hrx, hb5⟩
      have HRX : Hid (RowB w5 gx xs.length (bok n t R (mvd n t R xs xs.length))) := hrx
      have HB5 : Hid (Below w2.heap.size w2 w5) := HBR.out.trans (hb5.mono HBR.out.size)
      have HO5 : Hid (OwnIt w5 w2.heap.size g capm (mvd n t R xs xs.length)) := HO.out.kept (hb5.block g HO.out.lt)
      clear HCF e0 e1 e2 hrx hgx hb5 HO HBR
      go_wp2
      go_loopw [12] (fun i wr => ∃ k : Nat, k ≤ xs.length ∧ i = .int .i64 k ∧ w5 = wr) (fun i _ => xs.length - (intOf i).toNat)
      case atStart => exact ⟨0, Nat.zero_le _, rfl, rfl⟩
      case round =>
        obtain ⟨k, hk', rfl, rfl⟩ := hrel
        by_cases hlt : k < xs.length
        · have a0 := HRX.out k hlt
          rw [bok_mvd HF.out H.out.1.1 H.out.2.1.1 H.out.2.2.1 hlt HG.out] at a0
          go_wp2
          go_roundw
          case rel => exact ⟨k + 1, by omega, by go_num, by first | exact rfl | trivial⟩
          case measure => simp [intOf]; omega
        · obtain ⟨κ, hκe, hκ⟩ : ∃ κ : Nat, pickN wh xs.length = (κ : Int) ∧ κ < xs.length := by
            have h1 := Int.emod_nonneg (wh % 18446744073709551616) (by omega : (xs.length : Int) ≠ 0)
            have h2 := Int.emod_lt_of_pos (wh % 18446744073709551616) (by omega : (0 : Int) < xs.length)
            refine ⟨(pickN wh xs.length).toNat, ?_, ?_⟩ <;> (unfold pickN; omega)
          have HPK : Hid (∀ W : World, Calls Tryd.prog 12 #[.int .i64 wh, .int .i64 xs.length] W fun e w' => e = .returned (.int .i64 (κ : Int)) ∧ w' = W) := fun W => by
            have := pickL_any wh xs.length W (by omega) h100
            rw [hκe] at this; exact this
          obtain ⟨x, hx⟩ : ∃ x, xs[κ]? = some x := ⟨_, List.getElem?_eq_getElem hκ⟩
          have HXK : Hid (xs[κ]? = some x) := hx
          obtain ⟨d0, _⟩ := HI2.out κ x hx
          have c0 : w5.cell? ⟨b, off + κ * 5, none⟩ = some (.int .i64 x.a) := hk HB5.out (lt_of_cell d0) d0
          have tk := HK2.out.2.2.2 κ hκ
          have t0 : w5.cell? ⟨gt, κ, none⟩ = some (.int .i64 (goes n t R xs κ)) := hk HB5.out (lt_of_cell tk) tk
          have hgb1 := goes_bounds (n := n) (t := t) (R := R) HF.out H.out.1.1 hx
          have hgx := HG.out κ x hκ hx
          have hfx := (HF.out κ x hx).1
          have hcap1 : (κ : Int) + 1 ≤ (capm : Int) := by omega
          clear hx d0 tk hκe
          by_cases hκ0 : κ = 0
          · have hs0 : (sst n t R xs κ).2 = 0 := by rw [hκ0]; rfl
            have hd : decide (0 < κ) = false := by simp; omega
            by_cases hge : goes n t R xs κ = x.a
            · rw [hge] at t0
              clear hge hκ0 hs0 hgb1 hgx
              go_wp2_with (go_at_call 12; refine (HPK.out _).mono ?_; rintro e w' ⟨rfl, rfl⟩)
              go_ret
              exact ⟨rfl, hB2.trans (HB5.out.mono hB2.size)⟩
            · have HGT : Hid (x.a < goes n t R xs κ ∧ (sst n t R xs κ).2 < goes n t R xs κ) := ⟨by omega, by omega⟩
              have hgn : (goes n t R xs κ == x.a) = false := by simp only [beq_eq_false_iff_ne]; exact hge
              have hG0 : 0 < goes n t R xs κ ∧ goes n t R xs κ ≤ 1000000000 := by omega
              obtain ⟨hG1, hG2⟩ := hG0
              clear hge hs0 hgb1 hgx hκ0
              have hm5 := mvd_at (n := n) (t := t) (R := R) (m := xs.length) HXK.out
              rw [if_pos hκ] at hm5
              have HM5 : Hid ((mvd n t R xs xs.length)[κ]? = some { x with a := goes n t R xs κ }) := hm5
              obtain ⟨m0, _⟩ := HO5.out.items κ _ hm5
              simp only [Nat.zero_add] at m0
              have f0 := HO5.out.free (κ * 5)
              have HSN : Hid (bok n t R (soon n t R xs κ x) κ = false) := sooner HF.out H.out.1.1 H.out.2.1.1 H.out.2.2.1 HXK.out HG.out _ (fun j hj => soon_at hj) (soon_last hκ) HGT.out.1 HGT.out.2
              have HIT : Hid (ItemsAt (w5.setCell ⟨g, κ * 5, none⟩ (.int .i64 (goes n t R xs κ - 1))) (some ⟨g, 0, none⟩) (soon n t R xs κ x)) := by
                refine Or.inr ⟨g, 0, rfl, ?_⟩
                have h1 := ((HO5.out.set HM5.out (goes n t R xs κ - 1)).items).take (κ + 1)
                rw [List.take_set] at h1
                exact h1
              have hb6 : Below w2.heap.size w2 (w5.setCell ⟨g, κ * 5, none⟩ (.int .i64 (goes n t R xs κ - 1))) := HB5.out.setCell hgb _
              have HCF2 := conform_yes n t R (some ⟨g, 0, none⟩) capm (soon n t R xs κ x) _ H.out (okL_soon HN.out H.out.1.1 HG.out HXK.out HGT.out.1 HGT.out.2) (HLb.out.below' hb6) HIT.out
              rw [soon_length hκ] at HCF2
              have e0 := hk hb6 (lt_of_cell HK2.out.1) HK2.out.1
              have e1 := hk hb6 (lt_of_cell HK2.out.2.1) HK2.out.2.1
              have e2 := hk hb6 (lt_of_cell HK2.out.2.2.1) HK2.out.2.2.1
              have HC2 : Hid (Calls Tryd.prog 7 #[.agg #[.int .i64 n, .int .i64 t, .int .i64 R], .slice (some ⟨g, 0, none⟩) (κ + 1) capm] (w5.setCell ⟨g, κ * 5, none⟩ (.int .i64 (goes n t R xs κ - 1))) fun e w' => ∃ g', e = .returned (.tuple #[.slice (some ⟨g', 0, none⟩) (κ + 1) (κ + 1), .nilIface]) ∧ (w5.setCell ⟨g, κ * 5, none⟩ (.int .i64 (goes n t R xs κ - 1))).heap.size ≤ g' ∧ RowB w' g' (κ + 1) (bok n t R (soon n t R xs κ x)) ∧ Below (w5.setCell ⟨g, κ * 5, none⟩ (.int .i64 (goes n t R xs κ - 1))).heap.size (w5.setCell ⟨g, κ * 5, none⟩ (.int .i64 (goes n t R xs κ - 1))) w') := HCF2
              clear hm5 HCF2
              generalize goes n t R xs κ = G at *
              go_wp2_with (go_at_call 12; refine (HPK.out _).mono ?_; rintro e w' ⟨rfl, rfl⟩)
              refine HC2.out.mono ?_
              rintro e w7 ⟨g', rfl, hg', hr7, hb7⟩
              have a7 := hr7 κ (by omega)
              rw [HSN.out] at a7
              have hb67 : Below w2.heap.size w2 w7 := hb6.trans (hb7.mono hb6.size)
              clear hr7 hg' e0 e1 e2 m0 f0 c0 t0
              go_wp2
              go_ret
              exact ⟨rfl, hB2.trans (hb67.mono hB2.size)⟩
          · obtain ⟨κ1, hκ1⟩ : ∃ κ1, κ = κ1 + 1 := ⟨κ - 1, by omega⟩
            have tk1 := HK2.out.2.2.2 κ1 (by omega)
            have t1 : w5.cell? ⟨gt, κ1, none⟩ = some (.int .i64 (goes n t R xs κ1)) := hk HB5.out (lt_of_cell tk1) tk1
            have hsp : (sst n t R xs κ).2 = goes n t R xs κ1 := by rw [hκ1]; exact sst_prev (by omega)
            have hd : decide (0 < κ) = true := by simp; omega
            have hκ2 : (κ1 : Int) < (xs.length : Int) := by omega
            have hwk : IntKind.i64.wrap ((κ : Int) - 1) = (κ1 : Int) := by
              rw [hκ1, show (((κ1 + 1 : Nat) : Int) - 1) = (κ1 : Int) by omega]; rw [IntKind.wrap_i64]; omega
            rw [hsp] at hgb1
            clear hκ0 tk1 hκ1
            by_cases hmx : x.a < goes n t R xs κ1
            · by_cases hge : goes n t R xs κ = goes n t R xs κ1
              · rw [hge] at t0
                clear hge hsp hgb1 hgx
                generalize goes n t R xs κ1 = G1 at *
                go_wp2_with (go_at_call 12; refine (HPK.out _).mono ?_; rintro e w' ⟨rfl, rfl⟩)
                go_ret
                exact ⟨rfl, hB2.trans (HB5.out.mono hB2.size)⟩
              · have HGT : Hid (x.a < goes n t R xs κ ∧ (sst n t R xs κ).2 < goes n t R xs κ) := ⟨by omega, by rw [hsp]; omega⟩
                have hgn : (goes n t R xs κ == goes n t R xs κ1) = false := by simp only [beq_eq_false_iff_ne]; exact hge
                have hG0 : 0 < goes n t R xs κ ∧ goes n t R xs κ ≤ 1000000000 := by omega
                obtain ⟨hG1, hG2⟩ := hG0
                clear hge hsp hgb1 hgx
                generalize goes n t R xs κ1 = G1 at *
                have hm5 := mvd_at (n := n) (t := t) (R := R) (m := xs.length) HXK.out
                rw [if_pos hκ] at hm5
                have HM5 : Hid ((mvd n t R xs xs.length)[κ]? = some { x with a := goes n t R xs κ }) := hm5
                obtain ⟨m0, _⟩ := HO5.out.items κ _ hm5
                simp only [Nat.zero_add] at m0
                have f0 := HO5.out.free (κ * 5)
                have HSN : Hid (bok n t R (soon n t R xs κ x) κ = false) := sooner HF.out H.out.1.1 H.out.2.1.1 H.out.2.2.1 HXK.out HG.out _ (fun j hj => soon_at hj) (soon_last hκ) HGT.out.1 HGT.out.2
                have HIT : Hid (ItemsAt (w5.setCell ⟨g, κ * 5, none⟩ (.int .i64 (goes n t R xs κ - 1))) (some ⟨g, 0, none⟩) (soon n t R xs κ x)) := by
                  refine Or.inr ⟨g, 0, rfl, ?_⟩
                  have h1 := ((HO5.out.set HM5.out (goes n t R xs κ - 1)).items).take (κ + 1)
                  rw [List.take_set] at h1
                  exact h1
                have hb6 : Below w2.heap.size w2 (w5.setCell ⟨g, κ * 5, none⟩ (.int .i64 (goes n t R xs κ - 1))) := HB5.out.setCell hgb _
                have HCF2 := conform_yes n t R (some ⟨g, 0, none⟩) capm (soon n t R xs κ x) _ H.out (okL_soon HN.out H.out.1.1 HG.out HXK.out HGT.out.1 HGT.out.2) (HLb.out.below' hb6) HIT.out
                rw [soon_length hκ] at HCF2
                have e0 := hk hb6 (lt_of_cell HK2.out.1) HK2.out.1
                have e1 := hk hb6 (lt_of_cell HK2.out.2.1) HK2.out.2.1
                have e2 := hk hb6 (lt_of_cell HK2.out.2.2.1) HK2.out.2.2.1
                have HC2 : Hid (Calls Tryd.prog 7 #[.agg #[.int .i64 n, .int .i64 t, .int .i64 R], .slice (some ⟨g, 0, none⟩) (κ + 1) capm] (w5.setCell ⟨g, κ * 5, none⟩ (.int .i64 (goes n t R xs κ - 1))) fun e w' => ∃ g', e = .returned (.tuple #[.slice (some ⟨g', 0, none⟩) (κ + 1) (κ + 1), .nilIface]) ∧ (w5.setCell ⟨g, κ * 5, none⟩ (.int .i64 (goes n t R xs κ - 1))).heap.size ≤ g' ∧ RowB w' g' (κ + 1) (bok n t R (soon n t R xs κ x)) ∧ Below (w5.setCell ⟨g, κ * 5, none⟩ (.int .i64 (goes n t R xs κ - 1))).heap.size (w5.setCell ⟨g, κ * 5, none⟩ (.int .i64 (goes n t R xs κ - 1))) w') := HCF2
                clear hm5 HCF2
                generalize goes n t R xs κ = G at *
                go_wp2_with (go_at_call 12; refine (HPK.out _).mono ?_; rintro e w' ⟨rfl, rfl⟩)
                refine HC2.out.mono ?_
                rintro e w7 ⟨g', rfl, hg', hr7, hb7⟩
                have a7 := hr7 κ (by omega)
                rw [HSN.out] at a7
                have hb67 : Below w2.heap.size w2 w7 := hb6.trans (hb7.mono hb6.size)
                clear hr7 hg' e0 e1 e2 m0 f0 c0 t0
                go_wp2
                go_ret
                exact ⟨rfl, hB2.trans (hb67.mono hB2.size)⟩
            · by_cases hge : goes n t R xs κ = x.a
              · rw [hge] at t0
                clear hge hsp hgb1 hgx
                generalize goes n t R xs κ1 = G1 at *
                go_wp2_with (go_at_call 12; refine (HPK.out _).mono ?_; rintro e w' ⟨rfl, rfl⟩)
                go_ret
                exact ⟨rfl, hB2.trans (HB5.out.mono hB2.size)⟩
              · have HGT : Hid (x.a < goes n t R xs κ ∧ (sst n t R xs κ).2 < goes n t R xs κ) := ⟨by omega, by rw [hsp]; omega⟩
                have hgn : (goes n t R xs κ == x.a) = false := by simp only [beq_eq_false_iff_ne]; exact hge
                have hG0 : 0 < goes n t R xs κ ∧ goes n t R xs κ ≤ 1000000000 := by omega
                obtain ⟨hG1, hG2⟩ := hG0
                clear hge hsp hgb1 hgx
                generalize goes n t R xs κ1 = G1 at *
                have hm5 := mvd_at (n := n) (t := t) (R := R) (m := xs.length) HXK.out
                rw [if_pos hκ] at hm5
                have HM5 : Hid ((mvd n t R xs xs.length)[κ]? = some { x with a := goes n t R xs κ }) := hm5
                obtain ⟨m0, _⟩ := HO5.out.items κ _ hm5
                simp only [Nat.zero_add] at m0
                have f0 := HO5.out.free (κ * 5)
                have HSN : Hid (bok n t R (soon n t R xs κ x) κ = false) := sooner HF.out H.out.1.1 H.out.2.1.1 H.out.2.2.1 HXK.out HG.out _ (fun j hj => soon_at hj) (soon_last hκ) HGT.out.1 HGT.out.2
                have HIT : Hid (ItemsAt (w5.setCell ⟨g, κ * 5, none⟩ (.int .i64 (goes n t R xs κ - 1))) (some ⟨g, 0, none⟩) (soon n t R xs κ x)) := by
                  refine Or.inr ⟨g, 0, rfl, ?_⟩
                  have h1 := ((HO5.out.set HM5.out (goes n t R xs κ - 1)).items).take (κ + 1)
                  rw [List.take_set] at h1
                  exact h1
                have hb6 : Below w2.heap.size w2 (w5.setCell ⟨g, κ * 5, none⟩ (.int .i64 (goes n t R xs κ - 1))) := HB5.out.setCell hgb _
                have HCF2 := conform_yes n t R (some ⟨g, 0, none⟩) capm (soon n t R xs κ x) _ H.out (okL_soon HN.out H.out.1.1 HG.out HXK.out HGT.out.1 HGT.out.2) (HLb.out.below' hb6) HIT.out
                rw [soon_length hκ] at HCF2
                have e0 := hk hb6 (lt_of_cell HK2.out.1) HK2.out.1
                have e1 := hk hb6 (lt_of_cell HK2.out.2.1) HK2.out.2.1
                have e2 := hk hb6 (lt_of_cell HK2.out.2.2.1) HK2.out.2.2.1
                have HC2 : Hid (Calls Tryd.prog 7 #[.agg #[.int .i64 n, .int .i64 t, .int .i64 R], .slice (some ⟨g, 0, none⟩) (κ + 1) capm] (w5.setCell ⟨g, κ * 5, none⟩ (.int .i64 (goes n t R xs κ - 1))) fun e w' => ∃ g', e = .returned (.tuple #[.slice (some ⟨g', 0, none⟩) (κ + 1) (κ + 1), .nilIface]) ∧ (w5.setCell ⟨g, κ * 5, none⟩ (.int .i64 (goes n t R xs κ - 1))).heap.size ≤ g' ∧ RowB w' g' (κ + 1) (bok n t R (soon n t R xs κ x)) ∧ Below (w5.setCell ⟨g, κ * 5, none⟩ (.int .i64 (goes n t R xs κ - 1))).heap.size (w5.setCell ⟨g, κ * 5, none⟩ (.int .i64 (goes n t R xs κ - 1))) w') := HCF2
                clear hm5 HCF2
                generalize goes n t R xs κ = G at *
                go_wp2_with (go_at_call 12; refine (HPK.out _).mono ?_; rintro e w' ⟨rfl, rfl⟩)
                refine HC2.out.mono ?_
                rintro e w7 ⟨g', rfl, hg', hr7, hb7⟩
                have a7 := hr7 κ (by omega)
                rw [HSN.out] at a7
                have hb67 : Below w2.heap.size w2 w7 := hb6.trans (hb7.mono hb6.size)
                clear hr7 hg' e0 e1 e2 m0 f0 c0 t0
                go_wp2
                go_ret
                exact ⟨rfl, hB2.trans (hb67.mono hB2.size)⟩

set_option maxRecDepth 50000 in
set_option maxHeartbeats 2000000 in
theorem shaped_nil (n t R : Int) (x0 : Option Addr) (cap : Nat) (wh : Int) (w : World) (h : okB n t R) (hL : Laid w) (hcap : x0 = none → cap = 0) :
    Calls Tryd.prog 5 #[.agg #[.int .i64 n, .int .i64 t, .int .i64 R], .slice x0 0 cap, .int .i64 wh] w fun e w' => e = .returned (.bool true) ∧ Below w.heap.size w w' := by
  obtain ⟨i0, hi, hz0, hz1, hz2⟩ := info_parts infoIt
  have hlN : okL [] := by unfold okL; decide
  have hGN : Goes n t R [] 0 := fun j y hj => absurd hj (Nat.not_lt_zero j)
  have H : Hid (okB n t R) := h
  have HL : Hid (Laid w) := hL
  have hB0 : Below w.heap.size w (w.alloc (.cells #[.int .i64 n, .int .i64 t, .int .i64 R] 25)) := (Below.refl _ _).alloc (Nat.le_refl _) _
  have hk : ∀ {a b : World} {B p o : Nat} {v : Value}, Below B a b → p < B → a.cell? ⟨p, o, none⟩ = some v → b.cell? ⟨p, o, none⟩ = some v := fun hb hp hc => (hb.cell hp).trans hc
  have HC := shape_good n t R x0 cap [] _ h hlN hGN (hL.below hB0) (Or.inl rfl)
  have HCN : Hid (∀ (x : Option Addr) (cap : Nat) (W : World), Laid W → Calls Tryd.prog 7 #[.agg #[.int .i64 n, .int .i64 t, .int .i64 R], .slice x 0 cap] W fun e w' => ∃ g, e = .returned (.tuple #[.slice (some ⟨g, 0, none⟩) 0 0, .nilIface]) ∧ Below W.heap.size W w') := fun x cap W hW => (conform_yes n t R x cap [] W h hlN hW (Or.inl rfl)).mono (by rintro e w' ⟨g, rfl, _, _, hb⟩; exact ⟨g, rfl, hb⟩)
  simp only [List.length_nil] at HC
  clear hL h hlN hGN
  go_enter Tryd.func5, Tryd.ntmps5
  go_wp2_with fail
  refine HC.mono ?_
  clear HC
  rintro e w1 ⟨v, rfl, ho1, hb1⟩
  obtain ⟨xv, cv, rfl⟩ : ∃ xv cv, v = .slice xv 0 cv := by
    rcases ho1.2 with ⟨rfl, _⟩ | ⟨g, cp, _, hv, _⟩
    · exact ⟨_, _, rfl⟩
    · exact ⟨_, _, hv⟩
  have c0 : w1.cell? ⟨w.heap.size, 0, none⟩ = some (.int .i64 n) := by rw [hb1.cell (by simp)]; simp
  have c1 : w1.cell? ⟨w.heap.size, 1, none⟩ = some (.int .i64 t) := by rw [hb1.cell (by simp)]; simp
  have c2 : w1.cell? ⟨w.heap.size, 2, none⟩ = some (.int .i64 R) := by rw [hb1.cell (by simp)]; simp
  have hB1 : Below w.heap.size w w1 := hB0.trans (hb1.mono (by simp))
  have HK1 : Hid (w1.cell? ⟨w.heap.size, 0, none⟩ = some (.int .i64 n) ∧ w1.cell? ⟨w.heap.size, 1, none⟩ = some (.int .i64 t) ∧ w1.cell? ⟨w.heap.size, 2, none⟩ = some (.int .i64 R)) := ⟨c0, c1, c2⟩
  clear ho1 c0 c1 c2 hb1
  go_wp2_with fail
  refine (poured_true _).mono ?_
  rintro e w2 ⟨rfl, hb2⟩
  have hB2 : Below w.heap.size w w2 := hB1.trans (hb2.mono hB1.size)
  have HK2 : Hid (w2.cell? ⟨w.heap.size, 0, none⟩ = some (.int .i64 n) ∧ w2.cell? ⟨w.heap.size, 1, none⟩ = some (.int .i64 t) ∧ w2.cell? ⟨w.heap.size, 2, none⟩ = some (.int .i64 R)) := ⟨hk hb2 (lt_of_cell HK1.out.1) HK1.out.1, hk hb2 (lt_of_cell HK1.out.2.1) HK1.out.2.1, hk hb2 (lt_of_cell HK1.out.2.2) HK1.out.2.2⟩
  clear hb2 hB1 hB0
  have hB3 := hB2.alloc hB2.size (.cells #[] 36)
  have hb23 : Below w2.heap.size w2 (w2.alloc (.cells #[] 36)) := (Below.refl _ _).alloc (Nat.le_refl _) _
  have d0 := hk hb23 (lt_of_cell HK2.out.1) HK2.out.1
  have d1 := hk hb23 (lt_of_cell HK2.out.2.1) HK2.out.2.1
  have d2 := hk hb23 (lt_of_cell HK2.out.2.2) HK2.out.2.2
  cases x0 with
  | none =>
    go_wp2
    refine wp_loop_rounds 1 ?_
    rw [rounds_succ]
    go_wp2_with fail
    refine (HCN.out _ _ _ (HL.out.below hB3)).mono ?_
    rintro e w5 ⟨gx, rfl, hb5⟩
    go_wp2
    refine wp_loop_rounds 1 ?_
    rw [rounds_succ]
    go_wp2
    go_ret
    exact ⟨rfl, hB3.trans (hb5.mono hB3.size)⟩
  | some a =>
    clear hcap
    go_wp2
    refine wp_loop_rounds 1 ?_
    rw [rounds_succ]
    go_wp2_with fail
    refine (HCN.out _ _ _ (HL.out.below hB3)).mono ?_
    rintro e w5 ⟨gx, rfl, hb5⟩
    go_wp2
    refine wp_loop_rounds 1 ?_
    rw [rounds_succ]
    go_wp2
    go_ret
    exact ⟨rfl, hB3.trans (hb5.mono hB3.size)⟩
theorem shaped_any (n t R : Int) (x : Option Addr) (cap : Nat) (xs : List It) (wh : Int) (w : World) (hL : Laid w) (hI : ItemsAt w x xs) (hm : xs.length ≤ maxLen) (hcap : x = none → cap = 0) :
    Calls Tryd.prog 5 #[.agg #[.int .i64 n, .int .i64 t, .int .i64 R], .slice x xs.length cap, .int .i64 wh] w fun e w' => e = .returned (.bool true) ∧ Below w.heap.size w w' := by
  by_cases h : okB n t R ∧ okL xs ∧ Goes n t R xs xs.length
  · by_cases hne : xs = []
    · subst hne
      exact shaped_nil n t R x cap wh w h.1 hL hcap
    · rcases hI with hI | ⟨b, off, rfl, hI⟩
      · exact absurd hI hne
      · exact shaped_yes n t R b off cap xs wh w h.1 h.2.1 h.2.2 hL hI hne
  · exact shaped_err n t R x cap xs wh w h hL hI hm
end Go.Proofs.YtbghhnafpflmdabDoor
